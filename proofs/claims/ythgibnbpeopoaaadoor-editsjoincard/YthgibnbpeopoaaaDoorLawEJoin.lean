/-
  PROVED: the card of EditsJoin: for every two lists of changes and every three integers EditsJoin returns true, and all read afterwards as they read before; the card ties what errors.errorType holds to the program's text (a pruned copy of the project: the packages that this law loads).
-/
import Derived.Test.YthgibnbpeopoaaaDoorC6
import Derived.Test.YthgibnbpeopoaaaDoorDj
import Derived.Test.YthgibnbpeopoaaaDoorDl
import Derived.Test.YthgibnbpeopoaaaDoorD0
import Derived.Test.YthgibnbpeopoaaaDoorHandle
namespace Go.Proofs.YthgibnbpeopoaaaDoor.editsJoin
open Go.ChangeShapes Go.WideShapes Go.ChangeAt Go.RowKit
open Go.ChangeMaps (open_string shut_string)
open Ed (Ch Run Pr)

theorem joinA_len (s t : List Ch) (n m k : Int) : (joinA s t n m k).length ≤ 8388608 := by
  unfold joinA
  split
  · next h => exact Val_len (Ed.join_Val (Ed.validN_zero.1 h.1) (Ed.validN_zero.1 h.2)).1
  · simp

set_option maxHeartbeats 4000000 in
set_option maxRecDepth 100000 in
theorem walk (v : Value) (s : List Ch) (u : Value) (t : List Ch) (n m k : Int) (w : World) (hr : RdC w v s) (hwf : ∀ c ∈ s, WfC c) (hl : s.length ≤ 4398046510976) (hsh : ArgS v)
    (hu : RdC w u t) (hwt : ∀ c ∈ t, WfC c) (hlt : t.length ≤ 4398046510976) (hsu : ArgS u) (hg : ErrVar w) :
    Calls Tryd.prog 4 #[.agg #[v, u, .int .i64 n, .int .i64 m, .int .i64 k]] w fun e w' => e = .returned (.bool true) ∧ Below w.heap.size w w' := by
  have HR := hid hr
  have HU := hid hu
  have HG := hid hg
  have HWF := hid hwf
  have HWT := hid hwt
  have HSH := hid hsh
  have HSU := hid hsu
  obtain ⟨a0, c0, rfl⟩ := hr.shape
  obtain ⟨a1, c1, rfl⟩ := hu.shape
  have hal := joinA_len s t n m k
  clear hr hwf hg hsh hu hwt hsu
  have HT1 := hid (fun w1 (hb : Below w.heap.size w w1) => twin_any (HR.out.below hb) HSH.out (by omega))
  have HT2 := hid (fun w1 (hb : Below w.heap.size w w1) => twin_any (HU.out.below hb) HSU.out (by omega))
  have HJ1 := hid (fun w1 v1 v2 (h1 : RdC w1 v1 s) (h2 : RdC w1 v2 t) => join_all (n := n) (m := m) (k := k) h1 HWF.out (by omega) h2 HWT.out (by omega))
  have HJ2 := hid (fun w1 v1 v2 (h1 : RdC w1 v1 s) (h2 : RdC w1 v2 t) => refJoin_all (n := n) (m := m) (k := k) h1 HWF.out (by omega) h2 HWT.out (by omega))
  generalize joinN s t n m k = K at HJ1 HJ2
  generalize joinA s t n m k = J at HJ1 HJ2 hal
  have z : ((K : Int) == (K : Int)) = true := zeq rfl
  have hbA : Below w.heap.size w (w.alloc (.cells #[.slice a0 s.length c0, .slice a1 t.length c1, .int .i64 n, .int .i64 m, .int .i64 k] 37)) := (Below.refl _ _).alloc (Nat.le_refl _) _
  have hgA := heap_alloc_new w (.cells #[.slice a0 s.length c0, .slice a1 t.length c1, .int .i64 n, .int .i64 m, .int .i64 k] 37)
  go_enter Tryd.func4, Tryd.ntmps4
  go_wp2_with fail
  generalize (w.alloc (.cells #[.slice a0 s.length c0, .slice a1 t.length c1, .int .i64 n, .int .i64 m, .int .i64 k] 37)) = w0 at hbA hgA ⊢
  have k0 : w0.cell? ⟨w.heap.size, 0, none⟩ = some (.slice a0 s.length c0) := cell_of_blk hgA 0
  have k1 : w0.cell? ⟨w.heap.size, 1, none⟩ = some (.slice a1 t.length c1) := cell_of_blk hgA 1
  have k2 : w0.cell? ⟨w.heap.size, 2, none⟩ = some (.int .i64 n) := cell_of_blk hgA 2
  have k3 : w0.cell? ⟨w.heap.size, 3, none⟩ = some (.int .i64 m) := cell_of_blk hgA 3
  have k4 : w0.cell? ⟨w.heap.size, 4, none⟩ = some (.int .i64 k) := cell_of_blk hgA 4
  have HBA := hid hbA
  obtain ⟨g, hg⟩ : ∃ g, g = w.heap.size := ⟨_, rfl⟩
  rw [← hg] at k0 k1 k2 k3 k4 ⊢
  clear hg hgA hbA
  go_region_held3 (fun w' => w'.cell? ⟨g, 0, none⟩ = some (.slice a0 s.length c0) ∧ w'.cell? ⟨g, 1, none⟩ = some (.slice a1 t.length c1) ∧ w'.cell? ⟨g, 2, none⟩ = some (.int .i64 n) ∧ w'.cell? ⟨g, 3, none⟩ = some (.int .i64 m) ∧ w'.cell? ⟨g, 4, none⟩ = some (.int .i64 k))
    (first
      | go_keep
      | (go_split_ands
         refine ⟨?_, ?_, ?_, ?_, ?_⟩ <;> exact (hbk.cell (lt_of_cell (by assumption))).trans (by assumption)))
    (first
      | (go_at_call 15; refine (HJ1.out _ _ _ HM2.out HN2.out).mono ?_; rintro e w3 ⟨v3, rfl, hO3, hbk⟩; obtain ⟨aj, cj, ej⟩ := own_shape hO3; subst ej; have HJ3 := hid (own_rd hO3); have HB3 : Hid (Below w.heap.size w w3) := hid (HB2.out.trans (hbk.mono HB2.out.size)); have HC3 : Hid (Below w0.heap.size w0 w3) := hid (HC2.out.trans (hbk.mono HC2.out.size)); clear hO3)
      | (go_at_call 16; have hB1 := HB1.out; refine (HT2.out _ hB1).mono ?_; rintro e w2 ⟨v2, rfl, hO2, hbk⟩; obtain ⟨an, cn, en⟩ := own_shape hO2; subst en; have HN2 := hid (own_rd hO2); have HM2 := hid (HM1.out.below hbk); have HB2 : Hid (Below w.heap.size w w2) := hid (hB1.trans (hbk.mono hB1.size)); have HC2 : Hid (Below w0.heap.size w0 w2) := hid (HC1.out.trans (hbk.mono HC1.out.size)); clear hO2 hB1)
      | (go_at_call 16; refine (HT1.out _ (below_drewN HBA.out 1)).mono ?_; rintro e w1 ⟨v1, rfl, hO1, hbk⟩; obtain ⟨am, cm, em⟩ := own_shape hO1; subst em; have HM1 := hid (own_rd hO1); have HB1 : Hid (Below w.heap.size w w1) := hid ((below_drewN HBA.out 1).trans (hbk.mono (below_drewN HBA.out 1).size)); have HC1 : Hid (Below w0.heap.size w0 w1) := hid ((below_drewN (Below.refl w0.heap.size w0) 1).trans hbk); clear hO1))
  have l0 := (HC3.out.cell (lt_of_cell k0)).trans k0
  have l1 := (HC3.out.cell (lt_of_cell k1)).trans k1
  have l2 := (HC3.out.cell (lt_of_cell k2)).trans k2
  have l3 := (HC3.out.cell (lt_of_cell k3)).trans k3
  have l4 := (HC3.out.cell (lt_of_cell k4)).trans k4
  go_wp2_with fail
  refine (HJ2.out _ _ _ (HR.out.below HB3.out) (HU.out.below HB3.out)).mono ?_
  rintro e w4 ⟨v4, rfl, hO4, hb4⟩
  obtain ⟨a4, c4, e4⟩ := own_shape hO4
  subst e4
  have HJ4 := hid (own_rd hO4)
  have HJ3b := hid (HJ3.out.below hb4)
  have HB4 := hid (HB3.out.trans (hb4.mono HB3.out.size))
  clear hO4 hb4
  go_wp2_with fail
  refine (sameChanges_any HJ3b.out HJ4.out (by omega) (by omega)).mono ?_
  rintro e w5 ⟨rfl, hb5⟩
  rw [decide_eq_true rfl]
  have HB5 := hid (HB4.out.trans (hb5.mono HB4.out.size))
  clear hb5
  go_wp2_with fail
  refine (num_any K _ (HG.out.below HB5.out)).mono ?_
  rintro e w6 ⟨rfl, hb6⟩
  have HB6 := hid (HB5.out.trans (hb6.mono HB5.out.size))
  clear hb6
  go_wp2_with fail
  refine (works_any w6 (HG.out.below HB6.out)).mono ?_
  rintro e w7 ⟨rfl, hb7⟩
  have HB7 := hid (HB6.out.trans (hb7.mono HB6.out.size))
  clear hb7
  go_wp2
  go_ret
  exact ⟨rfl, HB7.out⟩

theorem own : ownKnob Tryd.prog.godebug = none := by kernel_rfl

set_option maxRecDepth 100000 in
theorem contract (H : Type) (enc : TypeId × Value → H) (W : World) (base : Nat) (args : Array Value) (ds gs : List (DataW H)) (before : List MemPlace)
    (hval : ∀ (j : Nat) t v, Tryd.f4.params[j]? = some t → args[j]? = some v → Value.okWide Tryd.prog W .any base t v)
    (hW : DataW.Whole enc Tryd.prog Tryd.f4.params.toList Rows.editsJoinSpec.vars false W args.toList ds gs before)
    (hsz : (DataW.weightsEach Tryd.prog (Tryd.f4.params.toList ++ Rows.editsJoinSpec.plain.varTypes Tryd.prog) (ds ++ gs)).all (· ≤ reachBytes) = true)
    (hL : laidMetH Tryd.prog Rows.editsJoinRow.laid W)
    : Calls Tryd.prog 4 args W fun e W' => ∃ v, e = .returned v ∧ Rows.editsJoinSpec.post enc Tryd.prog Tryd.f4 false true false false W args v W' := by
  have hW' := hW
  obtain ⟨p, q, hA0, hV, rfl, hfz, hnd⟩ := hW
  have hA : DataW.TrodAll enc Tryd.prog W 0 (fun _ => true) true Tryd.f4.params.toList args.toList ds p := hA0
  rw [Tryd.params4] at hA hval hsz
  obtain ⟨v0, vs0, d0, ds0, p0, q0, hargs0, rfl, rfl, h0, r0⟩ := trodAll_cons hA
  obtain ⟨rfl, rfl, rfl⟩ := trodAll_nil r0
  obtain rfl : args = #[v0] := by cases args; simp_all
  obtain ⟨rfl, rfl⟩ := trodVars_none hV
  obtain ⟨v0_0, x0_0, v0_1, x0_1, x0_2, x0_3, x0_4, rfl, hr0_0, hw0_0, hs0_0, hr0_1, hw0_1, hs0_1, hq0⟩ := open_two h0
  have hlen0 := hq0 (List.all_eq_true.2 fun n hn => List.all_eq_true.1 hsz n (DataW.weights_mem_each (j := 0) (t := 37) rfl rfl n (by simpa [DataW.weightsEach] using hn)))
  clear hA0 hsz
  simp only [List.append_nil] at hW'
  have hlt0 : ∀ x ∈ p0, x.block < W.heap.size := fun x hx => by simpa using hW'.lt x (by simp [hx])
  refine (walk v0_0 x0_0 v0_1 x0_1 x0_2 x0_3 x0_4 W hr0_0 hw0_0 hlen0.1 hs0_0 hr0_1 hw0_1 hlen0.2 hs0_1 (handle_of hL)).mono fun e W' ⟨he, hb⟩ => ?_
  subst he
  exact ⟨_, rfl, _, _, _, [], (p0 ++ []), [], hW', trodAll_cons_mk (shut_bool Tryd.underlying4 _) trodAll_mk0, trodAll_cons_mk (Below.trod laidOut (by kernel_rfl) (of_decide_eq_true (by kernel_rfl)) h0 hb hlt0) trodAll_mk0, rfl, hb.frame _, fun h => by cases h⟩

set_option maxRecDepth 100000 in
theorem lifted (os : Os) (started : os.Started) (H : Type) (enc : TypeId × Value → H) (F : Stop.Interp) :
    ReturnsInHanded {} Tryd.checked os 4 .any ((OpenSpec.ofChange Rows.editsJoinSpec).preRow enc Tryd.prog Tryd.f4 Rows.editsJoinRow.domain false Rows.editsJoinRow.laid) (((OpenSpec.ofChange Rows.editsJoinSpec).at F).post enc Tryd.prog Tryd.f4 false true false false) := by
  refine returnsInHanded_of_row (C := Tryd.checked) (s := OpenSpec.ofChange Rows.editsJoinSpec) own started (by kernel_rfl) Tryd.func4
    (witness_row_at (enc := enc) (C := Tryd.checked) false
      { World.holding Tryd.prog os ⟨#[], #[], []⟩ with heap := (World.holding Tryd.prog os ⟨#[], #[], []⟩).heap.modify 0 fun
          | .cells _ t frozen => .cells #[.iface 99 (.agg #[.pointer (some ⟨1, 25, none⟩)])] t frozen
          | o => o }
      #[.agg #[.slice none 0 0, .slice none 0 0, .int .i64 0, .int .i64 0, .int .i64 0]] rfl (by kernel_rfl) (by kernel_rfl) (by kernel_rfl)
      (OpenSpec.preRow_of_cond 8 (x := ([.agg [.nil, .nil, .lit (.int .i64 0), .lit (.int .i64 0), .lit (.int .i64 0)]], [], [])) (by kernel_rfl) (by kernel_rfl) (fun k hk => by cases hk) (by kernel_rfl) (laidMetH_of_parts (laidMet_nil _ _) (by kernel_rfl)))) ?_
  intro W base args ds gs before hval hW _ hcond hsz hL _ _
  exact contract H enc W base args ds gs before hval hW hsz hL

theorem said : Rows.EditsJoinSaid :=
  OpenClaim.holds_of_cond 4 Tryd.f4 rfl rfl rfl rfl rfl rfl rfl ⟨rfl, rfl, rfl, rfl, rfl⟩ rfl rfl rfl rfl rfl (by kernel_rfl) Tryd.func4 (by kernel_rfl)
    (of_decide_eq_true (by kernel_rfl)) (by unfold Func.isWrapper; first | (rw [if_pos (by decide +kernel)]; kernel_rfl) | (rw [if_neg (by decide +kernel)]; exact ⟨rfl, rfl⟩))
    (fun os started H enc _ F => by rw [OpenClaim.pre_eq_preRow]; exact lifted os started H enc F)

theorem plain (f : FuncId) (fn : Func) (hf : Tryd.pinned.checked.prog.funcNamed Rows.editsJoinRow.func = some f) (hfn : Tryd.pinned.checked.prog.funcs[f]? = some fn) :
    true = Tryd.pinned.checked.prog.looks [] ∧ ∀ (j : Nat) t, fn.params[j]? = some t → Tryd.pinned.checked.prog.wantsStandIn t = false := by
  obtain rfl : f = 4 := Option.some.inj ((show Tryd.prog.funcNamed Rows.editsJoinRow.func = some 4 by kernel_rfl).symm.trans hf) |>.symm
  obtain rfl : fn = Tryd.f4 := (Option.some.inj (Tryd.func4.symm.trans hfn)).symm
  refine ⟨by kernel_rfl, fun j t ht => ?_⟩
  rw [Tryd.params4] at ht
  have hm : t = 37 := by simpa using Array.mem_of_getElem? ht
  rcases hm with rfl
  · exact (show Tryd.prog.wantsStandIn 37 = false by kernel_rfl)

theorem card : Rows.EditsJoinCardSaid :=
  Claim7.holds_tied_plain_at .later [] _ _ _ _ said (fun _ h => by cases h) (by kernel_rfl) (fun _ h => by cases h) editsJoin_row_tie rfl ⟨rfl, rfl⟩ (by kernel_rfl) rfl plain (by kernel_rfl)
end Go.Proofs.YthgibnbpeopoaaaDoor.editsJoin
