/-
  SidePrints, up to the bulk, for every script, every two texts' lines and every width: both columns are the document's, or the error; and so are the columns' places. (The card: the row lists errors.errorType, which the proof uses.)
-/
import Derived.Test.YtjgjfnmljmmplaaDoorSw
import Derived.Test.YtjgjfnmljmmplaaDoorCards
import Derived.Test.YtjgjfnmljmmplaaDoorTie
import Derived.Test.YtjgjfnmljmmplaaDoorHandle
namespace Go.Proofs.YtjgjfnmljmmplaaDoor.sidePrints
open Go.ChangeShapes Go.WideShapes Go.ChangeAt Go.RowKit
open Go.ChangeMaps (open_string shut_string)
open Ed (Ch Run Pr)

set_option maxHeartbeats 4000000 in
set_option maxRecDepth 100000 in
theorem walk (v : Value) (s : List Ch) (va : Value) (A : List ByteArray) (vb : Value) (Bl : List ByteArray) (x3 : Int) (w : World) (hr : RdC w v s) (hwf : ∀ c ∈ s, WfC c) (hl : s.length ≤ 1048576) (_hsh : ArgS v)
    (hra : RdT w va A) (_ : ∀ c ∈ A, SzS c) (hfa : A.length + (flatB A).length ≤ 1048576) (_ : ArgS va)
    (hrb : RdT w vb Bl) (_ : ∀ c ∈ Bl, SzS c) (hfb : Bl.length + (flatB Bl).length ≤ 1048576) (_ : ArgS vb) (hg : ErrVar w) :
    Calls Tryd.prog 3 #[.agg #[v, va, vb, .int .i64 x3]] w fun e w' => e = .returned (.bool true) ∧ Below w.heap.size w w' := by
  have hxa : ∀ x ∈ A, x.size ≤ 1099511627776 := fun x hx => by have := flat_mem hx; omega
  have hxb : ∀ x ∈ Bl, x.size ≤ 1099511627776 := fun x hx => by have := flat_mem hx; omega
  have HS := hid (fun w1 (h1 : Below w.heap.size w w1) => Sy.sure_any w1 (hg.below h1))
  have HM := hid (fun (k : Nat) (w1 : World) (h1 : Below w.heap.size w w1) => num_any k w1 (hg.below h1))
  have HP1 := hid (fun w1 (hb : Below w.heap.size w w1) => Sy.print_all (wd := x3) (RdX.below hr hb) hwf (by omega) (RdX.below hra hb) (RdX.below hrb hb) hxa hxb (by omega) (by omega))
  have HP2 := hid (fun w1 (hb : Below w.heap.size w w1) => Sy.refPrint_all (wd := x3) (RdX.below hr hb) hwf hl (RdX.below hra hb) (RdX.below hrb hb) hxa hxb (by omega) (by omega))
  have HC1 := hid (fun w1 => Sy.cols_any x3 w1)
  have HC2 := hid (fun w1 => Sy.refCols_any x3 w1)
  generalize Sy.sdT s A Bl x3 = Z at HP1 HP2
  generalize Sy.sdE s A Bl x3 = K at HP1 HP2
  generalize Sy.colE x3 = L at HC1 HC2
  generalize Sy.colH x3 = c1 at HC1 HC2
  generalize Sy.colS x3 = c2 at HC1 HC2
  have z1 := Sy.eq_yes Z
  have z2 : ((K : Int) == (K : Int)) = true := beq_self_eq_true _
  have z3 : ((L : Int) == (L : Int)) = true := beq_self_eq_true _
  have z4 : ((c1 : Int) == (c1 : Int)) = true := beq_self_eq_true _
  have z5 : ((c2 : Int) == (c2 : Int)) = true := beq_self_eq_true _
  clear hr hwf hl hra hfa hrb hfb hg hxa hxb
  go_enter Tryd.func3, Tryd.ntmps3
  go_wp2_with fail
  have hb0 := (Below.refl w.heap.size w).alloc (Nat.le_refl _) (.cells #[v, va, vb, .int .i64 x3] 25)
  have hn0 := heap_alloc_new w (.cells #[v, va, vb, .int .i64 x3] 25)
  have hs0 : w.heap.size < (w.alloc (.cells #[v, va, vb, .int .i64 x3] 25)).heap.size := by simp
  generalize w.alloc (.cells #[v, va, vb, .int .i64 x3] 25) = w0 at hb0 hn0 hs0 ⊢
  have HC : Hid (∀ w', Below w0.heap.size w0 w' → w'.cell? ⟨w.heap.size, 0, none⟩ = some v ∧ w'.cell? ⟨w.heap.size, 1, none⟩ = some va ∧ w'.cell? ⟨w.heap.size, 2, none⟩ = some vb ∧ w'.cell? ⟨w.heap.size, 3, none⟩ = some (.int .i64 x3)) := hid (fun w' h => by
    have h1 := (h.block w.heap.size hs0).trans hn0
    exact ⟨cell_of_blk h1 0, cell_of_blk h1 1, cell_of_blk h1 2, cell_of_blk h1 3⟩)
  have HW : Hid (∀ w', Below w0.heap.size w0 w' → Below w.heap.size w w') := hid (fun w' h => hb0.trans (h.mono (Nat.le_of_lt hs0)))
  have HB0 := hid (Below.refl w0.heap.size w0)
  clear hb0 hn0 hs0
  refine (HP1.out _ (HW.out _ HB0.out)).mono ?_
  rintro e w1 ⟨rfl, hb1⟩
  have HB1 := hid (HB0.out.trans (hb1.mono HB0.out.size))
  clear hb1
  obtain ⟨t0, t1, t2, t3⟩ := HC.out _ HB1.out
  go_wp2_with fail
  refine (HP2.out _ (HW.out _ HB1.out)).mono ?_
  rintro e w2 ⟨rfl, hb2⟩
  have HB2 := hid (HB1.out.trans (hb2.mono HB1.out.size))
  clear hb2
  clear t0 t1 t2 t3
  obtain ⟨t0, t1, t2, t3⟩ := HC.out _ HB2.out
  go_wp2_with fail
  refine (HC1.out w2).mono ?_
  rintro e w3 ⟨rfl, hb3⟩
  have HB3 := hid (HB2.out.trans (hb3.mono HB2.out.size))
  clear hb3
  clear t0 t1 t2 t3
  obtain ⟨t0, t1, t2, t3⟩ := HC.out _ HB3.out
  go_wp2_with fail
  refine (HC2.out w3).mono ?_
  rintro e w4 ⟨rfl, hb4⟩
  have HB4 := hid (HB3.out.trans (hb4.mono HB3.out.size))
  clear hb4
  clear t0 t1 t2 t3
  go_wp2_with fail
  refine (HM.out K w4 (HW.out _ HB4.out)).mono ?_
  rintro e w5 ⟨rfl, hb5⟩
  have HB5 := hid (HB4.out.trans (hb5.mono HB4.out.size))
  clear hb5
  go_wp2_with fail
  refine (HM.out L w5 (HW.out _ HB5.out)).mono ?_
  rintro e w6 ⟨rfl, hb6⟩
  have HB6 := hid (HB5.out.trans (hb6.mono HB5.out.size))
  clear hb6
  go_wp2_with fail
  refine (HS.out w6 (HW.out _ HB6.out)).mono ?_
  rintro e w7 ⟨rfl, hb7⟩
  have HB7 := hid (HB6.out.trans (hb7.mono HB6.out.size))
  clear hb7
  go_wp2_with fail
  go_ret
  exact ⟨rfl, HW.out _ HB7.out⟩

theorem own : ownKnob Tryd.prog.godebug = none := by kernel_rfl

set_option maxRecDepth 100000 in
theorem contract (H : Type) (enc : TypeId × Value → H) (W : World) (base : Nat) (args : Array Value) (ds gs : List (DataW H)) (before : List MemPlace)
    (hval : ∀ (j : Nat) t v, Tryd.f3.params[j]? = some t → args[j]? = some v → Value.okWide Tryd.prog W .any base t v)
    (hW : DataW.Whole enc Tryd.prog Tryd.f3.params.toList Rows.sidePrintsSpec.vars false W args.toList ds gs before)
    (hk : Rows.uptoSmall H (ds ++ gs) = true)
    (hL : laidMetH Tryd.prog Rows.sidePrintsUptoRow.laid W)
    : Calls Tryd.prog 3 args W fun e W' => ∃ v, e = .returned v ∧ Rows.sidePrintsSpec.post enc Tryd.prog Tryd.f3 false true false false W args v W' := by
  have hW' := hW
  obtain ⟨p, q, hA0, hV, rfl, hfz, hnd⟩ := hW
  have hA : DataW.TrodAll enc Tryd.prog W 0 (fun _ => true) true Tryd.f3.params.toList args.toList ds p := hA0
  rw [Tryd.params3] at hA hval
  obtain ⟨v0, vs0, d0, ds0, p0, q0, hargs0, rfl, rfl, h0, r0⟩ := trodAll_cons hA
  obtain ⟨rfl, rfl, rfl⟩ := trodAll_nil r0
  obtain rfl : args = #[v0] := by cases args; simp_all
  obtain ⟨rfl, rfl⟩ := trodVars_none hV
  obtain ⟨v0_0, x0_0, v0_1, x0_1, v0_2, x0_2, x0_3, rfl, hr0_0, hw0_0, hs0_0, hr0_1, hw0_1, hs0_1, hr0_2, hw0_2, hs0_2, hq0⟩ := open_case15 h0
  clear hA0
  simp only [List.append_nil] at hW' hk
  have hk' : Rows.uptoBulkAll (H := H) [d0] ≤ 1048576 := of_decide_eq_true hk
  simp only [Rows.uptoBulkAll] at hk'
  have hlen0 := hq0 (by omega)
  have hlt0 : ∀ x ∈ p0, x.block < W.heap.size := fun x hx => by simpa using hW'.lt x (by simp [hx])
  refine (walk v0_0 x0_0 v0_1 x0_1 v0_2 x0_2 x0_3 W hr0_0 hw0_0 hlen0.1 hs0_0 hr0_1 hw0_1 hlen0.2.1 hs0_1 hr0_2 hw0_2 hlen0.2.2 hs0_2 (handle_of hL)).mono fun e W' ⟨he, hb⟩ => ?_
  subst he
  exact ⟨_, rfl, _, _, _, [], (p0 ++ []), [], hW', trodAll_cons_mk (shut_bool Tryd.underlying4 _) trodAll_mk0, trodAll_cons_mk (Below.trod laidOut (by kernel_rfl) (of_decide_eq_true (by kernel_rfl)) h0 hb hlt0) trodAll_mk0, rfl, hb.frame _, fun h => by cases h⟩

set_option maxRecDepth 100000 in
theorem lifted (os : Os) (started : os.Started) (H : Type) (enc : TypeId × Value → H) (F : Stop.Interp) :
    ReturnsInHanded {} Tryd.checked os 3 .any ((Rows.OpenSpec.upto Rows.sidePrintsSpec).preRow enc Tryd.prog Tryd.f3 Rows.sidePrintsUptoRow.domain false Rows.sidePrintsUptoRow.laid) (((Rows.OpenSpec.upto Rows.sidePrintsSpec).at F).post enc Tryd.prog Tryd.f3 false true false false) := by
  refine returnsInHanded_of_row (C := Tryd.checked) (s := Rows.OpenSpec.upto Rows.sidePrintsSpec) own started (by kernel_rfl) Tryd.func3
    (witness_row_at (enc := enc) (C := Tryd.checked) false
      { World.holding Tryd.prog os ⟨#[], #[], []⟩ with heap := (World.holding Tryd.prog os ⟨#[], #[], []⟩).heap.modify 0 fun
          | .cells _ t frozen => .cells #[.iface 112 (.agg #[.pointer (some ⟨2, 27, none⟩)])] t frozen
          | o => o }
      #[.agg #[.slice none 0 0, .slice none 0 0, .slice none 0 0, .int .i64 0]] rfl (by kernel_rfl) (by kernel_rfl) (by kernel_rfl)
      (OpenSpec.preRow_of_cond 8 (x := ([.agg [.nil, .nil, .nil, .lit (.int .i64 0)]], [], [])) (by kernel_rfl) (by kernel_rfl) (fun k hk => by cases hk; kernel_rfl) (by kernel_rfl) (laidMetH_of_parts (laidMet_nil _ _) (by kernel_rfl)))) ?_
  intro W base args ds gs before hval hW _ hcond hsz hL _ _
  exact contract H enc W base args ds gs before hval hW (hcond _ rfl) hL

theorem said : Rows.SidePrintsUptoSaid :=
  OpenClaim.holds_of_cond 3 Tryd.f3 rfl rfl rfl rfl rfl rfl rfl ⟨rfl, rfl, rfl, rfl, rfl⟩ rfl rfl rfl rfl rfl (by kernel_rfl) Tryd.func3 (by kernel_rfl)
    (of_decide_eq_true (by kernel_rfl)) (by unfold Func.isWrapper; first | (rw [if_pos (by decide +kernel)]; kernel_rfl) | (rw [if_neg (by decide +kernel)]; exact ⟨rfl, rfl⟩))
    (fun os started H enc _ F => by rw [OpenClaim.pre_eq_preRow]; exact lifted os started H enc F)

theorem plain (f : FuncId) (fn : Func) (hf : Tryd.pinned.checked.prog.funcNamed Rows.sidePrintsUptoRow.func = some f) (hfn : Tryd.pinned.checked.prog.funcs[f]? = some fn) :
    true = Tryd.pinned.checked.prog.looks [] ∧ ∀ (j : Nat) t, fn.params[j]? = some t → Tryd.pinned.checked.prog.wantsStandIn t = false := by
  obtain rfl : f = 3 := Option.some.inj ((show Tryd.prog.funcNamed Rows.sidePrintsUptoRow.func = some 3 by kernel_rfl).symm.trans hf) |>.symm
  obtain rfl : fn = Tryd.f3 := (Option.some.inj (Tryd.func3.symm.trans hfn)).symm
  refine ⟨by kernel_rfl, fun j t ht => ?_⟩
  rw [Tryd.params3] at ht
  have hm : t = 25 := by simpa using Array.mem_of_getElem? ht
  rcases hm with rfl
  · exact (show Tryd.prog.wantsStandIn 25 = false by kernel_rfl)

theorem card : Rows.SidePrintsUptoCardSaid :=
  Claim7.holds_tied_plain_at .later [] _ _ _ _ said (fun _ h => by cases h) (by kernel_rfl) (fun _ h => by cases h) sidePrintsUpto_row_tie rfl ⟨rfl, rfl⟩ (by kernel_rfl) rfl plain (by kernel_rfl)
end Go.Proofs.YtjgjfnmljmmplaaDoor.sidePrints
