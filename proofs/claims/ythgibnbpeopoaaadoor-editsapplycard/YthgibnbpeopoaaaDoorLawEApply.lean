/-
  PROVED: the card of EditsApply: for every list of changes and every two lists of integers EditsApply returns true, and all read afterwards as they read before; the card ties what errors.errorType holds to the program's text (a pruned copy of the project: the packages that this law loads).
-/
import Derived.Test.YthgibnbpeopoaaaDoorC6
import Derived.Test.YthgibnbpeopoaaaDoorDf
import Derived.Test.YthgibnbpeopoaaaDoorDe
import Derived.Test.YthgibnbpeopoaaaDoorHandle
namespace Go.Proofs.YthgibnbpeopoaaaDoor.editsApply
open Go.ChangeShapes Go.WideShapes Go.ChangeAt Go.RowKit
open Go.ChangeMaps (open_string shut_string)
open Ed (Ch Run Pr)

theorem apl_len (s : List Ch) (a b : List Int) : (aplA s a b).length ≤ 4194304 := by
  unfold aplA
  split
  · next h =>
    have hV := Ed.validN_zero.1 h
    have hn := Ed.cnt_iff.1 hV.1
    have hm := Ed.cnt_iff.1 hV.2.1
    have := apD_length hV.2.2 (Int.le_refl _) (Int.le_refl _) (by omega) (by omega)
    rw [Ed.apply_eq hV]
    omega
  · simp

set_option maxHeartbeats 4000000 in
set_option maxRecDepth 100000 in
theorem walk (v : Value) (s : List Ch) (va : Value) (a : List Int) (vb : Value) (b : List Int) (w : World) (hr : RdC w v s) (hwf : ∀ c ∈ s, WfC c) (hl : s.length ≤ 4398046510976) (hsh : v = .slice none 0 0 ∨ ∃ ad n c, v = .slice (some ad) n c)
    (hra : RdI w va a) (_ : ∀ c ∈ a, I64 c) (_ : a.length ≤ 17592186043904) (hsa : va = .slice none 0 0 ∨ ∃ ad n c, va = .slice (some ad) n c)
    (hrb : RdI w vb b) (_ : ∀ c ∈ b, I64 c) (_ : b.length ≤ 17592186043904) (hsb : vb = .slice none 0 0 ∨ ∃ ad n c, vb = .slice (some ad) n c) (hg : ErrVar w) :
    Calls Tryd.prog 3 #[v, va, vb] w fun e w' => e = .returned (.bool true) ∧ Below w.heap.size w w' := by
  have HR := hid hr
  have HRA := hid hra
  have HRB := hid hrb
  have HG := hid hg
  have HWF := hid hwf
  have HSA : Hid (ArgS va) := hid hsa
  have HSB : Hid (ArgS vb) := hid hsb
  obtain ⟨a0, c0, rfl⟩ := hr.shape
  obtain ⟨aa, ca, rfl⟩ := hra.shape
  obtain ⟨ab, cb, rfl⟩ := hrb.shape
  have hal := apl_len s a b
  clear hr hwf hg hsh hra hrb hsa hsb
  have HP1 := hid (fun w1 (hb : Below w.heap.size w w1) => apply_all (HR.out.below hb) HWF.out (by omega) (HRA.out.below hb) (HRB.out.below hb))
  have HP2 := hid (fun w1 (hb : Below w.heap.size w w1) => refApply_all (HR.out.below hb) HWF.out (by omega) (HRA.out.below hb) (HRB.out.below hb) HSA.out HSB.out)
  have HF1 := hid (fun w1 (hb : Below w.heap.size w w1) => fits_all (HR.out.below hb) HWF.out (by omega) (HRA.out.below hb) (HRB.out.below hb))
  have HF2 := hid (fun w1 (hb : Below w.heap.size w w1) => refFits_all (HR.out.below hb) HWF.out (by omega) (HRA.out.below hb) (HRB.out.below hb))
  generalize Ed.validN s a.length b.length = K at HP1 HP2
  generalize aplA s a b = L at HP1 HP2 hal
  generalize fitN s a b = M at HF1 HF2
  have z1 : ((K : Int) == (K : Int)) = true := zeq rfl
  have z2 : ((M : Int) == (M : Int)) = true := zeq rfl
  go_enter Tryd.func3, Tryd.ntmps3
  go_wp2_with fail
  refine (HP1.out _ (Below.refl _ _)).mono ?_
  rintro e w1 ⟨v1, rfl, hO1, hb1⟩
  obtain ⟨a1, c1, e1⟩ := own_shape hO1
  subst e1
  have HL1 := hid (own_rd hO1)
  have HB1 := hid hb1
  clear hO1 hb1
  go_wp2_with fail
  refine (HP2.out _ HB1.out).mono ?_
  rintro e w2 ⟨v2, rfl, hO2, hb2⟩
  obtain ⟨a2, c2, e2⟩ := own_shape hO2
  subst e2
  have HL2 := hid (own_rd hO2)
  have HL1b := hid (HL1.out.below hb2)
  have HB2 := hid (HB1.out.trans (hb2.mono HB1.out.size))
  clear hO2 hb2 HL1
  go_wp2_with fail
  refine (HF1.out _ HB2.out).mono ?_
  rintro e w3 ⟨rfl, hb3⟩
  have HL2c := hid (HL2.out.below hb3)
  have HL1c := hid (HL1b.out.below hb3)
  have HB3 := hid (HB2.out.trans (hb3.mono HB2.out.size))
  clear hb3 HL1b HL2
  go_wp2_with fail
  refine (num_any M _ (HG.out.below HB3.out)).mono ?_
  rintro e w4 ⟨rfl, hb4⟩
  have HL2d := hid (HL2c.out.below hb4)
  have HL1d := hid (HL1c.out.below hb4)
  have HB4 := hid (HB3.out.trans (hb4.mono HB3.out.size))
  clear hb4 HL1c HL2c
  go_wp2_with fail
  refine (HF2.out _ HB4.out).mono ?_
  rintro e w5 ⟨rfl, hb5⟩
  have HL2e := hid (HL2d.out.below hb5)
  have HL1e := hid (HL1d.out.below hb5)
  have HB5 := hid (HB4.out.trans (hb5.mono HB4.out.size))
  clear hb5 HL1d HL2d
  go_wp2_with fail
  refine (sameInts_any HL1e.out HL2e.out (by omega) (by omega)).mono ?_
  rintro e w6 ⟨rfl, hb6⟩
  rw [decide_eq_true rfl]
  have HB6 := hid (HB5.out.trans (hb6.mono HB5.out.size))
  clear hb6 HL1e HL2e
  go_wp2_with fail
  refine (num_any K _ (HG.out.below HB6.out)).mono ?_
  rintro e w7 ⟨rfl, hb7⟩
  have HB7 := hid (HB6.out.trans (hb7.mono HB6.out.size))
  clear hb7
  go_wp2_with fail
  refine (works_any w7 (HG.out.below HB7.out)).mono ?_
  rintro e w8 ⟨rfl, hb8⟩
  have HB8 := hid (HB7.out.trans (hb8.mono HB7.out.size))
  clear hb8
  go_wp2
  go_ret
  exact ⟨rfl, HB8.out⟩

theorem own : ownKnob Tryd.prog.godebug = none := by kernel_rfl

set_option maxRecDepth 100000 in
theorem contract (H : Type) (enc : TypeId × Value → H) (W : World) (base : Nat) (args : Array Value) (ds gs : List (DataW H)) (before : List MemPlace)
    (hval : ∀ (j : Nat) t v, Tryd.f3.params[j]? = some t → args[j]? = some v → Value.okWide Tryd.prog W .any base t v)
    (hW : DataW.Whole enc Tryd.prog Tryd.f3.params.toList Rows.editsApplySpec.vars false W args.toList ds gs before)
    (hsz : (DataW.weightsEach Tryd.prog (Tryd.f3.params.toList ++ Rows.editsApplySpec.plain.varTypes Tryd.prog) (ds ++ gs)).all (· ≤ reachBytes) = true)
    (hL : laidMetH Tryd.prog Rows.editsApplyRow.laid W)
    : Calls Tryd.prog 3 args W fun e W' => ∃ v, e = .returned v ∧ Rows.editsApplySpec.post enc Tryd.prog Tryd.f3 false true false false W args v W' := by
  have hW' := hW
  obtain ⟨p, q, hA0, hV, rfl, hfz, hnd⟩ := hW
  have hA : DataW.TrodAll enc Tryd.prog W 0 (fun _ => true) true Tryd.f3.params.toList args.toList ds p := hA0
  rw [Tryd.params3] at hA hval hsz
  obtain ⟨v0, vs0, d0, ds0, p0, q0, hargs0, rfl, rfl, h0, r0⟩ := trodAll_cons hA
  obtain ⟨v1, vs1, d1, ds1, p1, q1, hargs1, rfl, rfl, h1, r1⟩ := trodAll_cons r0
  obtain ⟨v2, vs2, d2, ds2, p2, q2, hargs2, rfl, rfl, h2, r2⟩ := trodAll_cons r1
  obtain ⟨rfl, rfl, rfl⟩ := trodAll_nil r2
  obtain rfl : args = #[v0, v1, v2] := by cases args; simp_all
  obtain ⟨rfl, rfl⟩ := trodVars_none hV
  obtain ⟨x0, hr0, hw0, hd0, hsh0⟩ := open_chs (okWide_slice Tryd.underlying22 (hval 0 22 v0 rfl rfl)) h0
  obtain ⟨x1, hr1, hw1, hd1, hsh1⟩ := open_ints (okWide_slice Tryd.underlying23 (hval 1 23 v1 rfl rfl)) h1
  obtain ⟨x2, hr2, hw2, hd2, hsh2⟩ := open_ints (okWide_slice Tryd.underlying23 (hval 2 23 v2 rfl rfl)) h2
  have hlen0 := chs_sized hsz (j := 0) rfl rfl hd0
  have hlen1 := ints_sized hsz (j := 1) rfl rfl hd1
  have hlen2 := ints_sized hsz (j := 2) rfl rfl hd2
  clear hA0 hsz
  simp only [List.append_nil] at hW'
  have hlt0 : ∀ x ∈ p0, x.block < W.heap.size := fun x hx => by simpa using hW'.lt x (by simp [hx])
  have hlt1 : ∀ x ∈ p1, x.block < W.heap.size := fun x hx => by simpa using hW'.lt x (by simp [hx])
  have hlt2 : ∀ x ∈ p2, x.block < W.heap.size := fun x hx => by simpa using hW'.lt x (by simp [hx])
  refine (walk v0 x0 v1 x1 v2 x2 W hr0 hw0 (by omega) hsh0 hr1 hw1 (by omega) hsh1 hr2 hw2 (by omega) hsh2 (handle_of hL)).mono fun e W' ⟨he, hb⟩ => ?_
  subst he
  exact ⟨_, rfl, _, _, _, [], (p0 ++ (p1 ++ (p2 ++ []))), [], hW', trodAll_cons_mk (shut_bool Tryd.underlying4 _) trodAll_mk0, trodAll_cons_mk (Below.trod laidOut (by kernel_rfl) (of_decide_eq_true (by kernel_rfl)) h0 hb hlt0) (trodAll_cons_mk (Below.trod laidOut (by kernel_rfl) (of_decide_eq_true (by kernel_rfl)) h1 hb hlt1) (trodAll_cons_mk (Below.trod laidOut (by kernel_rfl) (of_decide_eq_true (by kernel_rfl)) h2 hb hlt2) trodAll_mk0)), rfl, hb.frame _, fun h => by cases h⟩

set_option maxRecDepth 100000 in
theorem lifted (os : Os) (started : os.Started) (H : Type) (enc : TypeId × Value → H) (F : Stop.Interp) :
    ReturnsInHanded {} Tryd.checked os 3 .any ((OpenSpec.ofChange Rows.editsApplySpec).preRow enc Tryd.prog Tryd.f3 Rows.editsApplyRow.domain false Rows.editsApplyRow.laid) (((OpenSpec.ofChange Rows.editsApplySpec).at F).post enc Tryd.prog Tryd.f3 false true false false) := by
  refine returnsInHanded_of_row (C := Tryd.checked) (s := OpenSpec.ofChange Rows.editsApplySpec) own started (by kernel_rfl) Tryd.func3
    (witness_row_at (enc := enc) (C := Tryd.checked) false
      { World.holding Tryd.prog os ⟨#[], #[], []⟩ with heap := (World.holding Tryd.prog os ⟨#[], #[], []⟩).heap.modify 0 fun
          | .cells _ t frozen => .cells #[.iface 99 (.agg #[.pointer (some ⟨1, 25, none⟩)])] t frozen
          | o => o }
      #[.slice none 0 0, .slice none 0 0, .slice none 0 0] rfl (by kernel_rfl) (by kernel_rfl) (by kernel_rfl)
      (OpenSpec.preRow_of_cond 8 (x := ([.nil, .nil, .nil], [], [])) (by kernel_rfl) (by kernel_rfl) (fun k hk => by cases hk) (by kernel_rfl) (laidMetH_of_parts (laidMet_nil _ _) (by kernel_rfl)))) ?_
  intro W base args ds gs before hval hW _ hcond hsz hL _ _
  exact contract H enc W base args ds gs before hval hW hsz hL

theorem said : Rows.EditsApplySaid :=
  OpenClaim.holds_of_cond 3 Tryd.f3 rfl rfl rfl rfl rfl rfl rfl ⟨rfl, rfl, rfl, rfl, rfl⟩ rfl rfl rfl rfl rfl (by kernel_rfl) Tryd.func3 (by kernel_rfl)
    (of_decide_eq_true (by kernel_rfl)) (by unfold Func.isWrapper; first | (rw [if_pos (by decide +kernel)]; kernel_rfl) | (rw [if_neg (by decide +kernel)]; exact ⟨rfl, rfl⟩))
    (fun os started H enc _ F => by rw [OpenClaim.pre_eq_preRow]; exact lifted os started H enc F)

theorem plain (f : FuncId) (fn : Func) (hf : Tryd.pinned.checked.prog.funcNamed Rows.editsApplyRow.func = some f) (hfn : Tryd.pinned.checked.prog.funcs[f]? = some fn) :
    true = Tryd.pinned.checked.prog.looks [] ∧ ∀ (j : Nat) t, fn.params[j]? = some t → Tryd.pinned.checked.prog.wantsStandIn t = false := by
  obtain rfl : f = 3 := Option.some.inj ((show Tryd.prog.funcNamed Rows.editsApplyRow.func = some 3 by kernel_rfl).symm.trans hf) |>.symm
  obtain rfl : fn = Tryd.f3 := (Option.some.inj (Tryd.func3.symm.trans hfn)).symm
  refine ⟨by kernel_rfl, fun j t ht => ?_⟩
  rw [Tryd.params3] at ht
  have hm : t = 22 ∨ t = 23 := by simpa using Array.mem_of_getElem? ht
  rcases hm with rfl | rfl
  · exact (show Tryd.prog.wantsStandIn 22 = false by kernel_rfl)
  · exact (show Tryd.prog.wantsStandIn 23 = false by kernel_rfl)

theorem card : Rows.EditsApplyCardSaid :=
  Claim7.holds_tied_plain_at .later [] _ _ _ _ said (fun _ h => by cases h) (by kernel_rfl) (fun _ h => by cases h) editsApply_row_tie rfl ⟨rfl, rfl⟩ (by kernel_rfl) rfl plain (by kernel_rfl)
end Go.Proofs.YthgibnbpeopoaaaDoor.editsApply
