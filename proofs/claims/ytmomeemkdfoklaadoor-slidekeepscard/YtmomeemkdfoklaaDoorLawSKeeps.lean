/-
  PROVED: the card of SlideKeeps: for every list of changes and every two lists of integers SlideKeeps returns true, and all read afterwards as they read before; the card ties what errors.errorType holds to the program's text (a pruned copy of the project: the packages that this law loads).
-/
import Derived.Test.YtmomeemkdfoklaaDoorZj
import Derived.Test.YtmomeemkdfoklaaDoorC9
import Derived.Test.YtmomeemkdfoklaaDoorDf
import Derived.Test.YtmomeemkdfoklaaDoorHandle
namespace Go.Proofs.YtmomeemkdfoklaaDoor.slideKeeps
open Go.ChangeShapes Go.WideShapes Go.ChangeAt Go.RowKit
open Go.ChangeMaps (open_string shut_string)
open Ed (Ch Run Pr)

set_option maxHeartbeats 4000000 in
set_option maxRecDepth 100000 in
theorem walk (v : Value) (s : List Ch) (va : Value) (a : List Int) (vb : Value) (b : List Int) (w : World) (hr : RdC w v s) (hwf : ∀ c ∈ s, WfC c) (hl : s.length ≤ 4398046510976) (hsh : v = .slice none 0 0 ∨ ∃ ad n c, v = .slice (some ad) n c)
    (hra : RdI w va a) (_ : ∀ c ∈ a, I64 c) (_ : a.length ≤ 17592186043904) (_ : va = .slice none 0 0 ∨ ∃ ad n c, va = .slice (some ad) n c)
    (hrb : RdI w vb b) (_ : ∀ c ∈ b, I64 c) (_ : b.length ≤ 17592186043904) (_ : vb = .slice none 0 0 ∨ ∃ ad n c, vb = .slice (some ad) n c) (hg : ErrVar w) :
    Calls Tryd.prog 3 #[v, va, vb] w fun e w' => e = .returned (.bool true) ∧ Below w.heap.size w w' := by
  have HR := hid hr
  have HRA := hid hra
  have HRB := hid hrb
  have HG := hid hg
  have HWF := hid hwf
  obtain ⟨a0, c0, rfl⟩ := hr.shape
  obtain ⟨aa, ca, rfl⟩ := hra.shape
  obtain ⟨ab, cb, rfl⟩ := hrb.shape
  by_cases hf : fitN s a b = 0
  · obtain ⟨hV1, hf1, hap, hc1⟩ := slA_keeps hf
    obtain ⟨hV2, hf2, _, hc2⟩ := slA_keeps hf1
    have hl1 := Val_len hV1
    have hl2 := Val_len hV2
    have HP1 := hid (slide_all HR.out HWF.out (by omega) HRA.out HRB.out)
    rw [hf, errV_zero] at HP1
    have HP2 := hid (fun w1 v1 (h : RdC w1 v1 (slA s a b)) (hb : Below w.heap.size w w1) => slide_all h slA_wf (by omega) (HRA.out.below hb) (HRB.out.below hb))
    rw [hf1, errV_zero] at HP2
    have HW1 : Hid (∀ c ∈ slA s a b, WfC c) := hid slA_wf
    have HW2 : Hid (∀ c ∈ slA (slA s a b) a b, WfC c) := hid slA_wf
    generalize slA (slA s a b) a b = L2 at HP2 HW2 hV2 hf2 hc2 hl2
    generalize slA s a b = L1 at HP1 HP2 HW1 hV1 hf1 hap hc1 hl1 hc2
    have HV1 := hid hV1
    have HAP := hid hap
    have HF1 := hid hf1
    obtain ⟨X, hX⟩ : ∃ X, X = (Ed.costP s).1 := ⟨_, rfl⟩
    obtain ⟨Y, hY⟩ : ∃ Y, Y = (Ed.costP s).2 := ⟨_, rfl⟩
    have HX := hid hX
    have HY := hid hY
    have HC1 := hid hc1
    have HC2 := hid hc2
    have z1 : (X == X) = true := zeq rfl
    have z2 : (Y == Y) = true := zeq rfl
    clear hr hwf hg hsh hra hrb hf hV1 hf1 hap hc1 hV2 hf2 hc2 hX hY
    go_enter Tryd.func3, Tryd.ntmps3
    go_wp2_with fail
    refine HP1.out.mono ?_
    rintro e w1 ⟨v1, rfl, hR1, hb1⟩
    obtain ⟨a1, c1, rfl⟩ := hR1.shape
    have HL1 := hid hR1
    have HB1 := hid hb1
    clear hR1 hb1
    go_wp2_with fail
    refine (HP2.out _ _ HL1.out HB1.out).mono ?_
    rintro e w2 ⟨v2, rfl, hR2, hb2⟩
    obtain ⟨a2, c2, rfl⟩ := hR2.shape
    have HL2 := hid hR2
    have HM2 := hid (HL1.out.below hb2)
    have HB2 := hid (HB1.out.trans (hb2.mono HB1.out.size))
    clear hR2 hb2 HL1 HB1 HP1 HP2
    go_wp2_with fail
    refine (refCost_any (HR.out.below HB2.out) HWF.out (by omega)).mono ?_
    rintro e w3 ⟨rfl, hb3⟩
    rw [← HX.out, ← HY.out]
    have HL3 := hid (HL2.out.below hb3)
    have HM3 := hid (HM2.out.below hb3)
    have HB3 := hid (HB2.out.trans (hb3.mono HB2.out.size))
    clear hb3 HL2 HM2 HB2
    go_wp2_with fail
    refine (refCost_any HM3.out HW1.out (by omega)).mono ?_
    rintro e w4 ⟨rfl, hb4⟩
    rw [HC1.out, ← HX.out, ← HY.out]
    have HL4 := hid (HL3.out.below hb4)
    have HM4 := hid (HM3.out.below hb4)
    have HB4 := hid (HB3.out.trans (hb4.mono HB3.out.size))
    clear hb4 HL3 HM3 HB3
    go_wp2_with fail
    refine (refCost_any HL4.out HW2.out (by omega)).mono ?_
    rintro e w5 ⟨rfl, hb5⟩
    rw [HC2.out, HC1.out, ← HX.out, ← HY.out]
    have HM5 := hid (HM4.out.below hb5)
    have HB5 := hid (HB4.out.trans (hb5.mono HB4.out.size))
    clear hb5 HL4 HM4 HB4
    go_wp2_with fail
    refine (refFits_all HM5.out HW1.out (by omega) (HRA.out.below HB5.out) (HRB.out.below HB5.out)).mono ?_
    rintro e w6 ⟨rfl, hb6⟩
    rw [HF1.out]
    have HM6 := hid (HM5.out.below hb6)
    have HB6 := hid (HB5.out.trans (hb6.mono HB5.out.size))
    clear hb6 HM5 HB5
    go_wp2_with fail
    refine (refNormal9_any HM6.out HV1.out HAP.out).mono ?_
    rintro e w7 ⟨rfl, hb7⟩
    have HB7 := hid (HB6.out.trans (hb7.mono HB6.out.size))
    clear hb7 HM6 HB6
    go_wp2_with fail
    refine (sure9_any w7 (HG.out.below HB7.out)).mono ?_
    rintro e w8 ⟨rfl, hb8⟩
    have HB8 := hid (HB7.out.trans (hb8.mono HB7.out.size))
    clear hb8
    go_wp2
    go_ret
    exact ⟨rfl, HB8.out⟩
  · have HP1 := hid (slide_all HR.out HWF.out (by omega) HRA.out HRB.out)
    have he : errV (fitN s a b) = .iface 60 (.int .i64 (fitN s a b)) := by unfold errV; rw [if_neg hf]
    have h0 : slA s a b = [] := by unfold slA; rw [if_neg hf]
    rw [he, h0] at HP1
    generalize fitN s a b = N at HP1
    clear hr hwf hg hsh hra hrb hf he h0
    go_enter Tryd.func3, Tryd.ntmps3
    go_wp2_with fail
    refine HP1.out.mono ?_
    rintro e w1 ⟨v1, rfl, hR1, hb1⟩
    obtain ⟨a1, c1, rfl⟩ := hR1.shape
    have HB1 := hid hb1
    clear hR1 hb1
    go_wp2_with fail
    refine (sure9_any w1 (HG.out.below HB1.out)).mono ?_
    rintro e w2 ⟨rfl, hb2⟩
    have HB2 := hid (HB1.out.trans (hb2.mono HB1.out.size))
    clear hb2
    go_wp2
    go_ret
    exact ⟨rfl, HB2.out⟩

theorem own : ownKnob Tryd.prog.godebug = none := by kernel_rfl

set_option maxRecDepth 100000 in
theorem contract (H : Type) (enc : TypeId × Value → H) (W : World) (base : Nat) (args : Array Value) (ds gs : List (DataW H)) (before : List MemPlace)
    (hval : ∀ (j : Nat) t v, Tryd.f3.params[j]? = some t → args[j]? = some v → Value.okWide Tryd.prog W .any base t v)
    (hW : DataW.Whole enc Tryd.prog Tryd.f3.params.toList Rows.slideKeepsSpec.vars false W args.toList ds gs before)
    (hsz : (DataW.weightsEach Tryd.prog (Tryd.f3.params.toList ++ Rows.slideKeepsSpec.plain.varTypes Tryd.prog) (ds ++ gs)).all (· ≤ reachBytes) = true)
    (hL : laidMetH Tryd.prog Rows.slideKeepsRow.laid W)
    : Calls Tryd.prog 3 args W fun e W' => ∃ v, e = .returned v ∧ Rows.slideKeepsSpec.post enc Tryd.prog Tryd.f3 false true false false W args v W' := by
  have hW' := hW
  obtain ⟨p, q, hA0, hV, rfl, hfz, hnd⟩ := hW
  have hA : DataW.TrodAll enc Tryd.prog W 0 (fun _ => true) true Tryd.f3.params.toList args.toList ds p := hA0
  rw [Tryd.params3] at hA hval hsz
  obtain ⟨v0, vs0, d0, ds0, p0, q0, hargs0, rfl, rfl, h0, r0⟩ := trodAll_cons hA
  obtain ⟨v1, vs1, d1, ds1, p1, q1, hargs1, rfl, rfl, h1, r1⟩ := trodAll_cons r0
  obtain ⟨v2, vs2, d2, ds2, p2, q2, hargs2, rfl, rfl, h2, r2⟩ := trodAll_cons r1
  obtain ⟨rfl, rfl, rfl⟩ := trodAll_nil r2
  obtain rfl : args = #[v0, v1, v2] := by cases args; simp_all
  obtain ⟨rfl, rfl⟩ := trodVars_none hV
  obtain ⟨x0, hr0, hw0, hd0, hsh0⟩ := open_chs (okWide_slice Tryd.underlying22 (hval 0 22 v0 rfl rfl)) h0
  obtain ⟨x1, hr1, hw1, hd1, hsh1⟩ := open_ints (okWide_slice Tryd.underlying23 (hval 1 23 v1 rfl rfl)) h1
  obtain ⟨x2, hr2, hw2, hd2, hsh2⟩ := open_ints (okWide_slice Tryd.underlying23 (hval 2 23 v2 rfl rfl)) h2
  have hlen0 := chs_sized hsz (j := 0) rfl rfl hd0
  have hlen1 := ints_sized hsz (j := 1) rfl rfl hd1
  have hlen2 := ints_sized hsz (j := 2) rfl rfl hd2
  clear hA0 hsz
  simp only [List.append_nil] at hW'
  have hlt0 : ∀ x ∈ p0, x.block < W.heap.size := fun x hx => by simpa using hW'.lt x (by simp [hx])
  have hlt1 : ∀ x ∈ p1, x.block < W.heap.size := fun x hx => by simpa using hW'.lt x (by simp [hx])
  have hlt2 : ∀ x ∈ p2, x.block < W.heap.size := fun x hx => by simpa using hW'.lt x (by simp [hx])
  refine (walk v0 x0 v1 x1 v2 x2 W hr0 hw0 (by omega) hsh0 hr1 hw1 (by omega) hsh1 hr2 hw2 (by omega) hsh2 (handle_of hL)).mono fun e W' ⟨he, hb⟩ => ?_
  subst he
  exact ⟨_, rfl, _, _, _, [], (p0 ++ (p1 ++ (p2 ++ []))), [], hW', trodAll_cons_mk (shut_bool Tryd.underlying4 _) trodAll_mk0, trodAll_cons_mk (Below.trod laidOut (by kernel_rfl) (of_decide_eq_true (by kernel_rfl)) h0 hb hlt0) (trodAll_cons_mk (Below.trod laidOut (by kernel_rfl) (of_decide_eq_true (by kernel_rfl)) h1 hb hlt1) (trodAll_cons_mk (Below.trod laidOut (by kernel_rfl) (of_decide_eq_true (by kernel_rfl)) h2 hb hlt2) trodAll_mk0)), rfl, hb.frame _, fun h => by cases h⟩

set_option maxRecDepth 100000 in
theorem lifted (os : Os) (started : os.Started) (H : Type) (enc : TypeId × Value → H) (F : Stop.Interp) :
    ReturnsInHanded {} Tryd.checked os 3 .any ((OpenSpec.ofChange Rows.slideKeepsSpec).preRow enc Tryd.prog Tryd.f3 Rows.slideKeepsRow.domain false Rows.slideKeepsRow.laid) (((OpenSpec.ofChange Rows.slideKeepsSpec).at F).post enc Tryd.prog Tryd.f3 false true false false) := by
  refine returnsInHanded_of_row (C := Tryd.checked) (s := OpenSpec.ofChange Rows.slideKeepsSpec) own started (by kernel_rfl) Tryd.func3
    (witness_row_at (enc := enc) (C := Tryd.checked) false
      { World.holding Tryd.prog os ⟨#[], #[], []⟩ with heap := (World.holding Tryd.prog os ⟨#[], #[], []⟩).heap.modify 0 fun
          | .cells _ t frozen => .cells #[.iface 98 (.agg #[.pointer (some ⟨1, 25, none⟩)])] t frozen
          | o => o }
      #[.slice none 0 0, .slice none 0 0, .slice none 0 0] rfl (by kernel_rfl) (by kernel_rfl) (by kernel_rfl)
      (OpenSpec.preRow_of_cond 8 (x := ([.nil, .nil, .nil], [], [])) (by kernel_rfl) (by kernel_rfl) (fun k hk => by cases hk) (by kernel_rfl) (laidMetH_of_parts (laidMet_nil _ _) (by kernel_rfl)))) ?_
  intro W base args ds gs before hval hW _ hcond hsz hL _ _
  exact contract H enc W base args ds gs before hval hW hsz hL

theorem said : Rows.SlideKeepsSaid :=
  OpenClaim.holds_of_cond 3 Tryd.f3 rfl rfl rfl rfl rfl rfl rfl ⟨rfl, rfl, rfl, rfl, rfl⟩ rfl rfl rfl rfl rfl (by kernel_rfl) Tryd.func3 (by kernel_rfl)
    (of_decide_eq_true (by kernel_rfl)) (by unfold Func.isWrapper; first | (rw [if_pos (by decide +kernel)]; kernel_rfl) | (rw [if_neg (by decide +kernel)]; exact ⟨rfl, rfl⟩))
    (fun os started H enc _ F => by rw [OpenClaim.pre_eq_preRow]; exact lifted os started H enc F)

theorem plain (f : FuncId) (fn : Func) (hf : Tryd.pinned.checked.prog.funcNamed Rows.slideKeepsRow.func = some f) (hfn : Tryd.pinned.checked.prog.funcs[f]? = some fn) :
    true = Tryd.pinned.checked.prog.looks [] ∧ ∀ (j : Nat) t, fn.params[j]? = some t → Tryd.pinned.checked.prog.wantsStandIn t = false := by
  obtain rfl : f = 3 := Option.some.inj ((show Tryd.prog.funcNamed Rows.slideKeepsRow.func = some 3 by kernel_rfl).symm.trans hf) |>.symm
  obtain rfl : fn = Tryd.f3 := (Option.some.inj (Tryd.func3.symm.trans hfn)).symm
  refine ⟨by kernel_rfl, fun j t ht => ?_⟩
  rw [Tryd.params3] at ht
  have hm : t = 22 ∨ t = 23 := by simpa using Array.mem_of_getElem? ht
  rcases hm with rfl | rfl
  · exact (show Tryd.prog.wantsStandIn 22 = false by kernel_rfl)
  · exact (show Tryd.prog.wantsStandIn 23 = false by kernel_rfl)

theorem card : Rows.SlideKeepsCardSaid :=
  Claim7.holds_tied_plain_at .later [] _ _ _ _ said (fun _ h => by cases h) (by kernel_rfl) (fun _ h => by cases h) slideKeeps_row_tie rfl ⟨rfl, rfl⟩ (by kernel_rfl) rfl plain (by kernel_rfl)
end Go.Proofs.YtmomeemkdfoklaaDoor.slideKeeps
