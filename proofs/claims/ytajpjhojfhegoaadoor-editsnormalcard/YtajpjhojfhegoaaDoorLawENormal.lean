/-
  PROVED: the card of EditsNormal: for every list of changes and every two integers EditsNormal returns true, and all read afterwards as they read before; the card ties what errors.errorType holds to the program's text (a pruned copy of the project: the packages that this law loads).
-/
import Derived.Test.YtajpjhojfhegoaaDoorC6
import Derived.Test.YtajpjhojfhegoaaDoorC9
import Derived.Test.YtajpjhojfhegoaaDoorD0
import Derived.Test.YtajpjhojfhegoaaDoorD8
import Derived.Test.YtajpjhojfhegoaaDoorDa
import Derived.Test.YtajpjhojfhegoaaDoorHandle
namespace Go.Proofs.YtajpjhojfhegoaaDoor.editsNormal
open Go.ChangeShapes Go.WideShapes Go.ChangeAt Go.RowKit
open Go.ChangeMaps (open_string shut_string)
open Ed (Ch Run Pr)

theorem nrm_len (s : List Ch) (n m : Int) : (nrmA s n m).length ≤ 8388608 := by
  unfold nrmA
  split
  · next h => exact Val_len (Ed.normal_Val (Ed.validN_zero.1 h)).1
  · simp
theorem prs_len (s : List Ch) (n m : Int) : (prsA s n m).length ≤ 8388608 := by
  unfold prsA
  split
  · next h =>
    have hV := Ed.validN_zero.1 h
    have hn := Ed.cnt_iff.1 hV.1
    have := rise_len hV.rise hn.1
    omega
  · simp

set_option maxHeartbeats 4000000 in
set_option maxRecDepth 100000 in
theorem walk (v : Value) (s : List Ch) (n m : Int) (w : World) (hr : RdC w v s) (hwf : ∀ c ∈ s, WfC c) (hl : s.length ≤ 4398046510976) (hsh : v = .slice none 0 0 ∨ ∃ ad n c, v = .slice (some ad) n c) (hg : ErrVar w) :
    Calls Tryd.prog 4 #[v, .int .i64 n, .int .i64 m] w fun e w' => e = .returned (.bool true) ∧ Below w.heap.size w w' := by
  have HR := hid hr
  have HG := hid hg
  have HWF := hid hwf
  have HSH : Hid (ArgS v) := hid hsh
  obtain ⟨a, c, rfl⟩ := hr.shape
  have hnl := nrm_len s n m
  have hpl := prs_len s n m
  clear hr hwf hg hsh
  have HN1 := hid (fun w1 v1 (h : RdC w1 v1 s) => normal_all (n := n) (m := m) h HWF.out (by omega))
  have HN2 := hid (fun w1 v1 (h : RdC w1 v1 s) => refNormal_all (n := n) (m := m) h HWF.out (by omega))
  have HP1 := hid (fun w1 v1 (h : RdC w1 v1 s) => pairs_all (n := n) (m := m) h HWF.out (by omega))
  have HP2 := hid (fun w1 v1 (h : RdC w1 v1 s) => refPairs_all (n := n) (m := m) h HWF.out (by omega))
  generalize Ed.validN s n m = K at HN1 HN2 HP1 HP2
  generalize nrmA s n m = T at HN1 HN2 hnl
  generalize prsA s n m = P at HP1 HP2 hpl
  have z : ((K : Int) == (K : Int)) = true := zeq rfl
  have hil : (s.map Ed.inv).length ≤ 4398046510976 := by rw [List.length_map]; exact hl
  have HI1 := hid (fun w1 v1 (h : RdC w1 v1 s) => invert_any h (by omega))
  have HI2 := hid (fun w1 v1 (h : RdC w1 v1 s) => refInvert_any h (by omega))
  generalize s.map Ed.inv = I at HI1 HI2 hil
  go_enter Tryd.func4, Tryd.ntmps4
  go_wp2_with fail
  refine (twin_any HR.out HSH.out (by omega)).mono ?_
  rintro e w1 ⟨v1, rfl, hO1, hb1⟩
  obtain ⟨a1, c1, e1⟩ := own_shape hO1
  subst e1
  have HM1 := hid (own_rd hO1)
  have HB1 := hid hb1
  clear hO1 hb1
  go_wp2_with fail
  refine (HN1.out _ _ HM1.out).mono ?_
  rintro e w2 ⟨v2, rfl, hO2, hb2⟩
  obtain ⟨a2, c2, e2⟩ := own_shape hO2
  subst e2
  have HT2 := hid (own_rd hO2)
  have HM2 := hid (HM1.out.below hb2)
  have HB2 := hid (HB1.out.trans (hb2.mono HB1.out.size))
  clear hO2 hb2 HM1
  go_wp2_with fail
  refine (HN2.out _ _ (HR.out.below HB2.out)).mono ?_
  rintro e w3 ⟨v3, rfl, hO3, hb3⟩
  obtain ⟨a3, c3, e3⟩ := own_shape hO3
  subst e3
  have HU3 := hid (own_rd hO3)
  have HT3 := hid (HT2.out.below hb3)
  have HM3 := hid (HM2.out.below hb3)
  have HB3 := hid (HB2.out.trans (hb3.mono HB2.out.size))
  clear hO3 hb3 HM2 HT2
  go_wp2_with fail
  refine (HP1.out _ _ HM3.out).mono ?_
  rintro e w4 ⟨v4, rfl, hO4, hb4⟩
  obtain ⟨a4, c4, e4⟩ := own_shape hO4
  subst e4
  have HP4 := hid (own_rd hO4)
  have HU4 := hid (HU3.out.below hb4)
  have HT4 := hid (HT3.out.below hb4)
  have HM4 := hid (HM3.out.below hb4)
  have HB4 := hid (HB3.out.trans (hb4.mono HB3.out.size))
  clear hO4 hb4 HM3 HT3 HU3
  go_wp2_with fail
  refine (HP2.out _ _ (HR.out.below HB4.out)).mono ?_
  rintro e w5 ⟨v5, rfl, hO5, hb5⟩
  obtain ⟨a5, c5, e5⟩ := own_shape hO5
  subst e5
  have HQ5 := hid (own_rd hO5)
  have HP5 := hid (HP4.out.below hb5)
  have HU5 := hid (HU4.out.below hb5)
  have HT5 := hid (HT4.out.below hb5)
  have HM5 := hid (HM4.out.below hb5)
  have HB5 := hid (HB4.out.trans (hb5.mono HB4.out.size))
  clear hO5 hb5 HM4 HT4 HU4 HP4
  go_wp2_with fail
  refine (sameChanges_any HT5.out HU5.out (by omega) (by omega)).mono ?_
  rintro e w6 ⟨rfl, hb6⟩
  rw [decide_eq_true rfl]
  have HQ6 := hid (HQ5.out.below hb6)
  have HP6 := hid (HP5.out.below hb6)
  have HM6 := hid (HM5.out.below hb6)
  have HB6 := hid (HB5.out.trans (hb6.mono HB5.out.size))
  clear hb6 HM5 HT5 HU5 HP5 HQ5
  go_wp2_with fail
  refine (num_any K _ (HG.out.below HB6.out)).mono ?_
  rintro e w7 ⟨rfl, hb7⟩
  have HQ7 := hid (HQ6.out.below hb7)
  have HP7 := hid (HP6.out.below hb7)
  have HM7 := hid (HM6.out.below hb7)
  have HB7 := hid (HB6.out.trans (hb7.mono HB6.out.size))
  clear hb7 HM6 HP6 HQ6
  go_wp2_with fail
  refine (samePairs_any HP7.out HQ7.out (by omega) (by omega)).mono ?_
  rintro e w8 ⟨rfl, hb8⟩
  rw [decide_eq_true rfl]
  have HM8 := hid (HM7.out.below hb8)
  have HB8 := hid (HB7.out.trans (hb8.mono HB7.out.size))
  clear hb8 HM7 HP7 HQ7
  go_wp2_with fail
  refine (num_any K _ (HG.out.below HB8.out)).mono ?_
  rintro e w9 ⟨rfl, hb9⟩
  have HM9 := hid (HM8.out.below hb9)
  have HB9 := hid (HB8.out.trans (hb9.mono HB8.out.size))
  clear hb9 HM8
  go_wp2_with fail
  refine (HI1.out _ _ HM9.out).mono ?_
  rintro e wa ⟨va, rfl, hOa, hba⟩
  obtain ⟨aa, ca, ea⟩ := own_shape hOa
  subst ea
  have HIa := hid (own_rd hOa)
  have HMa := hid (HM9.out.below hba)
  have HBa := hid (HB9.out.trans (hba.mono HB9.out.size))
  clear hOa hba HM9
  go_wp2_with fail
  refine (HI2.out _ _ (HR.out.below HBa.out)).mono ?_
  rintro e wb ⟨vb, rfl, hOb, hbb⟩
  obtain ⟨ab, cb, eb⟩ := own_shape hOb
  subst eb
  have HJb := hid (own_rd hOb)
  have HIb := hid (HIa.out.below hbb)
  have HMb := hid (HMa.out.below hbb)
  have HBb := hid (HBa.out.trans (hbb.mono HBa.out.size))
  clear hOb hbb HMa HIa
  go_wp2_with fail
  refine (sameChanges_any HIb.out HJb.out (by omega) (by omega)).mono ?_
  rintro e wc ⟨rfl, hbc⟩
  rw [decide_eq_true rfl]
  have HMc := hid (HMb.out.below hbc)
  have HBc := hid (HBb.out.trans (hbc.mono HBb.out.size))
  clear hbc HMb HIb HJb
  go_wp2_with fail
  refine (sameChanges_any HMc.out (HR.out.below HBc.out) (by omega) (by omega)).mono ?_
  rintro e wd ⟨rfl, hbd⟩
  rw [decide_eq_true rfl]
  have HBd := hid (HBc.out.trans (hbd.mono HBc.out.size))
  clear hbd HMc
  go_wp2_with fail
  refine (works_any wd (HG.out.below HBd.out)).mono ?_
  rintro e we ⟨rfl, hbe⟩
  have HBe := hid (HBd.out.trans (hbe.mono HBd.out.size))
  clear hbe
  go_wp2
  go_ret
  exact ⟨rfl, HBe.out⟩

theorem own : ownKnob Tryd.prog.godebug = none := by kernel_rfl

set_option maxRecDepth 100000 in
theorem contract (H : Type) (enc : TypeId × Value → H) (W : World) (base : Nat) (args : Array Value) (ds gs : List (DataW H)) (before : List MemPlace)
    (hval : ∀ (j : Nat) t v, Tryd.f4.params[j]? = some t → args[j]? = some v → Value.okWide Tryd.prog W .any base t v)
    (hW : DataW.Whole enc Tryd.prog Tryd.f4.params.toList Rows.editsNormalSpec.vars false W args.toList ds gs before)
    (hsz : (DataW.weightsEach Tryd.prog (Tryd.f4.params.toList ++ Rows.editsNormalSpec.plain.varTypes Tryd.prog) (ds ++ gs)).all (· ≤ reachBytes) = true)
    (hL : laidMetH Tryd.prog Rows.editsNormalRow.laid W)
    : Calls Tryd.prog 4 args W fun e W' => ∃ v, e = .returned v ∧ Rows.editsNormalSpec.post enc Tryd.prog Tryd.f4 false true false false W args v W' := by
  have hW' := hW
  obtain ⟨p, q, hA0, hV, rfl, hfz, hnd⟩ := hW
  have hA : DataW.TrodAll enc Tryd.prog W 0 (fun _ => true) true Tryd.f4.params.toList args.toList ds p := hA0
  rw [Tryd.params4] at hA hval hsz
  obtain ⟨v0, vs0, d0, ds0, p0, q0, hargs0, rfl, rfl, h0, r0⟩ := trodAll_cons hA
  obtain ⟨v1, vs1, d1, ds1, p1, q1, hargs1, rfl, rfl, h1, r1⟩ := trodAll_cons r0
  obtain ⟨v2, vs2, d2, ds2, p2, q2, hargs2, rfl, rfl, h2, r2⟩ := trodAll_cons r1
  obtain ⟨rfl, rfl, rfl⟩ := trodAll_nil r2
  obtain rfl : args = #[v0, v1, v2] := by cases args; simp_all
  obtain ⟨rfl, rfl⟩ := trodVars_none hV
  obtain ⟨x0, hr0, hw0, hd0, hsh0⟩ := open_chs (okWide_slice Tryd.underlying22 (hval 0 22 v0 rfl rfl)) h0
  obtain ⟨x1, rfl, rfl, rfl, hmax1⟩ := open_int Tryd.underlying3 (hval 1 3 v1 rfl rfl) h1
  obtain ⟨x2, rfl, rfl, rfl, hmax2⟩ := open_int Tryd.underlying3 (hval 2 3 v2 rfl rfl) h2
  have hlen0 := chs_sized hsz (j := 0) rfl rfl hd0
  clear hA0 hsz
  simp only [List.append_nil] at hW'
  have hlt0 : ∀ x ∈ p0, x.block < W.heap.size := fun x hx => by simpa using hW'.lt x (by simp [hx])
  refine (walk v0 x0 x1 x2 W hr0 hw0 (by omega) hsh0 (handle_of hL)).mono fun e W' ⟨he, hb⟩ => ?_
  subst he
  exact ⟨_, rfl, _, _, _, [], (p0 ++ ([] ++ ([] ++ []))), [], hW', trodAll_cons_mk (shut_bool Tryd.underlying4 _) trodAll_mk0, trodAll_cons_mk (Below.trod laidOut (by kernel_rfl) (of_decide_eq_true (by kernel_rfl)) h0 hb hlt0) (trodAll_cons_mk (shut_int Tryd.underlying3 hmax1) (trodAll_cons_mk (shut_int Tryd.underlying3 hmax2) trodAll_mk0)), rfl, hb.frame _, fun h => by cases h⟩

set_option maxRecDepth 100000 in
theorem lifted (os : Os) (started : os.Started) (H : Type) (enc : TypeId × Value → H) (F : Stop.Interp) :
    ReturnsInHanded {} Tryd.checked os 4 .any ((OpenSpec.ofChange Rows.editsNormalSpec).preRow enc Tryd.prog Tryd.f4 Rows.editsNormalRow.domain false Rows.editsNormalRow.laid) (((OpenSpec.ofChange Rows.editsNormalSpec).at F).post enc Tryd.prog Tryd.f4 false true false false) := by
  refine returnsInHanded_of_row (C := Tryd.checked) (s := OpenSpec.ofChange Rows.editsNormalSpec) own started (by kernel_rfl) Tryd.func4
    (witness_row_at (enc := enc) (C := Tryd.checked) false
      { World.holding Tryd.prog os ⟨#[], #[], []⟩ with heap := (World.holding Tryd.prog os ⟨#[], #[], []⟩).heap.modify 0 fun
          | .cells _ t frozen => .cells #[.iface 93 (.agg #[.pointer (some ⟨1, 27, none⟩)])] t frozen
          | o => o }
      #[.slice none 0 0, .int .i64 0, .int .i64 0] rfl (by kernel_rfl) (by kernel_rfl) (by kernel_rfl)
      (OpenSpec.preRow_of_cond 8 (x := ([.nil, .lit (.int .i64 0), .lit (.int .i64 0)], [], [])) (by kernel_rfl) (by kernel_rfl) (fun k hk => by cases hk) (by kernel_rfl) (laidMetH_of_parts (laidMet_nil _ _) (by kernel_rfl)))) ?_
  intro W base args ds gs before hval hW _ hcond hsz hL _ _
  exact contract H enc W base args ds gs before hval hW hsz hL

theorem said : Rows.EditsNormalSaid :=
  OpenClaim.holds_of_cond 4 Tryd.f4 rfl rfl rfl rfl rfl rfl rfl ⟨rfl, rfl, rfl, rfl, rfl⟩ rfl rfl rfl rfl rfl (by kernel_rfl) Tryd.func4 (by kernel_rfl)
    (of_decide_eq_true (by kernel_rfl)) (by unfold Func.isWrapper; first | (rw [if_pos (by decide +kernel)]; kernel_rfl) | (rw [if_neg (by decide +kernel)]; exact ⟨rfl, rfl⟩))
    (fun os started H enc _ F => by rw [OpenClaim.pre_eq_preRow]; exact lifted os started H enc F)

theorem plain (f : FuncId) (fn : Func) (hf : Tryd.pinned.checked.prog.funcNamed Rows.editsNormalRow.func = some f) (hfn : Tryd.pinned.checked.prog.funcs[f]? = some fn) :
    true = Tryd.pinned.checked.prog.looks [] ∧ ∀ (j : Nat) t, fn.params[j]? = some t → Tryd.pinned.checked.prog.wantsStandIn t = false := by
  obtain rfl : f = 4 := Option.some.inj ((show Tryd.prog.funcNamed Rows.editsNormalRow.func = some 4 by kernel_rfl).symm.trans hf) |>.symm
  obtain rfl : fn = Tryd.f4 := (Option.some.inj (Tryd.func4.symm.trans hfn)).symm
  refine ⟨by kernel_rfl, fun j t ht => ?_⟩
  rw [Tryd.params4] at ht
  have hm : t = 22 ∨ t = 3 := by simpa using Array.mem_of_getElem? ht
  rcases hm with rfl | rfl
  · exact (show Tryd.prog.wantsStandIn 22 = false by kernel_rfl)
  · exact (show Tryd.prog.wantsStandIn 3 = false by kernel_rfl)

theorem card : Rows.EditsNormalCardSaid :=
  Claim7.holds_tied_plain_at .later [] _ _ _ _ said (fun _ h => by cases h) (by kernel_rfl) (fun _ h => by cases h) editsNormal_row_tie rfl ⟨rfl, rfl⟩ (by kernel_rfl) rfl plain (by kernel_rfl)
end Go.Proofs.YtajpjhojfhegoaaDoor.editsNormal
