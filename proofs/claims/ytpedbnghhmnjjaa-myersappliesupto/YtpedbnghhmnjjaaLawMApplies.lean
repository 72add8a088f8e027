/-
  PROVED: for every two lists of integers MyersApplies returns true, and both read afterwards as they read before; the condition: what they hold is at most 1048576 in bulk.
-/
import Derived.Test.YtpedbnghhmnjjaaT4
import Derived.Test.YtpedbnghhmnjjaaT5
import Derived.ProofKit
import Derived.OpenShut
import Derived.LaidLaws
import Derived.LaidHandle
import Derived.SizedLaws
import Derived.Deep.DeepHandedRow
namespace Go.Proofs.Ytpedbnghhmnjjaa.myersApplies
open Go.ChangeShapes Go.WideShapes Go.ChangeAt Go.RowKit
open Go.ChangeMaps (open_string shut_string)
open Ed (Ch Run Pr)

set_option maxHeartbeats 8000000 in
set_option maxRecDepth 100000 in
theorem walk (va : Value) (a : List Int) (vb : Value) (b : List Int) (w : World) (hra : RdI w va a) (hwa : ∀ z ∈ a, I64 z) (hla : a.length ≤ 1048576) (hsa : va = .slice none 0 0 ∨ ∃ ad n c, va = .slice (some ad) n c) (hrb : RdI w vb b) (hwb : ∀ z ∈ b, I64 z) (hlb : b.length ≤ 1048576) (hsb : vb = .slice none 0 0 ∨ ∃ ad n c, vb = .slice (some ad) n c) :
    Calls Try.prog 5 #[va, vb] w fun e w' => e = .returned (.bool true) ∧ Below w.heap.size w w' := by
  have HRa := hid hra
  have HWa := hid hwa
  have HSa : Hid (ArgS va) := hid hsa
  obtain ⟨pa, ka, rfl⟩ := hra.shape
  have HRb := hid hrb
  have HWb := hid hwb
  have HSb : Hid (ArgS vb) := hid hsb
  obtain ⟨pb, kb, rfl⟩ := hrb.shape
  clear hra hwa hsa hrb hwb hsb
  obtain ⟨hV, hP⟩ := My.myD_val (a := a) (b := b) (by omega) (by omega)
  have hsl := Val_len hV
  have HWF : Hid (∀ c ∈ My.myD a b, WfC c) := hid (My.myD_wf (by omega) (by omega))
  have HVN : Hid (Ed.validN (My.myD a b) a.length b.length = 0) := hid (Ed.validN_zero.2 hV)
  have HAP : Hid (aplA (My.myD a b) a b = b) := hid (by unfold aplA; rw [if_pos HVN.out]; exact My.myD_apply (by omega) (by omega))
  have hco := My.myD_cost (a := a) (b := b) (by omega) (by omega)
  have hle := My.lcs_le a b
  have hde := My.dst_eq a b
  have HD0 := hid (diff_any HRa.out HRb.out (by omega) (by omega) HWa.out HWb.out)
  have HDI := hid (fun w1 (hb : Below w.heap.size w w1) => distance_any (HRa.out.below hb) (HRb.out.below hb) (by omega) (by omega) HWa.out HWb.out)
  have HCO := hid (fun w1 (hb : Below w.heap.size w w1) => common_any (HRa.out.below hb) (HRb.out.below hb) (by omega) (by omega) HWa.out HWb.out)
  generalize My.myD a b = S at HWF hsl HVN HAP hco HD0 hV hP
  obtain ⟨X, hX⟩ : ∃ X, X = (Ed.costP S).1 := ⟨_, rfl⟩
  obtain ⟨Y, hY⟩ : ∃ Y, Y = (Ed.costP S).2 := ⟨_, rfl⟩
  have e1 : X = (a.length : Int) - My.lcs a b := by rw [hX, hco]
  have e2 : Y = (b.length : Int) - My.lcs a b := by rw [hY, hco]
  generalize My.dst a b = D at hde HDI
  generalize My.lcs a b = C at hle hde e1 e2 HCO
  have i1 : IntKind.i64.wrap (X + Y) = (D : Int) := (wrapOk (by omega) (by omega)).trans (by omega)
  have i2 : IntKind.i64.wrap ((a.length : Int) - X) = (C : Int) := (wrapOk (by omega) (by omega)).trans (by omega)
  have HX := hid hX
  have HY := hid hY
  have z1 : ((D : Int) == (D : Int)) = true := zeq rfl
  have z2 : ((C : Int) == (C : Int)) = true := zeq rfl
  clear hX hY e1 e2 hco hde hle hV hP
  go_enter Try.func5, Try.ntmps5
  go_wp2_with fail
  refine (HD0.out).mono ?_
  rintro e w1 ⟨v1, rfl, hO1, hb1⟩
  obtain ⟨a1, c1, rfl⟩ := own_shape hO1
  have HO1 := hid hO1
  clear hO1
  have HB1 := hid (hb1)
  clear hb1
  go_wp2_with fail
  refine (refApply_all (own_rd HO1.out) HWF.out (by omega) (HRa.out.below HB1.out) (HRb.out.below HB1.out) HSa.out HSb.out).mono ?_
  rintro e w2 ⟨v2, rfl, hO2, hb2⟩
  rw [HAP.out] at hO2
  rw [HVN.out]
  obtain ⟨a2, c2, rfl⟩ := own_shape hO2
  have HO2 := hid hO2
  have HR1 := hid ((own_rd HO1.out).below hb2)
  clear hO2
  have HB2 := hid (HB1.out.trans (hb2.mono HB1.out.size))
  clear hb2
  go_wp2_with fail
  refine (refCost_any HR1.out HWF.out (by omega)).mono ?_
  rintro e w3 ⟨rfl, hb3⟩
  rw [← HX.out, ← HY.out]
  have HI3 := hid ((own_rd HO2.out).below hb3)
  have HB3 := hid (HB2.out.trans (hb3.mono HB2.out.size))
  clear hb3
  go_wp2_with fail
  refine (same_any (l := b) (m := b) HI3.out (HRb.out.below HB3.out) (by omega) (by omega)).mono ?_
  rintro e w4 ⟨rfl, hb4⟩
  rw [decide_eq_true (show b = b from rfl)]
  have HB4 := hid (HB3.out.trans (hb4.mono HB3.out.size))
  clear hb4
  go_wp2_with fail
  refine (HDI.out _ HB4.out).mono ?_
  rintro e w5 ⟨rfl, hb5⟩
  have HB5 := hid (HB4.out.trans (hb5.mono HB4.out.size))
  clear hb5
  go_wp2_with fail
  refine (HCO.out _ HB5.out).mono ?_
  rintro e w6 ⟨rfl, hb6⟩
  have HB6 := hid (HB5.out.trans (hb6.mono HB5.out.size))
  clear hb6
  go_wp2_with fail
  refine (sure_any _).mono ?_
  rintro e w7 ⟨rfl, hb7⟩
  have HB7 := hid (HB6.out.trans (hb7.mono HB6.out.size))
  clear hb7
  go_wp2
  go_ret
  exact ⟨rfl, HB7.out⟩

theorem own : ownKnob Try.prog.godebug = none := by kernel_rfl

set_option maxRecDepth 100000 in
theorem contract (H : Type) (enc : TypeId × Value → H) (W : World) (base : Nat) (args : Array Value) (ds gs : List (DataW H)) (before : List MemPlace)
    (hval : ∀ (j : Nat) t v, Try.f5.params[j]? = some t → args[j]? = some v → Value.okWide Try.prog W .any base t v)
    (hW : DataW.Whole enc Try.prog Try.f5.params.toList Rows.myersAppliesSpec.vars false W args.toList ds gs before)
    (hk : Rows.uptoSmall H (ds ++ gs) = true)
    : Calls Try.prog 5 args W fun e W' => ∃ v, e = .returned v ∧ Rows.myersAppliesSpec.post enc Try.prog Try.f5 false true false false W args v W' := by
  have hW' := hW
  obtain ⟨p, q, hA0, hV, rfl, hfz, hnd⟩ := hW
  have hA : DataW.TrodAll enc Try.prog W 0 (fun _ => true) true Try.f5.params.toList args.toList ds p := hA0
  rw [Try.params5] at hA hval
  obtain ⟨v0, vs0, d0, ds0, p0, q0, hargs0, rfl, rfl, h0, r0⟩ := trodAll_cons hA
  obtain ⟨v1, vs1, d1, ds1, p1, q1, hargs1, rfl, rfl, h1, r1⟩ := trodAll_cons r0
  obtain ⟨rfl, rfl, rfl⟩ := trodAll_nil r1
  obtain rfl : args = #[v0, v1] := by cases args; simp_all
  obtain ⟨rfl, rfl⟩ := trodVars_none hV
  obtain ⟨x0, hr0, hw0, hd0, hsh0⟩ := open_ints (okWide_slice Try.underlying22 (hval 0 22 v0 rfl rfl)) h0
  obtain ⟨x1, hr1, hw1, hd1, hsh1⟩ := open_ints (okWide_slice Try.underlying22 (hval 1 22 v1 rfl rfl)) h1
  clear hA0
  simp only [List.append_nil] at hW' hk
  have hk' : Rows.uptoBulkAll (H := H) [d0, d1] ≤ 1048576 := of_decide_eq_true hk
  simp only [Rows.uptoBulkAll] at hk'
  have hbk0 := ints_bulk hd0
  have hbk1 := ints_bulk hd1
  have hlt0 : ∀ x ∈ p0, x.block < W.heap.size := fun x hx => by simpa using hW'.lt x (by simp [hx])
  have hlt1 : ∀ x ∈ p1, x.block < W.heap.size := fun x hx => by simpa using hW'.lt x (by simp [hx])
  refine (walk v0 x0 v1 x1 W hr0 hw0 (by omega) hsh0 hr1 hw1 (by omega) hsh1).mono fun e W' ⟨he, hb⟩ => ?_
  subst he
  exact ⟨_, rfl, _, _, _, [], (p0 ++ (p1 ++ [])), [], hW', trodAll_cons_mk (shut_bool Try.underlying4 _) trodAll_mk0, trodAll_cons_mk (Below.trod laidOut (by kernel_rfl) (of_decide_eq_true (by kernel_rfl)) h0 hb hlt0) (trodAll_cons_mk (Below.trod laidOut (by kernel_rfl) (of_decide_eq_true (by kernel_rfl)) h1 hb hlt1) trodAll_mk0), rfl, hb.frame _, fun h => by cases h⟩

set_option maxRecDepth 100000 in
theorem lifted (os : Os) (started : os.Started) (H : Type) (enc : TypeId × Value → H) (F : Stop.Interp) :
    ReturnsInHanded {} Try.checked os 5 .any ((Rows.OpenSpec.upto Rows.myersAppliesSpec).preRow enc Try.prog Try.f5 Rows.myersAppliesUptoRow.domain false Rows.myersAppliesUptoRow.laid) (((Rows.OpenSpec.upto Rows.myersAppliesSpec).at F).post enc Try.prog Try.f5 false true false false) := by
  refine returnsInHanded_of_row (C := Try.checked) (s := Rows.OpenSpec.upto Rows.myersAppliesSpec) own started (by kernel_rfl) Try.func5
    (witness_row_at (enc := enc) (C := Try.checked) false
      (World.holding Try.prog os ⟨#[], #[], []⟩)
      #[.slice none 0 0, .slice none 0 0] rfl (by kernel_rfl) (by kernel_rfl) (by kernel_rfl)
      (OpenSpec.preRow_of_cond 8 (x := ([.nil, .nil], [], [])) (by kernel_rfl) (by kernel_rfl) (fun k hk => by cases hk; kernel_rfl) (by kernel_rfl) (laidMetH_of_parts (laidMet_nil _ _) (by kernel_rfl)))) ?_
  intro W base args ds gs before hval hW _ hcond hsz hL _ _
  exact contract H enc W base args ds gs before hval hW (hcond _ rfl)

theorem proved : Rows.MyersAppliesUptoSaid :=
  OpenClaim.holds_of_cond 5 Try.f5 rfl rfl rfl rfl rfl rfl rfl ⟨rfl, rfl, rfl, rfl, rfl⟩ rfl rfl rfl rfl rfl (by kernel_rfl) Try.func5 (by kernel_rfl)
    (of_decide_eq_true (by kernel_rfl)) (by unfold Func.isWrapper; first | (rw [if_pos (by decide +kernel)]; kernel_rfl) | (rw [if_neg (by decide +kernel)]; exact ⟨rfl, rfl⟩))
    (fun os started H enc _ F => by rw [OpenClaim.pre_eq_preRow]; exact lifted os started H enc F)

end Go.Proofs.Ytpedbnghhmnjjaa.myersApplies
