/-
  PROVED: for every three lists of integers MyersMeasures returns true, and all read afterwards as they read before; the condition: what they hold is at most 1048576 in bulk.
-/
import Derived.Test.YtpedbnghhmnjjaaT4
import Derived.Test.YtpedbnghhmnjjaaT5
import Derived.ProofKit
import Derived.OpenShut
import Derived.LaidLaws
import Derived.LaidHandle
import Derived.SizedLaws
import Derived.Deep.DeepHandedRow
namespace Go.Proofs.Ytpedbnghhmnjjaa.myersMeasures
open Go.ChangeShapes Go.WideShapes Go.ChangeAt Go.RowKit
open Go.ChangeMaps (open_string shut_string)
open Ed (Ch Run Pr)

set_option maxHeartbeats 8000000 in
set_option maxRecDepth 100000 in
theorem walk (va : Value) (a : List Int) (vb : Value) (b : List Int) (vc : Value) (c : List Int) (w : World) (hra : RdI w va a) (hwa : ∀ z ∈ a, I64 z) (hla : a.length ≤ 1048576) (hsa : va = .slice none 0 0 ∨ ∃ ad n c, va = .slice (some ad) n c) (hrb : RdI w vb b) (hwb : ∀ z ∈ b, I64 z) (hlb : b.length ≤ 1048576) (hsb : vb = .slice none 0 0 ∨ ∃ ad n c, vb = .slice (some ad) n c) (hrc : RdI w vc c) (hwc : ∀ z ∈ c, I64 z) (hlc : c.length ≤ 1048576) (hsc : vc = .slice none 0 0 ∨ ∃ ad n c, vc = .slice (some ad) n c) :
    Calls Try.prog 6 #[va, vb, vc] w fun e w' => e = .returned (.bool true) ∧ Below w.heap.size w w' := by
  have HRa := hid hra
  have HWa := hid hwa
  have HSa : Hid (ArgS va) := hid hsa
  obtain ⟨pa, ka, rfl⟩ := hra.shape
  have HRb := hid hrb
  have HWb := hid hwb
  have HSb : Hid (ArgS vb) := hid hsb
  obtain ⟨pb, kb, rfl⟩ := hrb.shape
  have HRc := hid hrc
  have HWc := hid hwc
  have HSc : Hid (ArgS vc) := hid hsc
  obtain ⟨pc, kc, rfl⟩ := hrc.shape
  clear hra hwa hsa hrb hwb hsb hrc hwc hsc
  have hdst : ∀ x y : List Int, My.dst x y ≤ x.length + y.length := fun x y => by unfold My.dst; omega
  have l1 := hdst a b
  have l2 := hdst a c
  have l3 := hdst c b
  have HD1 := hid (fun w1 (hb : Below w.heap.size w w1) => distance_any (HRa.out.below hb) (HRb.out.below hb) (by omega) (by omega) HWa.out HWb.out)
  have HD2 : Hid (∀ w1, Below w.heap.size w w1 → Calls Try.prog 13 #[.slice pb b.length kb, .slice pa a.length ka] w1 fun e w' => e = .returned (.int .i64 (My.dst a b)) ∧ Below w1.heap.size w1 w') := hid (fun w1 hb => by rw [My.dst_comm]; exact distance_any (HRb.out.below hb) (HRa.out.below hb) (by omega) (by omega) HWb.out HWa.out)
  have HD3 := hid (fun w1 (hb : Below w.heap.size w w1) => distance_any (HRa.out.below hb) (HRc.out.below hb) (by omega) (by omega) HWa.out HWc.out)
  have HD4 := hid (fun w1 (hb : Below w.heap.size w w1) => distance_any (HRc.out.below hb) (HRb.out.below hb) (by omega) (by omega) HWc.out HWb.out)
  have HSM := hid (fun w1 (hb : Below w.heap.size w w1) => same_any (HRa.out.below hb) (HRb.out.below hb) (by omega) (by omega))
  have hway := My.dst_way a b c
  have hzero := My.dst_zero a b
  have hsum := My.dst_eq a b
  have hlcs := My.lcs_le a b
  have z2 : (((My.dst a b : Int) == 0) == decide (a = b)) = true := by
    by_cases h : a = b
    · rw [decide_eq_true h, zeq (by have := hzero.2 h; omega)]; rfl
    · rw [decide_eq_false h, zne (fun e => h (hzero.1 (by omega)))]; rfl
  generalize My.dst a b = D at HD1 HD2 hway hzero hsum z2 l1
  generalize My.dst a c = E at HD3 hway l2
  generalize My.dst c b = F at HD4 hway l3
  generalize My.lcs a b = C at hsum hlcs
  have z1 : ((D : Int) == (D : Int)) = true := zeq rfl
  have i1 : IntKind.i64.wrap ((E : Int) + (F : Int)) = (E : Int) + (F : Int) := wrapOk (by omega) (by omega)
  have j1 : (D : Int) ≤ (E : Int) + (F : Int) := by omega
  have i2 : IntKind.i64.wrap ((a.length : Int) - (b.length : Int)) = (a.length : Int) - (b.length : Int) := wrapOk (by omega) (by omega)
  clear HRa HRb HRc HWa HWb HWc HSa HSb HSc hdst
  by_cases hlt : a.length < b.length
  · have j2 : (a.length : Int) - (b.length : Int) < 0 := by omega
    obtain ⟨G, hG⟩ : ∃ G : Nat, G = b.length - a.length := ⟨_, rfl⟩
    have i3 : IntKind.i64.wrap (-((a.length : Int) - (b.length : Int))) = (G : Int) := (wrapOk (by omega) (by omega)).trans (by omega)
    obtain ⟨R, hR⟩ : ∃ R : Nat, R + G = D := ⟨D - G, by omega⟩
    have i4 : IntKind.i64.wrap ((D : Int) - (G : Int)) = (R : Int) := (wrapOk (by omega) (by omega)).trans (by omega)
    have j4 : (G : Int) ≤ (D : Int) := by omega
    have i5 : IntKind.i64.wrap ((R : Int).tmod 2) = 0 := by rw [Int.tmod_eq_emod_of_nonneg (by omega)]; exact (wrapOk (by omega) (by omega)).trans (by omega)
    have i6 : (R : Int) % 2 = 0 := by omega
    clear hG hR hsum hlcs hzero hway l1 l2 l3
    go_enter Try.func6, Try.ntmps6
    go_wp2_with fail
    refine (HD1.out _ (Below.refl _ _)).mono ?_
    rintro e w1 ⟨rfl, hb1⟩
    have HB1 := hid (hb1)
    clear hb1
    go_wp2_with fail
    refine (HD2.out _ HB1.out).mono ?_
    rintro e w2 ⟨rfl, hb2⟩
    have HB2 := hid (HB1.out.trans (hb2.mono HB1.out.size))
    clear hb2
    go_wp2_with fail
    refine (HSM.out _ HB2.out).mono ?_
    rintro e w3 ⟨rfl, hb3⟩
    have HB3 := hid (HB2.out.trans (hb3.mono HB2.out.size))
    clear hb3
    go_wp2_with fail
    refine (HD3.out _ HB3.out).mono ?_
    rintro e w4 ⟨rfl, hb4⟩
    have HB4 := hid (HB3.out.trans (hb4.mono HB3.out.size))
    clear hb4
    go_wp2_with fail
    refine (HD4.out _ HB4.out).mono ?_
    rintro e w5 ⟨rfl, hb5⟩
    have HB5 := hid (HB4.out.trans (hb5.mono HB4.out.size))
    clear hb5
    go_wp2_with fail
    refine (sure_any _).mono ?_
    rintro e w6 ⟨rfl, hb6⟩
    have HB6 := hid (HB5.out.trans (hb6.mono HB5.out.size))
    clear hb6
    go_wp2
    go_ret
    exact ⟨rfl, HB6.out⟩
  · have j2 : ¬ ((a.length : Int) - (b.length : Int) < 0) := by omega
    obtain ⟨G, hG⟩ : ∃ G : Nat, G = a.length - b.length := ⟨_, rfl⟩
    have i3 : (a.length : Int) - (b.length : Int) = (G : Int) := by omega
    rw [i3] at i2 j2
    obtain ⟨R, hR⟩ : ∃ R : Nat, R + G = D := ⟨D - G, by omega⟩
    have i4 : IntKind.i64.wrap ((D : Int) - (G : Int)) = (R : Int) := (wrapOk (by omega) (by omega)).trans (by omega)
    have j4 : (G : Int) ≤ (D : Int) := by omega
    have i5 : IntKind.i64.wrap ((R : Int).tmod 2) = 0 := by rw [Int.tmod_eq_emod_of_nonneg (by omega)]; exact (wrapOk (by omega) (by omega)).trans (by omega)
    have i6 : (R : Int) % 2 = 0 := by omega
    have j5 : (0 : Int) ≤ (G : Int) := by omega
    clear hG hR hsum hlcs hzero hway l1 l2 l3
    go_enter Try.func6, Try.ntmps6
    go_wp2_with fail
    refine (HD1.out _ (Below.refl _ _)).mono ?_
    rintro e w1 ⟨rfl, hb1⟩
    have HB1 := hid (hb1)
    clear hb1
    go_wp2_with fail
    refine (HD2.out _ HB1.out).mono ?_
    rintro e w2 ⟨rfl, hb2⟩
    have HB2 := hid (HB1.out.trans (hb2.mono HB1.out.size))
    clear hb2
    go_wp2_with fail
    refine (HSM.out _ HB2.out).mono ?_
    rintro e w3 ⟨rfl, hb3⟩
    have HB3 := hid (HB2.out.trans (hb3.mono HB2.out.size))
    clear hb3
    go_wp2_with fail
    refine (HD3.out _ HB3.out).mono ?_
    rintro e w4 ⟨rfl, hb4⟩
    have HB4 := hid (HB3.out.trans (hb4.mono HB3.out.size))
    clear hb4
    go_wp2_with fail
    refine (HD4.out _ HB4.out).mono ?_
    rintro e w5 ⟨rfl, hb5⟩
    have HB5 := hid (HB4.out.trans (hb5.mono HB4.out.size))
    clear hb5
    go_wp2_with fail
    refine (sure_any _).mono ?_
    rintro e w6 ⟨rfl, hb6⟩
    have HB6 := hid (HB5.out.trans (hb6.mono HB5.out.size))
    clear hb6
    go_wp2
    go_ret
    exact ⟨rfl, HB6.out⟩

theorem own : ownKnob Try.prog.godebug = none := by kernel_rfl

set_option maxRecDepth 100000 in
theorem contract (H : Type) (enc : TypeId × Value → H) (W : World) (base : Nat) (args : Array Value) (ds gs : List (DataW H)) (before : List MemPlace)
    (hval : ∀ (j : Nat) t v, Try.f6.params[j]? = some t → args[j]? = some v → Value.okWide Try.prog W .any base t v)
    (hW : DataW.Whole enc Try.prog Try.f6.params.toList Rows.myersMeasuresSpec.vars false W args.toList ds gs before)
    (hk : Rows.uptoSmall H (ds ++ gs) = true)
    : Calls Try.prog 6 args W fun e W' => ∃ v, e = .returned v ∧ Rows.myersMeasuresSpec.post enc Try.prog Try.f6 false true false false W args v W' := by
  have hW' := hW
  obtain ⟨p, q, hA0, hV, rfl, hfz, hnd⟩ := hW
  have hA : DataW.TrodAll enc Try.prog W 0 (fun _ => true) true Try.f6.params.toList args.toList ds p := hA0
  rw [Try.params6] at hA hval
  obtain ⟨v0, vs0, d0, ds0, p0, q0, hargs0, rfl, rfl, h0, r0⟩ := trodAll_cons hA
  obtain ⟨v1, vs1, d1, ds1, p1, q1, hargs1, rfl, rfl, h1, r1⟩ := trodAll_cons r0
  obtain ⟨v2, vs2, d2, ds2, p2, q2, hargs2, rfl, rfl, h2, r2⟩ := trodAll_cons r1
  obtain ⟨rfl, rfl, rfl⟩ := trodAll_nil r2
  obtain rfl : args = #[v0, v1, v2] := by cases args; simp_all
  obtain ⟨rfl, rfl⟩ := trodVars_none hV
  obtain ⟨x0, hr0, hw0, hd0, hsh0⟩ := open_ints (okWide_slice Try.underlying22 (hval 0 22 v0 rfl rfl)) h0
  obtain ⟨x1, hr1, hw1, hd1, hsh1⟩ := open_ints (okWide_slice Try.underlying22 (hval 1 22 v1 rfl rfl)) h1
  obtain ⟨x2, hr2, hw2, hd2, hsh2⟩ := open_ints (okWide_slice Try.underlying22 (hval 2 22 v2 rfl rfl)) h2
  clear hA0
  simp only [List.append_nil] at hW' hk
  have hk' : Rows.uptoBulkAll (H := H) [d0, d1, d2] ≤ 1048576 := of_decide_eq_true hk
  simp only [Rows.uptoBulkAll] at hk'
  have hbk0 := ints_bulk hd0
  have hbk1 := ints_bulk hd1
  have hbk2 := ints_bulk hd2
  have hlt0 : ∀ x ∈ p0, x.block < W.heap.size := fun x hx => by simpa using hW'.lt x (by simp [hx])
  have hlt1 : ∀ x ∈ p1, x.block < W.heap.size := fun x hx => by simpa using hW'.lt x (by simp [hx])
  have hlt2 : ∀ x ∈ p2, x.block < W.heap.size := fun x hx => by simpa using hW'.lt x (by simp [hx])
  refine (walk v0 x0 v1 x1 v2 x2 W hr0 hw0 (by omega) hsh0 hr1 hw1 (by omega) hsh1 hr2 hw2 (by omega) hsh2).mono fun e W' ⟨he, hb⟩ => ?_
  subst he
  exact ⟨_, rfl, _, _, _, [], (p0 ++ (p1 ++ (p2 ++ []))), [], hW', trodAll_cons_mk (shut_bool Try.underlying4 _) trodAll_mk0, trodAll_cons_mk (Below.trod laidOut (by kernel_rfl) (of_decide_eq_true (by kernel_rfl)) h0 hb hlt0) (trodAll_cons_mk (Below.trod laidOut (by kernel_rfl) (of_decide_eq_true (by kernel_rfl)) h1 hb hlt1) (trodAll_cons_mk (Below.trod laidOut (by kernel_rfl) (of_decide_eq_true (by kernel_rfl)) h2 hb hlt2) trodAll_mk0)), rfl, hb.frame _, fun h => by cases h⟩

set_option maxRecDepth 100000 in
theorem lifted (os : Os) (started : os.Started) (H : Type) (enc : TypeId × Value → H) (F : Stop.Interp) :
    ReturnsInHanded {} Try.checked os 6 .any ((Rows.OpenSpec.upto Rows.myersMeasuresSpec).preRow enc Try.prog Try.f6 Rows.myersMeasuresUptoRow.domain false Rows.myersMeasuresUptoRow.laid) (((Rows.OpenSpec.upto Rows.myersMeasuresSpec).at F).post enc Try.prog Try.f6 false true false false) := by
  refine returnsInHanded_of_row (C := Try.checked) (s := Rows.OpenSpec.upto Rows.myersMeasuresSpec) own started (by kernel_rfl) Try.func6
    (witness_row_at (enc := enc) (C := Try.checked) false
      (World.holding Try.prog os ⟨#[], #[], []⟩)
      #[.slice none 0 0, .slice none 0 0, .slice none 0 0] rfl (by kernel_rfl) (by kernel_rfl) (by kernel_rfl)
      (OpenSpec.preRow_of_cond 8 (x := ([.nil, .nil, .nil], [], [])) (by kernel_rfl) (by kernel_rfl) (fun k hk => by cases hk; kernel_rfl) (by kernel_rfl) (laidMetH_of_parts (laidMet_nil _ _) (by kernel_rfl)))) ?_
  intro W base args ds gs before hval hW _ hcond hsz hL _ _
  exact contract H enc W base args ds gs before hval hW (hcond _ rfl)

theorem proved : Rows.MyersMeasuresUptoSaid :=
  OpenClaim.holds_of_cond 6 Try.f6 rfl rfl rfl rfl rfl rfl rfl ⟨rfl, rfl, rfl, rfl, rfl⟩ rfl rfl rfl rfl rfl (by kernel_rfl) Try.func6 (by kernel_rfl)
    (of_decide_eq_true (by kernel_rfl)) (by unfold Func.isWrapper; first | (rw [if_pos (by decide +kernel)]; kernel_rfl) | (rw [if_neg (by decide +kernel)]; exact ⟨rfl, rfl⟩))
    (fun os started H enc _ F => by rw [OpenClaim.pre_eq_preRow]; exact lifted os started H enc F)

end Go.Proofs.Ytpedbnghhmnjjaa.myersMeasures
