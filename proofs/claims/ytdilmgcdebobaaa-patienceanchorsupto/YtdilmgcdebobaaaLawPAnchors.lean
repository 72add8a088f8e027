/-
  PROVED: for every two lists of integers PatienceAnchors returns true, and both read afterwards as they read before; the condition: what they hold is at most 1048576 in bulk.
-/
import Derived.Test.YtdilmgcdebobaaaY4
import Derived.Test.YtdilmgcdebobaaaGrC9
import Derived.ProofKit
import Derived.OpenShut
import Derived.LaidLaws
import Derived.LaidHandle
import Derived.SizedLaws
import Derived.Deep.DeepHandedRow
namespace Go.Proofs.Ytdilmgcdebobaaa.patienceAnchors
open Go.ChangeShapes Go.WideShapes Go.ChangeAt Go.RowKit
open Go.ChangeMaps (open_string shut_string)
open Ed (Ch Run Pr)
attribute [local go_sem] pair_equal

set_option maxHeartbeats 8000000 in
set_option maxRecDepth 100000 in
theorem walk (va : Value) (a : List Int) (vb : Value) (b : List Int) (w : World) (hra : RdI w va a) (hwa : ∀ z ∈ a, I64 z) (hla : a.length ≤ 1048576) (hsa : va = .slice none 0 0 ∨ ∃ ad n c, va = .slice (some ad) n c) (hrb : RdI w vb b) (hwb : ∀ z ∈ b, I64 z) (hlb : b.length ≤ 1048576) (hsb : vb = .slice none 0 0 ∨ ∃ ad n c, vb = .slice (some ad) n c) :
    Calls Try.prog 3 #[va, vb] w fun e w' => e = .returned (.bool true) ∧ Below w.heap.size w w' := by
  have HRa := hid hra
  have HWa := hid hwa
  have HRb := hid hrb
  have HWb := hid hwb
  have HSb := hid hsb
  have HT := hid (twinI_any hra hsa (by omega))
  obtain ⟨pa, ka, rfl⟩ := hra.shape
  obtain ⟨pb, kb, rfl⟩ := hrb.shape
  clear hra hwa hsa hrb hwb hsb
  go_enter Try.func3, Try.ntmps3
  go_wp2_with fail
  refine HT.out.mono ?_
  rintro e w1 ⟨v1, rfl, hO1, hb1⟩
  obtain ⟨a1, c1, rfl⟩ := own_shape hO1
  have HX1 : Hid (RdI w1 (.slice a1 a.length c1) a) := hid (own_rd hO1)
  have HB1 := hid hb1
  have HT2 := hid (twinI_any (HRb.out.below hb1) HSb.out (by omega))
  clear hO1 hb1 HT
  go_wp2_with fail
  refine HT2.out.mono ?_
  rintro e w2 ⟨v2, rfl, hO2, hb2⟩
  obtain ⟨a2, c2, rfl⟩ := own_shape hO2
  have HY2 : Hid (RdI w2 (.slice a2 b.length c2) b) := hid (own_rd hO2)
  have HX2 : Hid (RdI w2 (.slice a1 a.length c1) a) := hid (HX1.out.below hb2)
  have HB2 := hid (HB1.out.trans (hb2.mono HB1.out.size))
  have HA := hid (anchorsW_any HX2.out HY2.out (by omega) (by omega) HWa.out HWb.out)
  have hfl : (a.filterMap (ancW a b)).length ≤ a.length := List.length_filterMap_le _ _
  obtain ⟨F, hF⟩ : ∃ F, F = a.filterMap (ancW a b) := ⟨_, rfl⟩
  rw [← hF] at HA hfl
  have HAB : Hid (F = a.filterMap (ancW a b)) := hid hF
  clear hF
  clear hO2 hb2 HT2 HX1
  go_wp2_with fail
  refine HA.out.mono ?_
  rintro e w3 ⟨r, rfl, hR, hb3⟩
  obtain ⟨ar, cr, rfl⟩ := hR.shape
  have HR3 := hid hR
  have HX3 : Hid (RdI w3 (.slice a1 a.length c1) a) := hid (HX2.out.below hb3)
  have HY3 : Hid (RdI w3 (.slice a2 b.length c2) b) := hid (HY2.out.below hb3)
  have HB3 := hid (HB2.out.trans (hb3.mono HB2.out.size))
  have HRF := hid (refAnchors_any (HRa.out.below HB3.out) (HRb.out.below HB3.out) (by omega) (by omega))
  rw [← HAB.out] at HRF
  clear hR hb3 HA HX2 HY2 HAB
  go_wp2_with fail
  refine HRF.out.mono ?_
  rintro e w4 ⟨r4, rfl, hO4, hb4⟩
  obtain ⟨a4, c4, rfl⟩ := own_shape hO4
  have HQ4 : Hid (RdP w4 (.slice a4 F.length c4) F) := hid (own_rd hO4)
  have HR4 : Hid (RdP w4 (.slice ar F.length cr) F) := hid (HR3.out.below hb4)
  have HX4 : Hid (RdI w4 (.slice a1 a.length c1) a) := hid (HX3.out.below hb4)
  have HY4 : Hid (RdI w4 (.slice a2 b.length c2) b) := hid (HY3.out.below hb4)
  have HB4 := hid (HB3.out.trans (hb4.mono HB3.out.size))
  have HS1 := hid (sameInts_any HX4.out (HRa.out.below HB4.out) (by omega) (by omega))
  rw [decide_eq_true rfl] at HS1
  have hz0 : ((F.length : Int) == (F.length : Int)) = true := zeq rfl
  clear hO4 hb4 HRF HR3 HX3 HY3 HX4
  go_wp2_with fail
  refine HS1.out.mono ?_
  rintro e w5 ⟨rfl, hb5⟩
  have HB5 := hid (HB4.out.trans (hb5.mono HB4.out.size))
  have HQ5 : Hid (RdP w5 (.slice a4 F.length c4) F) := hid (HQ4.out.below hb5)
  have HR5 : Hid (RdP w5 (.slice ar F.length cr) F) := hid (HR4.out.below hb5)
  have HS2 := hid (sameInts_any (HY4.out.below hb5) (HRb.out.below HB5.out) (by omega) (by omega))
  rw [decide_eq_true rfl] at HS2
  clear hb5 HS1 HQ4 HR4 HY4
  go_wp2_with fail
  refine HS2.out.mono ?_
  rintro e w6 ⟨rfl, hb6⟩
  have HB6 := hid (HB5.out.trans (hb6.mono HB5.out.size))
  have HQ6 : Hid (RdP w6 (.slice a4 F.length c4) F) := hid (HQ5.out.below hb6)
  have HR6 : Hid (RdP w6 (.slice ar F.length cr) F) := hid (HR5.out.below hb6)
  clear hb6 HS2 HQ5 HR5
  go_wp2
  go_loopw [9] (fun ii wr => ∃ k : Nat, k ≤ F.length ∧ ii = .int .i64 k ∧ ∃ q, wr = w6.drewN q) (fun ii _ => F.length - (intOf ii).toNat)
  case atStart => exact ⟨0, Nat.zero_le _, rfl, 0, rfl⟩
  case round =>
    obtain ⟨k, hk, rfl, q, rfl⟩ := hrel
    by_cases hlt : k < F.length
    · obtain ⟨p, hp⟩ : ∃ p, F[k]? = some p := ⟨_, List.getElem?_eq_getElem hlt⟩
      obtain ⟨b1, o1, rfl, _, d0, d1⟩ := rdP_at HR6.out hp
      obtain ⟨b2, o2, rfl, _, d2, d3⟩ := rdP_at HQ6.out hp
      have i1 : (0 : Int) ≤ (k : Int) := by omega
      have i2 : (k : Int) < (F.length : Int) := by omega
      have i3 : IntKind.i64.wrap ((k : Int) + 1) = (k : Int) + 1 := by rw [IntKind.wrap_i64]; omega
      have z1 : (p.1 == p.1) = true := zeq rfl
      have z2 : (p.2 == p.2) = true := zeq rfl
      clear hp
      go_wp2
      go_quiet (fail)
      go_wp2
      go_roundw
      case rel => exact ⟨k + 1, by omega, by go_num, _, by first | rfl | exact World.drewN_drewN _ _ _⟩
      case measure => simp [intOf]; omega
    · obtain rfl : k = F.length := by omega
      have HB7 : Hid (Below w.heap.size w (w6.drewN q)) := hid (below_drewN HB6.out q)
      go_wp2_with fail
      refine (works8_any _).mono ?_
      rintro e w8 ⟨rfl, hb8⟩
      have HB8 := hid (HB7.out.trans (hb8.mono HB7.out.size))
      clear hb8
      go_wp2
      go_ret
      exact ⟨rfl, HB8.out⟩

theorem own : ownKnob Try.prog.godebug = none := by kernel_rfl

set_option maxRecDepth 100000 in
theorem contract (H : Type) (enc : TypeId × Value → H) (W : World) (base : Nat) (args : Array Value) (ds gs : List (DataW H)) (before : List MemPlace)
    (hval : ∀ (j : Nat) t v, Try.f3.params[j]? = some t → args[j]? = some v → Value.okWide Try.prog W .any base t v)
    (hW : DataW.Whole enc Try.prog Try.f3.params.toList Rows.patienceAnchorsSpec.vars false W args.toList ds gs before)
    (hk : Rows.uptoSmall H (ds ++ gs) = true)
    : Calls Try.prog 3 args W fun e W' => ∃ v, e = .returned v ∧ Rows.patienceAnchorsSpec.post enc Try.prog Try.f3 false true false false W args v W' := by
  have hW' := hW
  obtain ⟨p, q, hA0, hV, rfl, hfz, hnd⟩ := hW
  have hA : DataW.TrodAll enc Try.prog W 0 (fun _ => true) true Try.f3.params.toList args.toList ds p := hA0
  rw [Try.params3] at hA hval
  obtain ⟨v0, vs0, d0, ds0, p0, q0, hargs0, rfl, rfl, h0, r0⟩ := trodAll_cons hA
  obtain ⟨v1, vs1, d1, ds1, p1, q1, hargs1, rfl, rfl, h1, r1⟩ := trodAll_cons r0
  obtain ⟨rfl, rfl, rfl⟩ := trodAll_nil r1
  obtain rfl : args = #[v0, v1] := by cases args; simp_all
  obtain ⟨rfl, rfl⟩ := trodVars_none hV
  obtain ⟨x0, hr0, hw0, hd0, hsh0⟩ := open_ints (okWide_slice Try.underlying22 (hval 0 22 v0 rfl rfl)) h0
  obtain ⟨x1, hr1, hw1, hd1, hsh1⟩ := open_ints (okWide_slice Try.underlying22 (hval 1 22 v1 rfl rfl)) h1
  clear hA0
  simp only [List.append_nil] at hW' hk
  have hk' : Rows.uptoBulkAll (H := H) [d0, d1] ≤ 1048576 := of_decide_eq_true hk
  simp only [Rows.uptoBulkAll] at hk'
  have hbk0 := ints_bulk hd0
  have hbk1 := ints_bulk hd1
  have hlt0 : ∀ x ∈ p0, x.block < W.heap.size := fun x hx => by simpa using hW'.lt x (by simp [hx])
  have hlt1 : ∀ x ∈ p1, x.block < W.heap.size := fun x hx => by simpa using hW'.lt x (by simp [hx])
  refine (walk v0 x0 v1 x1 W hr0 hw0 (by omega) hsh0 hr1 hw1 (by omega) hsh1).mono fun e W' ⟨he, hb⟩ => ?_
  subst he
  exact ⟨_, rfl, _, _, _, [], (p0 ++ (p1 ++ [])), [], hW', trodAll_cons_mk (shut_bool Try.underlying4 _) trodAll_mk0, trodAll_cons_mk (Below.trod laidOut (by kernel_rfl) (of_decide_eq_true (by kernel_rfl)) h0 hb hlt0) (trodAll_cons_mk (Below.trod laidOut (by kernel_rfl) (of_decide_eq_true (by kernel_rfl)) h1 hb hlt1) trodAll_mk0), rfl, hb.frame _, fun h => by cases h⟩

set_option maxRecDepth 100000 in
theorem lifted (os : Os) (started : os.Started) (H : Type) (enc : TypeId × Value → H) (F : Stop.Interp) :
    ReturnsInHanded {} Try.checked os 3 .any ((Rows.OpenSpec.upto Rows.patienceAnchorsSpec).preRow enc Try.prog Try.f3 Rows.patienceAnchorsUptoRow.domain false Rows.patienceAnchorsUptoRow.laid) (((Rows.OpenSpec.upto Rows.patienceAnchorsSpec).at F).post enc Try.prog Try.f3 false true false false) := by
  refine returnsInHanded_of_row (C := Try.checked) (s := Rows.OpenSpec.upto Rows.patienceAnchorsSpec) own started (by kernel_rfl) Try.func3
    (witness_row_at (enc := enc) (C := Try.checked) false
      (World.holding Try.prog os ⟨#[], #[], []⟩)
      #[.slice none 0 0, .slice none 0 0] rfl (by kernel_rfl) (by kernel_rfl) (by kernel_rfl)
      (OpenSpec.preRow_of_cond 8 (x := ([.nil, .nil], [], [])) (by kernel_rfl) (by kernel_rfl) (fun k hk => by cases hk; kernel_rfl) (by kernel_rfl) (laidMetH_of_parts (laidMet_nil _ _) (by kernel_rfl)))) ?_
  intro W base args ds gs before hval hW _ hcond hsz hL _ _
  exact contract H enc W base args ds gs before hval hW (hcond _ rfl)

theorem proved : Rows.PatienceAnchorsUptoSaid :=
  OpenClaim.holds_of_cond 3 Try.f3 rfl rfl rfl rfl rfl rfl rfl ⟨rfl, rfl, rfl, rfl, rfl⟩ rfl rfl rfl rfl rfl (by kernel_rfl) Try.func3 (by kernel_rfl)
    (of_decide_eq_true (by kernel_rfl)) (by unfold Func.isWrapper; first | (rw [if_pos (by decide +kernel)]; kernel_rfl) | (rw [if_neg (by decide +kernel)]; exact ⟨rfl, rfl⟩))
    (fun os started H enc _ F => by rw [OpenClaim.pre_eq_preRow]; exact lifted os started H enc F)

end Go.Proofs.Ytdilmgcdebobaaa.patienceAnchors
