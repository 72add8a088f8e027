/-
  The walk of the law HunksBuild.
-/
import Derived.Test.YtkobglnmigakeaaGreatDoorKr
import Derived.Test.YtkobglnmigakeaaGreatDoorGrKt
import Derived.Test.YtkobglnmigakeaaGreatDoorGrKf
import Derived.Test.YtkobglnmigakeaaGreatDoorGrJw
namespace Go.Proofs.YtkobglnmigakeaaGreatDoor
open Go.RowKit
open Hu (Rw Hk)
open Ed (Ch)

set_option maxHeartbeats 2500000 in
set_option maxRecDepth 100000 in
theorem hunksBuild_walk (v0 : Value) (s : List Ch) (v1 : Value) (a : List ByteArray) (v2 : Value) (b : List ByteArray) (ctx : Int) (w : World) (hr : RdC w v0 s) (hwf : ∀ c ∈ s, WfC c) (hl : s.length ≤ 4398046510976) (hsh : ArgS v0)
    (ha : RdT w v1 a) (hsa : ∀ c ∈ a, SzS c) (hla : a.length ≤ 8796093021952) (hsA : ArgS v1) (hb : RdT w v2 b) (hsb : ∀ c ∈ b, SzS c) (hlb : b.length ≤ 8796093021952) (hsB : ArgS v2) (hg : ErrVar w) :
    Calls Tryz.prog 4 #[.agg #[v0, v1, v2, .int .i64 ctx]] w fun e w' => e = .returned (.bool true) ∧ Below w.heap.size w w' := by
  have hsa : ∀ x ∈ a, x.size ≤ maxLen := hsa
  have hsb : ∀ x ∈ b, x.size ≤ maxLen := hsb
  have HR := hid hr
  have HA := hid ha
  have HBb := hid hb
  have HG := hid hg
  have HWF := hid hwf
  have HSA := hid hsa
  have HSB := hid hsb
  have HSH := hid hsh
  have HSHA := hid hsA
  have HSHB := hid hsB
  obtain ⟨a0, c0, rfl⟩ := hr.shape
  obtain ⟨a1, c1, rfl⟩ := ha.shape
  obtain ⟨a2, c2, rfl⟩ := hb.shape
  have HBZ := hid (bldA_sz (s := s) (ctx := ctx) hsa hsb)
  clear hr hwf hg hsh ha hsa hsA hb hsb hsB
  have HT1 := hid (fun w1 (hb : Below w.heap.size w w1) => changes_any (HR.out.below hb) HSH.out hl)
  have HT2 := hid (fun w1 (hb : Below w.heap.size w w1) => texts_any (HA.out.below hb) HSHA.out (by omega))
  have HT3 := hid (fun w1 (hb : Below w.heap.size w w1) => texts_any (HBb.out.below hb) HSHB.out (by omega))
  have HJ1 := hid (fun w1 v1 v2 v3 (h1 : RdC w1 v1 s) (h2 : RdT w1 v2 a) (h3 : RdT w1 v3 b) => build_any (ctx := ctx) h1 HWF.out (by omega) h2 h3 (by omega) (by omega) HSA.out HSB.out)
  have HJ2 := hid (fun w1 v1 v2 v3 (h1 : RdC w1 v1 s) (h2 : RdT w1 v2 a) (h3 : RdT w1 v3 b) => rBuild_any (ctx := ctx) h1 HWF.out (by omega) h2 h3 (by omega) (by omega) HSA.out HSB.out)
  generalize bldN s a b ctx = K at HJ1 HJ2
  generalize bldA s a b ctx = J at HJ1 HJ2 HBZ
  have z : ((K : Int) == (K : Int)) = true := zeq rfl
  have hbA : Below w.heap.size w (w.alloc (.cells #[.slice a0 s.length c0, .slice a1 a.length c1, .slice a2 b.length c2, .int .i64 ctx] 40)) := (Below.refl _ _).alloc (Nat.le_refl _) _
  have hgA := heap_alloc_new w (.cells #[.slice a0 s.length c0, .slice a1 a.length c1, .slice a2 b.length c2, .int .i64 ctx] 40)
  obtain ⟨sn, hsn⟩ : ∃ sn, sn = s.length := ⟨_, rfl⟩
  obtain ⟨an, han⟩ : ∃ an, an = a.length := ⟨_, rfl⟩
  obtain ⟨bn, hbn⟩ : ∃ bn, bn = b.length := ⟨_, rfl⟩
  have HSN := hid hsn
  have z2 : ((sn : Int) == (sn : Int)) = true := zeq rfl
  rw [← hsn, ← han, ← hbn] at hbA hgA ⊢
  rw [← hsn] at HT1
  rw [← han] at HT2
  rw [← hbn] at HT3
  have HAN := hid han
  have HBN := hid hbn
  have HRn : Hid (RdC w (.slice a0 sn c0) s) := hid (by rw [hsn]; exact HR.out)
  have HAn : Hid (RdT w (.slice a1 an c1) a) := hid (by rw [han]; exact HA.out)
  have HBn : Hid (RdT w (.slice a2 bn c2) b) := hid (by rw [hbn]; exact HBb.out)
  have hsnl : sn ≤ 4398046510976 := by omega
  clear hsn han hbn
  go_enter Tryz.func4, Tryz.ntmps4
  go_wp2_with fail
  generalize (w.alloc (.cells #[.slice a0 sn c0, .slice a1 an c1, .slice a2 bn c2, .int .i64 ctx] 40)) = w0 at hbA hgA ⊢
  have k0 : w0.cell? ⟨w.heap.size, 0, none⟩ = some (.slice a0 sn c0) := cell_of_blk hgA 0
  have k1 : w0.cell? ⟨w.heap.size, 1, none⟩ = some (.slice a1 an c1) := cell_of_blk hgA 1
  have k2 : w0.cell? ⟨w.heap.size, 2, none⟩ = some (.slice a2 bn c2) := cell_of_blk hgA 2
  have k3 : w0.cell? ⟨w.heap.size, 3, none⟩ = some (.int .i64 ctx) := cell_of_blk hgA 3
  have HBA := hid hbA
  obtain ⟨g, hg⟩ : ∃ g, g = w.heap.size := ⟨_, rfl⟩
  rw [← hg] at k0 k1 k2 k3 ⊢
  clear hg hgA hbA
  go_region_held3 (fun w' => w'.cell? ⟨g, 0, none⟩ = some (.slice a0 sn c0) ∧ w'.cell? ⟨g, 1, none⟩ = some (.slice a1 an c1) ∧ w'.cell? ⟨g, 2, none⟩ = some (.slice a2 bn c2) ∧ w'.cell? ⟨g, 3, none⟩ = some (.int .i64 ctx))
    (first
      | go_keep
      | (go_split_ands
         refine ⟨?_, ?_, ?_, ?_⟩ <;> exact (hbk.cell (lt_of_cell (by assumption))).trans (by assumption)))
    (first
      | (go_at_call 18; have hB2 := HB2.out; refine (HT3.out _ hB2).mono ?_; rintro e w3 ⟨v3, rfl, hO3, hbk⟩; obtain ⟨aj, cj, ej⟩ := own_shape hO3; rw [← HBN.out] at ej; subst ej; have HO3 := hid (own_rd hO3); have HN3 := hid (HN2.out.below hbk); have HM3 := hid (HM2.out.below hbk); have HB3 : Hid (Below w.heap.size w w3) := hid (HB2.out.trans (hbk.mono HB2.out.size)); have HC3 : Hid (Below w0.heap.size w0 w3) := hid (HC2.out.trans (hbk.mono HC2.out.size)); clear hO3 hB2)
      | (go_at_call 18; have hB1 := HB1.out; refine (HT2.out _ hB1).mono ?_; rintro e w2 ⟨v2, rfl, hO2, hbk⟩; obtain ⟨an', cn, en⟩ := own_shape hO2; rw [← HAN.out] at en; subst en; have HN2 := hid (own_rd hO2); have HM2 := hid (HM1.out.below hbk); have HB2 : Hid (Below w.heap.size w w2) := hid (hB1.trans (hbk.mono hB1.size)); have HC2 : Hid (Below w0.heap.size w0 w2) := hid (HC1.out.trans (hbk.mono HC1.out.size)); clear hO2 hB1)
      | (go_at_call 17; refine (HT1.out _ (below_drewN HBA.out 1)).mono ?_; rintro e w1 ⟨v1, rfl, hO1, hbk⟩; obtain ⟨am, cm, em⟩ := own_shape hO1; rw [← HSN.out] at em; subst em; have HM1 := hid (own_rd hO1); have HB1 : Hid (Below w.heap.size w w1) := hid ((below_drewN HBA.out 1).trans (hbk.mono (below_drewN HBA.out 1).size)); have HC1 : Hid (Below w0.heap.size w0 w1) := hid ((below_drewN (Below.refl w0.heap.size w0) 1).trans hbk); clear hO1))
  have HL3 := hid (And.intro ((HC3.out.cell (lt_of_cell k0)).trans k0) (And.intro ((HC3.out.cell (lt_of_cell k1)).trans k1) (And.intro ((HC3.out.cell (lt_of_cell k2)).trans k2) ((HC3.out.cell (lt_of_cell k3)).trans k3))))
  have HGW : Hid (g < w3.heap.size) := hid (lt_of_cell HL3.out.1)
  obtain ⟨w9, hw9⟩ : ∃ w9, w9 = w3 := ⟨_, rfl⟩
  subst hw9
  clear k0 k1 k2 k3 HC1 HC2 HC3 HB1 HB2 HM1 HM2 HN2 HBA
  have HLL : Hid (∀ w1, Below w9.heap.size w9 w1 → w1.cell? ⟨g, 0, none⟩ = some (.slice a0 sn c0) ∧ w1.cell? ⟨g, 1, none⟩ = some (.slice a1 an c1) ∧ w1.cell? ⟨g, 2, none⟩ = some (.slice a2 bn c2) ∧ w1.cell? ⟨g, 3, none⟩ = some (.int .i64 ctx)) := hid (fun w1 h => ⟨(h.cell (p := ⟨g, _, none⟩) HGW.out).trans HL3.out.1, (h.cell (p := ⟨g, _, none⟩) HGW.out).trans HL3.out.2.1, (h.cell (p := ⟨g, _, none⟩) HGW.out).trans HL3.out.2.2.1, (h.cell (p := ⟨g, _, none⟩) HGW.out).trans HL3.out.2.2.2⟩)
  obtain ⟨k0, k1, k2, k3⟩ := HL3.out
  go_wp2_with fail
  refine (HJ1.out _ _ _ _ HM3.out HN3.out HO3.out).mono ?_
  rintro e w4 ⟨v4, rfl, hO4, hb4⟩
  obtain ⟨a4, c4, e4⟩ := hO4.shape
  subst e4
  have HJ4 := hid hO4.rd
  have HX4 := hid hb4
  clear hO4 hb4 k0 k1 k2 k3
  obtain ⟨k0, k1, k2, k3⟩ := HLL.out _ HX4.out
  go_wp2_with fail
  refine (HJ2.out _ _ _ _ ((HRn.out.below HB3.out).below HX4.out) ((HAn.out.below HB3.out).below HX4.out) ((HBn.out.below HB3.out).below HX4.out)).mono ?_
  rintro e w5 ⟨v5, rfl, hO5, hb5⟩
  obtain ⟨a5, c5, e5⟩ := hO5.shape
  subst e5
  have HJ5 := hid hO5.rd
  have HK5 := hid (HJ4.out.below hb5)
  have HX5 := hid (HX4.out.trans (hb5.mono HX4.out.size))
  clear hO5 hb5 k0 k1 k2 k3 HJ4 HX4
  go_wp2_with fail
  refine (sameAll_yes HK5.out HJ5.out (by have := HBZ.out.2; omega) HBZ.out.1).mono ?_
  rintro e w6 ⟨rfl, hb6⟩
  have HX6 := hid (HX5.out.trans (hb6.mono HX5.out.size))
  clear hb6 HX5 HK5 HJ5
  go_wp2_with fail
  refine (num_any K _ ((HG.out.below HB3.out).below HX6.out)).mono ?_
  rintro e w7 ⟨rfl, hb7⟩
  have HX7 := hid (HX6.out.trans (hb7.mono HX6.out.size))
  clear hb7 HX6
  obtain ⟨k0, k1, k2, k3⟩ := HLL.out _ HX7.out
  go_wp2_with fail
  refine (sameTexts_yes (HN3.out.below HX7.out) ((HAn.out.below HB3.out).below HX7.out) (by have := HAN.out; omega)).mono ?_
  rintro e w8 ⟨rfl, hb8⟩
  have HX8 := hid (HX7.out.trans (hb8.mono HX7.out.size))
  clear hb8 HX7 k0 k1 k2 k3
  obtain ⟨k0, k1, k2, k3⟩ := HLL.out _ HX8.out
  go_wp2_with fail
  refine (sameTexts_yes (HO3.out.below HX8.out) ((HBn.out.below HB3.out).below HX8.out) (by have := HBN.out; omega)).mono ?_
  rintro e w10 ⟨rfl, hb10⟩
  have HX10 := hid (HX8.out.trans (hb10.mono HX8.out.size))
  clear hb10 HX8 k0 k1 k2 k3
  obtain ⟨k0, k1, k2, k3⟩ := HLL.out _ HX10.out
  go_wp2_with fail
  go_loopw [10] (fun ii wr => ∃ (k : Nat), k ≤ sn ∧ ii = .int .i64 k ∧ Hid (Below w9.heap.size w9 wr)) (fun ii _ => sn - (intOf ii).toNat)
  case atStart => exact ⟨0, Nat.zero_le _, rfl, HX10⟩
  case round =>
    obtain ⟨k, hk, rfl, HB⟩ := hrel
    clear k0 k1 k2 k3
    by_cases hlt : k < sn
    · obtain ⟨x, hx⟩ : ∃ x, s[k]? = some x := ⟨_, List.getElem?_eq_getElem (by have := HSN.out; omega)⟩
      obtain ⟨b1, o1, e1, hb1, d0, d1, d2, d3⟩ := rdC_at (HM3.out.below HB.out) hx
      obtain ⟨b2, o2, e2, hb2, g0, g1, g2, g3⟩ := rdC_at ((HRn.out.below HB3.out).below HB.out) hx
      obtain ⟨k0, k1, k2, k3⟩ := HLL.out _ HB.out
      subst e1
      subst e2
      have i1 : (0 : Int) ≤ (k : Int) := by omega
      have i2 : (k : Int) < (sn : Int) := by omega
      clear hx hb1 hb2
      go_wp2_with fail
      go_quiet (fail)
      go_wp2_with fail
      go_roundw
      case rel => exact ⟨k + 1, by omega, by go_num, hid (below_drewN HB.out _)⟩
      case measure => simp [intOf]; omega
    · obtain rfl : k = sn := by omega
      go_wp2_with fail
      refine (works_any _ ((HG.out.below HB3.out).below HB.out)).mono ?_
      rintro e w7 ⟨rfl, hb7⟩
      have HB7 := hid ((HB3.out.trans (HB.out.mono HB3.out.size)).trans (hb7.mono (Nat.le_trans HB3.out.size HB.out.size)))
      clear hb7
      go_wp2_with fail
      go_ret
      exact ⟨rfl, HB7.out⟩
end Go.Proofs.YtkobglnmigakeaaGreatDoor
