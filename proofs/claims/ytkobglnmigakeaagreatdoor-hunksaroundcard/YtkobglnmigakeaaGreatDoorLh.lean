/-
  The walk of the law HunksAround.
-/
import Derived.Test.YtkobglnmigakeaaGreatDoorLg
import Derived.Test.YtkobglnmigakeaaGreatDoorLd
import Derived.Test.YtkobglnmigakeaaGreatDoorGrKt
import Derived.Test.YtkobglnmigakeaaGreatDoorGrJw
import Derived.Test.YtkobglnmigakeaaGreatDoorGrKf
namespace Go.Proofs.YtkobglnmigakeaaGreatDoor
open Go.RowKit
open Hu (Rw Hk)
open Ed (Ch)

set_option maxHeartbeats 2500000 in
set_option maxRecDepth 100000 in
theorem hunksAround_walk (v0 : Value) (s : List Ch) (v1 : Value) (a : List ByteArray) (v2 : Value) (b : List ByteArray) (ctx : Int) (w : World) (hr : RdC w v0 s) (hwf : ∀ c ∈ s, WfC c) (hl : s.length ≤ 4398046510976) (hsh : ArgS v0)
    (ha : RdT w v1 a) (hsa : ∀ c ∈ a, SzS c) (hla : a.length ≤ 8796093021952) (hsA : ArgS v1) (hb : RdT w v2 b) (hsb : ∀ c ∈ b, SzS c) (hlb : b.length ≤ 8796093021952) (hsB : ArgS v2) (hg : ErrVar w) :
    Calls Tryz.prog 6 #[.agg #[v0, v1, v2, .int .i64 ctx]] w fun e w' => e = .returned (.bool true) ∧ Below w.heap.size w w' := by
  have hsa : ∀ x ∈ a, x.size ≤ maxLen := hsa
  have hsb : ∀ x ∈ b, x.size ≤ maxLen := hsb
  have HR := hid hr
  have HA := hid ha
  have HBb := hid hb
  have HG := hid hg
  have HWF := hid hwf
  have HSA := hid hsa
  have HSB := hid hsb
  have HSH := hid hsh
  have HSHA := hid hsA
  have HSHB := hid hsB
  obtain ⟨a0, c0, rfl⟩ := hr.shape
  obtain ⟨a1, c1, rfl⟩ := ha.shape
  obtain ⟨a2, c2, rfl⟩ := hb.shape
  have HBZ := hid (bldA_sz (s := s) (ctx := ctx) hsa hsb)
  clear hr hwf hg hsh ha hsa hsA hb hsb hsB
  have HT1 := hid (fun w1 (hb : Below w.heap.size w w1) => changes_any (HR.out.below hb) HSH.out hl)
  have HT2 := hid (fun w1 (hb : Below w.heap.size w w1) => texts_any (HA.out.below hb) HSHA.out (by omega))
  have HT3 := hid (fun w1 (hb : Below w.heap.size w w1) => texts_any (HBb.out.below hb) HSHB.out (by omega))
  have HJ1 := hid (fun w1 v1 v2 v3 (h1 : RdC w1 v1 s) (h2 : RdT w1 v2 a) (h3 : RdT w1 v3 b) => build_any (ctx := ctx) h1 HWF.out (by omega) h2 h3 (by omega) (by omega) HSA.out HSB.out)
  have HAR := hid (fun (h : bldN s a b ctx = 0) => bld_ar h)
  have HNO0 : Hid (bldN s a b ctx ≠ 0 → bldA s a b ctx = []) := hid bldA_no
  have HVN : Hid (bldN s a b ctx = 0 → Ed.validN s a.length b.length = 0) := hid (fun h => (bldN_zero h).2.2.2.1)
  generalize bldN s a b ctx = K at HJ1 HAR HNO0 HVN
  generalize bldA s a b ctx = J at HJ1 HBZ HAR HNO0
  have hbA : Below w.heap.size w (w.alloc (.cells #[.slice a0 s.length c0, .slice a1 a.length c1, .slice a2 b.length c2, .int .i64 ctx] 40)) := (Below.refl _ _).alloc (Nat.le_refl _) _
  have hgA := heap_alloc_new w (.cells #[.slice a0 s.length c0, .slice a1 a.length c1, .slice a2 b.length c2, .int .i64 ctx] 40)
  obtain ⟨sn, hsn⟩ : ∃ sn, sn = s.length := ⟨_, rfl⟩
  obtain ⟨an, han⟩ : ∃ an, an = a.length := ⟨_, rfl⟩
  obtain ⟨bn, hbn⟩ : ∃ bn, bn = b.length := ⟨_, rfl⟩
  have HSN := hid hsn
  have z2 : ((sn : Int) == (sn : Int)) = true := zeq rfl
  rw [← hsn, ← han, ← hbn] at hbA hgA ⊢
  rw [← hsn] at HT1
  rw [← han] at HT2
  rw [← hbn] at HT3
  have HAN := hid han
  have HBN := hid hbn
  have HRn : Hid (RdC w (.slice a0 sn c0) s) := hid (by rw [hsn]; exact HR.out)
  have HAn : Hid (RdT w (.slice a1 an c1) a) := hid (by rw [han]; exact HA.out)
  have HBn : Hid (RdT w (.slice a2 bn c2) b) := hid (by rw [hbn]; exact HBb.out)
  have hsnl : sn ≤ 4398046510976 := by omega
  clear hsn han hbn
  go_enter Tryz.func6, Tryz.ntmps6
  go_wp2_with fail
  generalize (w.alloc (.cells #[.slice a0 sn c0, .slice a1 an c1, .slice a2 bn c2, .int .i64 ctx] 40)) = w0 at hbA hgA ⊢
  have k0 : w0.cell? ⟨w.heap.size, 0, none⟩ = some (.slice a0 sn c0) := cell_of_blk hgA 0
  have k1 : w0.cell? ⟨w.heap.size, 1, none⟩ = some (.slice a1 an c1) := cell_of_blk hgA 1
  have k2 : w0.cell? ⟨w.heap.size, 2, none⟩ = some (.slice a2 bn c2) := cell_of_blk hgA 2
  have k3 : w0.cell? ⟨w.heap.size, 3, none⟩ = some (.int .i64 ctx) := cell_of_blk hgA 3
  have HBA := hid hbA
  obtain ⟨g, hg⟩ : ∃ g, g = w.heap.size := ⟨_, rfl⟩
  rw [← hg] at k0 k1 k2 k3 ⊢
  clear hg hgA hbA
  go_region_held3 (fun w' => w'.cell? ⟨g, 0, none⟩ = some (.slice a0 sn c0) ∧ w'.cell? ⟨g, 1, none⟩ = some (.slice a1 an c1) ∧ w'.cell? ⟨g, 2, none⟩ = some (.slice a2 bn c2) ∧ w'.cell? ⟨g, 3, none⟩ = some (.int .i64 ctx))
    (first
      | go_keep
      | (go_split_ands
         refine ⟨?_, ?_, ?_, ?_⟩ <;> exact (hbk.cell (lt_of_cell (by assumption))).trans (by assumption)))
    (first
      | (go_at_call 19; refine (HJ1.out _ _ _ _ HM3.out HN3.out HO3.out).mono ?_; rintro e w4 ⟨v4, rfl, hO4, hbk⟩; obtain ⟨a4, c4, e4⟩ := hO4.shape; subst e4; have HJ4 := hid hO4; have HB4 : Hid (Below w.heap.size w w4) := hid (HB3.out.trans (hbk.mono HB3.out.size)); have HC4 : Hid (Below w0.heap.size w0 w4) := hid (HC3.out.trans (hbk.mono HC3.out.size)); clear hO4)
      | (go_at_call 18; have hB2 := HB2.out; refine (HT3.out _ hB2).mono ?_; rintro e w3 ⟨v3, rfl, hO3, hbk⟩; obtain ⟨aj, cj, ej⟩ := own_shape hO3; rw [← HBN.out] at ej; subst ej; have HO3 := hid (own_rd hO3); have HN3 := hid (HN2.out.below hbk); have HM3 := hid (HM2.out.below hbk); have HB3 : Hid (Below w.heap.size w w3) := hid (HB2.out.trans (hbk.mono HB2.out.size)); have HC3 : Hid (Below w0.heap.size w0 w3) := hid (HC2.out.trans (hbk.mono HC2.out.size)); clear hO3 hB2)
      | (go_at_call 18; have hB1 := HB1.out; refine (HT2.out _ hB1).mono ?_; rintro e w2 ⟨v2, rfl, hO2, hbk⟩; obtain ⟨an', cn, en⟩ := own_shape hO2; rw [← HAN.out] at en; subst en; have HN2 := hid (own_rd hO2); have HM2 := hid (HM1.out.below hbk); have HB2 : Hid (Below w.heap.size w w2) := hid (hB1.trans (hbk.mono hB1.size)); have HC2 : Hid (Below w0.heap.size w0 w2) := hid (HC1.out.trans (hbk.mono HC1.out.size)); clear hO2 hB1)
      | (go_at_call 17; refine (HT1.out _ (below_drewN HBA.out 1)).mono ?_; rintro e w1 ⟨v1, rfl, hO1, hbk⟩; obtain ⟨am, cm, em⟩ := own_shape hO1; rw [← HSN.out] at em; subst em; have HM1 := hid (own_rd hO1); have HB1 : Hid (Below w.heap.size w w1) := hid ((below_drewN HBA.out 1).trans (hbk.mono (below_drewN HBA.out 1).size)); have HC1 : Hid (Below w0.heap.size w0 w1) := hid ((below_drewN (Below.refl w0.heap.size w0) 1).trans hbk); clear hO1))
  have HL3 := hid (And.intro ((HC4.out.cell (lt_of_cell k0)).trans k0) (And.intro ((HC4.out.cell (lt_of_cell k1)).trans k1) (And.intro ((HC4.out.cell (lt_of_cell k2)).trans k2) ((HC4.out.cell (lt_of_cell k3)).trans k3))))
  have HGW : Hid (g < w4.heap.size) := hid (lt_of_cell HL3.out.1)
  obtain ⟨w9, hw9⟩ : ∃ w9, w9 = w4 := ⟨_, rfl⟩
  subst hw9
  clear k0 k1 k2 k3 HC1 HC2 HC3 HC4 HB1 HB2 HB3 HM1 HM2 HM3 HN2 HN3 HO3 HBA
  have HLL : Hid (∀ w1, Below w9.heap.size w9 w1 → w1.cell? ⟨g, 0, none⟩ = some (.slice a0 sn c0) ∧ w1.cell? ⟨g, 1, none⟩ = some (.slice a1 an c1) ∧ w1.cell? ⟨g, 2, none⟩ = some (.slice a2 bn c2) ∧ w1.cell? ⟨g, 3, none⟩ = some (.int .i64 ctx)) := hid (fun w1 h => ⟨(h.cell (p := ⟨g, _, none⟩) HGW.out).trans HL3.out.1, (h.cell (p := ⟨g, _, none⟩) HGW.out).trans HL3.out.2.1, (h.cell (p := ⟨g, _, none⟩) HGW.out).trans HL3.out.2.2.1, (h.cell (p := ⟨g, _, none⟩) HGW.out).trans HL3.out.2.2.2⟩)
  obtain ⟨JN, hJN⟩ : ∃ JN, JN = J.length := ⟨_, rfl⟩
  have HJN := hid hJN
  have hJNl : JN ≤ 8388608 := by rw [hJN]; exact HBZ.out.2
  rw [← hJN] at HJ4 ⊢
  by_cases hK : K = 0
  · have HAI := hid (HAR.out hK)
    have hval := HVN.out hK
    subst hK
    rw [errV_zero]
    clear hJN HNO0 HAR HVN
    obtain ⟨T, hT⟩ : ∃ T, T = Ed.normal s a.length b.length := ⟨_, rfl⟩
    rw [← hT] at HAI
    have hTl := HAI.out.len
    obtain ⟨TN, hTN⟩ : ∃ TN, TN = T.length := ⟨_, rfl⟩
    have HTN := hid hTN
    have HSC : Hid (∀ w1 v1, RdH w1 v1 J → Calls Tryz.prog 22 #[v1, .int .i64 an, .int .i64 bn] w1 fun e w' => ∃ v', e = .returned (.tuple #[v', .nilIface]) ∧ OwnC w' w1.heap.size v' T ∧ Below w1.heap.size w1 w') := hid (fun w1 v1 hr => by
      have := script_ok (n := a.length) (m := b.length) hr (by have := HBZ.out.2; omega) HBZ.out.1 HAI.out.ord (by rw [HAI.out.scr]; omega) (by rw [HAI.out.scr]; exact HAI.out.val)
      rw [HAI.out.scr, HAI.out.nrm] at this
      rw [HAN.out, HBN.out]
      exact this)
    have HNM : Hid (∀ w1 v1, RdC w1 v1 s → Calls Tryz.prog 30 #[v1, .int .i64 an, .int .i64 bn] w1 fun e w' => ∃ v', e = .returned (.tuple #[v', .nilIface]) ∧ OwnC w' w1.heap.size v' T ∧ Below w1.heap.size w1 w') := hid (fun w1 v1 hr => by
      have := normal_all (n := a.length) (m := b.length) hr HWF.out (by omega)
      have hne : nrmA s a.length b.length = T := by unfold nrmA; rw [if_pos hval, hT]
      rw [hval, errV_zero, hne] at this
      rw [HAN.out, HBN.out]
      exact this)
    have HTW := hid (fun w1 (hb : Below w9.heap.size w9 w1) => twins_any (HJ4.out.stays hb).rd (ownH_arg (HJ4.out.stays hb)) (by have := HBZ.out.2; omega) HBZ.out.1)
    have HBX := hid (below_drewN (Below.refl w9.heap.size w9) 1)
    clear hT hTN hTl hval
    obtain ⟨k0, k1, k2, k3⟩ := HL3.out
    go_wp2_with fail
    go_region_held3 (fun w' => w'.cell? ⟨g, 0, none⟩ = some (.slice a0 sn c0) ∧ w'.cell? ⟨g, 1, none⟩ = some (.slice a1 an c1) ∧ w'.cell? ⟨g, 2, none⟩ = some (.slice a2 bn c2) ∧ w'.cell? ⟨g, 3, none⟩ = some (.int .i64 ctx))
      (first
        | go_keep
        | (go_split_ands
           refine ⟨?_, ?_, ?_, ?_⟩ <;> exact (hbk.cell (lt_of_cell (by assumption))).trans (by assumption)))
      (first
        | (go_at_call 22; refine (HSC.out _ _ HT5.out).mono ?_; rintro e w6 ⟨v6, rfl, hO6, hbk⟩; obtain ⟨a6, c6, e6⟩ := own_shape hO6; rw [← HTN.out] at e6; subst e6; have HS6 := hid (own_rd hO6); have HX6 : Hid (Below w9.heap.size w9 w6) := hid (HX5.out.trans (hbk.mono HX5.out.size)); clear hO6)
        | (go_at_call 12; refine (HTW.out _ HBX.out).mono ?_; rintro e w5 ⟨v5, rfl, hO5, hbk⟩; obtain ⟨a5, c5, e5⟩ := hO5.shape; rw [← HJN.out] at e5; subst e5; have HT5 := hid hO5.rd; have HX5 : Hid (Below w9.heap.size w9 w5) := hid (HBX.out.trans (hbk.mono HBX.out.size)); clear hO5))
    clear k0 k1 k2 k3 HT5 HX5
    obtain ⟨k0, k1, k2, k3⟩ := HLL.out _ HX6.out
    have HB6 := hid (HB4.out.trans (HX6.out.mono HB4.out.size))
    have HBY := hid (below_drewN HB6.out 1)
    have HBZ6 := hid (below_drewN (Below.refl w6.heap.size w6) 1)
    go_wp2_with fail
    go_region_held3 (fun w' => w'.cell? ⟨g, 0, none⟩ = some (.slice a0 sn c0) ∧ w'.cell? ⟨g, 1, none⟩ = some (.slice a1 an c1) ∧ w'.cell? ⟨g, 2, none⟩ = some (.slice a2 bn c2) ∧ w'.cell? ⟨g, 3, none⟩ = some (.int .i64 ctx))
      (first
        | go_keep
        | (go_split_ands
           refine ⟨?_, ?_, ?_, ?_⟩ <;> exact (hbk.cell (lt_of_cell (by assumption))).trans (by assumption)))
      (first
        | (go_at_call 30; refine (HNM.out _ _ HT7.out).mono ?_; rintro e w8 ⟨v8, rfl, hO8, hbk⟩; obtain ⟨a8, c8, e8⟩ := own_shape hO8; rw [← HTN.out] at e8; subst e8; have HS8 := hid (own_rd hO8); have HX8 : Hid (Below w6.heap.size w6 w8) := hid (HX7.out.trans (hbk.mono HX7.out.size)); clear hO8)
        | (go_at_call 17; refine (HT1.out _ HBY.out).mono ?_; rintro e w7 ⟨v7, rfl, hO7, hbk⟩; obtain ⟨a7, c7, e7⟩ := own_shape hO7; rw [← HSN.out] at e7; subst e7; have HT7 := hid (own_rd hO7); have HX7 : Hid (Below w6.heap.size w6 w7) := hid (HBZ6.out.trans (hbk.mono HBZ6.out.size)); clear hO7))
    clear k0 k1 k2 k3 HT7 HX7 HBX HBY HBZ6
    have HU8 := hid (HS6.out.below HX8.out)
    have HX9 := hid (HX6.out.trans (HX8.out.mono HX6.out.size))
    have zT : ((TN : Int) == (TN : Int)) = true := zeq rfl
    have HOD := hid (fun w1 (hb : Below w9.heap.size w9 w1) => order_any (HJ4.out.stays hb).rd (by have := HBZ.out.2; omega) HBZ.out.1)
    rw [HAI.out.ord, errV_zero] at HOD
    go_wp2_with fail
    refine (HOD.out _ HX9.out).mono ?_
    rintro e w10 ⟨rfl, hb10⟩
    have HX10 := hid (HX9.out.trans (hb10.mono HX9.out.size))
    have HU10 := hid (HU8.out.below hb10)
    have HV10 := hid (HS8.out.below hb10)
    clear hb10 HU8 HS8 HS6 HX8 HX9 HX6 HOD HSC HNM HTW
    have hTNl : TN ≤ 8388608 := by rw [HTN.out]; exact HAI.out.len
    go_wp2_with fail
    go_loopw [9] (fun ii wr => ∃ (k : Nat), k ≤ TN ∧ ii = .int .i64 k ∧ Hid (Below w10.heap.size w10 wr)) (fun ii _ => TN - (intOf ii).toNat)
    case atStart => exact ⟨0, Nat.zero_le _, rfl, Below.refl _ _⟩
    case round =>
      obtain ⟨k, hk, rfl, HB⟩ := hrel
      by_cases hlt : k < TN
      · obtain ⟨x, hx⟩ : ∃ x, T[k]? = some x := ⟨_, List.getElem?_eq_getElem (by have := HTN.out; omega)⟩
        obtain ⟨b1, o1, e1, hb1, d0, d1, d2, d3⟩ := rdC_at (HU10.out.below HB.out) hx
        obtain ⟨b2, o2, e2, hb2, g0, g1, g2, g3⟩ := rdC_at (HV10.out.below HB.out) hx
        subst e1
        subst e2
        have i1 : (0 : Int) ≤ (k : Int) := by omega
        have i2 : (k : Int) < (TN : Int) := by omega
        clear hx hb1 hb2
        go_wp2_with fail
        go_quiet (fail)
        go_wp2_with fail
        go_roundw
        case rel => exact ⟨k + 1, by omega, by go_num, hid (below_drewN HB.out _)⟩
        case measure => simp [intOf]; omega
      · obtain rfl : k = TN := by omega
        have HX11 := hid (HX10.out.trans (HB.out.mono HX10.out.size))
        obtain ⟨w11, hw11⟩ : ∃ w11, w11 = wr := ⟨_, rfl⟩
        subst hw11
        clear HB HU10 HV10 HX10
        go_wp2_with fail
        go_loopw [10] (fun ii wr => ∃ (i : Nat), i ≤ JN ∧ ii = .int .i64 i ∧ Hid (Below w11.heap.size w11 wr)) (fun ii _ => JN - (intOf ii).toNat)
        case atStart => exact ⟨0, Nat.zero_le _, rfl, Below.refl _ _⟩
        case round =>
          obtain ⟨i, hi, rfl, HB⟩ := hrel
          obtain ⟨w12, hw12⟩ : ∃ w12, w12 = wr := ⟨_, rfl⟩
          subst hw12
          have HX12 := hid (HX11.out.trans (HB.out.mono HX11.out.size))
          by_cases hlt : i < JN
          · obtain ⟨x, hx⟩ : ∃ x, J[i]? = some x := ⟨_, List.getElem?_eq_getElem (by have := HJN.out; omega)⟩
            have hmem := List.mem_of_getElem? hx
            have hBh := HAI.out.each x hmem
            have HSX := hid (HBZ.out.1 x hmem)
            obtain ⟨b1, o1, u, e1, hb1, d0, d1, d2, d3, d4, d5, hu⟩ := rdH_at (HJ4.out.stays HX12.out).rd hx
            subst e1
            have HSD := hid (sides_any (h := x) hu HSX.out.1)
            obtain ⟨xa, xn, xb, xm, xh, xr⟩ := x
            obtain ⟨y1, y2, y3, y4, y5, y6⟩ := hBh
            dsimp only at d0 d1 d2 d3 d4 d5 hu HSD y1 y2 y3 y4 y5 y6
            obtain ⟨ua, uc, rfl⟩ := hu.shape
            unfold HkV at HSD
            dsimp only at HSD
            have HCL := hid (fun w1 (h : Below w12.heap.size w12 w1) => And.intro ((h.cell (p := ⟨b1, _, none⟩) hb1).trans d0) (And.intro ((h.cell (p := ⟨b1, _, none⟩) hb1).trans d1) ((h.cell (p := ⟨b1, _, none⟩) hb1).trans d5)))
            obtain ⟨PN, hPN⟩ := Int.eq_ofNat_of_zero_le y3
            have hol : (Hu.olds xr).length = ((xn).toNat) := by omega
            have HE1 : Hid (Hu.olds xr = (a.drop PN).take (Hu.olds xr).length) := hid (by
              conv => lhs; rw [y5, hPN]
              unfold Hu.sl
              rw [hol]
              congr 1
              omega)
            have hPl : PN + (Hu.olds xr).length ≤ a.length := by omega
            have HAT := hid (fun w1 v1 (hr : RdT w1 v1 (Hu.olds xr)) (hb : Below w9.heap.size w9 w1) => at_yes (P := PN) hr ((HAn.out.below HB4.out).below hb) hPl HE1.out hla)
            have HRU := hid hu
            have HY6 := hid y6
            have HZR := hid HSX.out.1
            obtain ⟨RN, hRN⟩ : ∃ RN, RN = xr.length := ⟨_, rfl⟩
            have HRN := hid hRN
            have hRNl : RN < 5864062014800 := by rw [hRN]; exact HSX.out.1
            rw [← hRN] at HSD d5 HCL
            have i1 : (0 : Int) ≤ (i : Int) := by omega
            have i2 : (i : Int) < (JN : Int) := by omega
            have hplc : (0 < xn ∧ IntKind.i64.wrap (xa - 1) = (PN : Int)) ∨ (¬ 0 < xn ∧ xa = (PN : Int)) := by
              unfold Hu.plc at hPN
              split at hPN
              · next h => exact .inl ⟨h, (wrapOk (by omega) (by omega)).trans hPN⟩
              · next h => exact .inr ⟨h, hPN⟩
            generalize Hu.olds xr = OL at HSD HAT
            clear hx hb1 hu hmem y1 y2 y3 y4 y5 y6 hPN hol hPl HE1 hRN
            rcases hplc with ⟨hp1, hp2⟩ | ⟨hp1, hp2⟩
            · go_wp2_with fail
              refine HSD.out.mono ?_
              rintro e w13 ⟨v1, v2, rfl, hT13, hb13⟩
              have HR13 := hid (own_rd hT13.1)
              obtain ⟨p1, p2, p3⟩ := own_shape hT13.1
              obtain ⟨q1, q2, q3⟩ := own_shape hT13.2.1
              subst p3
              subst q3
              have HX13 := hid (HX12.out.trans (hb13.mono HX12.out.size))
              have HB13 := hid hb13
              clear hT13 hb13 d0 d1 d2 d3 d4 d5
              obtain ⟨d0, d1, d5⟩ := HCL.out _ HB13.out
              obtain ⟨k0, k1, k2, k3⟩ := HLL.out _ HX13.out
              generalize (Hu.fres xr).length = FLN
              go_wp2_with fail
              refine (HAT.out _ _ HR13.out HX13.out).mono ?_
              rintro e w14 ⟨rfl, hb14⟩
              have HB14 := hid (HB13.out.trans (hb14.mono HB13.out.size))
              have HX14 := hid (HX12.out.trans (HB14.out.mono HX12.out.size))
              have HO14 := hid (HB.out.trans (HB14.out.mono HB.out.size))
              clear hb14 d0 d1 d5 k0 k1 k2 k3 HB13 HX13 HR13 HAT HSD hp1 hp2
              go_wp2_with fail
              go_loopw [14] (fun ii wr => ∃ (r : Nat), r ≤ RN ∧ ii = .int .i64 r ∧ Hid (Below w14.heap.size w14 wr)) (fun ii _ => RN - (intOf ii).toNat)
              case atStart => exact ⟨0, Nat.zero_le _, rfl, Below.refl _ _⟩
              case round =>
                obtain ⟨r, hr, rfl, HBr⟩ := hrel
                have HBr2 := hid (HB14.out.trans (HBr.out.mono HB14.out.size))
                have HXr := hid (HX14.out.trans (HBr.out.mono HX14.out.size))
                obtain ⟨d0, d1, d5⟩ := HCL.out _ HBr2.out
                obtain ⟨k0, k1, k2, k3⟩ := HLL.out _ HXr.out
                by_cases hlr : r < RN
                · obtain ⟨z, hz⟩ : ∃ z, xr[r]? = some z := ⟨_, List.getElem?_eq_getElem (by have := HRN.out; omega)⟩
                  obtain ⟨b3, o3, e3, hb3, f0, _⟩ := rdW_at (HRU.out.below HBr2.out) hz
                  subst e3
                  have HZK := hid (fun h => HY6.out h z (List.mem_of_getElem? hz))
                  have i3 : (0 : Int) ≤ (r : Int) := by omega
                  have i4 : (r : Int) < (RN : Int) := by omega
                  clear hz hb3
                  by_cases hc0 : ctx = 0
                  · have z1 : (ctx == 0) = true := by rw [hc0]; rfl
                    have z2 : (z.k == 1) = false := beq_eq_false_iff_ne.2 (HZK.out hc0)
                    clear hc0
                    go_wp2_with fail
                    go_roundw
                    case rel => exact ⟨r + 1, by omega, by go_num, HBr⟩
                    case measure => simp [intOf]; omega
                  · have z1 : (ctx == 0) = false := beq_eq_false_iff_ne.2 hc0
                    clear hc0
                    go_wp2_with fail
                    go_roundw
                    case rel => exact ⟨r + 1, by omega, by go_num, HBr⟩
                    case measure => simp [intOf]; omega
                · obtain rfl : r = RN := by omega
                  have HOr := hid (HO14.out.trans (HBr.out.mono HO14.out.size))
                  go_wp2_with fail
                  go_roundw
                  case rel => exact ⟨i + 1, by omega, by go_num, HOr⟩
                  case measure => simp [intOf]; omega
            · subst hp2
              go_wp2_with fail
              refine HSD.out.mono ?_
              rintro e w13 ⟨v1, v2, rfl, hT13, hb13⟩
              have HR13 := hid (own_rd hT13.1)
              obtain ⟨p1, p2, p3⟩ := own_shape hT13.1
              obtain ⟨q1, q2, q3⟩ := own_shape hT13.2.1
              subst p3
              subst q3
              have HX13 := hid (HX12.out.trans (hb13.mono HX12.out.size))
              have HB13 := hid hb13
              clear hT13 hb13 d0 d1 d2 d3 d4 d5
              obtain ⟨d0, d1, d5⟩ := HCL.out _ HB13.out
              obtain ⟨k0, k1, k2, k3⟩ := HLL.out _ HX13.out
              generalize (Hu.fres xr).length = FLN
              go_wp2_with fail
              refine (HAT.out _ _ HR13.out HX13.out).mono ?_
              rintro e w14 ⟨rfl, hb14⟩
              have HB14 := hid (HB13.out.trans (hb14.mono HB13.out.size))
              have HX14 := hid (HX12.out.trans (HB14.out.mono HX12.out.size))
              have HO14 := hid (HB.out.trans (HB14.out.mono HB.out.size))
              clear hb14 d0 d1 d5 k0 k1 k2 k3 HB13 HX13 HR13 HAT HSD hp1
              go_wp2_with fail
              go_loopw [14] (fun ii wr => ∃ (r : Nat), r ≤ RN ∧ ii = .int .i64 r ∧ Hid (Below w14.heap.size w14 wr)) (fun ii _ => RN - (intOf ii).toNat)
              case atStart => exact ⟨0, Nat.zero_le _, rfl, Below.refl _ _⟩
              case round =>
                obtain ⟨r, hr, rfl, HBr⟩ := hrel
                have HBr2 := hid (HB14.out.trans (HBr.out.mono HB14.out.size))
                have HXr := hid (HX14.out.trans (HBr.out.mono HX14.out.size))
                obtain ⟨d0, d1, d5⟩ := HCL.out _ HBr2.out
                obtain ⟨k0, k1, k2, k3⟩ := HLL.out _ HXr.out
                by_cases hlr : r < RN
                · obtain ⟨z, hz⟩ : ∃ z, xr[r]? = some z := ⟨_, List.getElem?_eq_getElem (by have := HRN.out; omega)⟩
                  obtain ⟨b3, o3, e3, hb3, f0, _⟩ := rdW_at (HRU.out.below HBr2.out) hz
                  subst e3
                  have HZK := hid (fun h => HY6.out h z (List.mem_of_getElem? hz))
                  have i3 : (0 : Int) ≤ (r : Int) := by omega
                  have i4 : (r : Int) < (RN : Int) := by omega
                  clear hz hb3
                  by_cases hc0 : ctx = 0
                  · have z1 : (ctx == 0) = true := by rw [hc0]; rfl
                    have z2 : (z.k == 1) = false := beq_eq_false_iff_ne.2 (HZK.out hc0)
                    clear hc0
                    go_wp2_with fail
                    go_roundw
                    case rel => exact ⟨r + 1, by omega, by go_num, HBr⟩
                    case measure => simp [intOf]; omega
                  · have z1 : (ctx == 0) = false := beq_eq_false_iff_ne.2 hc0
                    clear hc0
                    go_wp2_with fail
                    go_roundw
                    case rel => exact ⟨r + 1, by omega, by go_num, HBr⟩
                    case measure => simp [intOf]; omega
                · obtain rfl : r = RN := by omega
                  have HOr := hid (HO14.out.trans (HBr.out.mono HO14.out.size))
                  go_wp2_with fail
                  go_roundw
                  case rel => exact ⟨i + 1, by omega, by go_num, HOr⟩
                  case measure => simp [intOf]; omega
          · obtain rfl : i = JN := by omega
            obtain ⟨k0, k1, k2, k3⟩ := HLL.out _ HX12.out
            have HB12 := hid (HB4.out.trans (HX12.out.mono HB4.out.size))
            have htwo : (i : Int) < 2 ∨ ctx < (an : Int) := by
              rcases HAI.out.two with h | h
              · exact .inl (by have := HJN.out; omega)
              · exact .inr (by have := HAN.out; omega)
            by_cases hca : ctx < (an : Int)
            · clear htwo
              go_wp2_with fail
              refine (works_any _ (HG.out.below HB12.out)).mono ?_
              rintro e w7 ⟨rfl, hb7⟩
              have HB7 := hid (HB12.out.trans (hb7.mono HB12.out.size))
              clear hb7
              go_wp2_with fail
              go_ret
              exact ⟨rfl, HB7.out⟩
            · have h2 : (i : Int) < 2 := by omega
              clear htwo
              go_wp2_with fail
              refine (works_any _ (HG.out.below HB12.out)).mono ?_
              rintro e w7 ⟨rfl, hb7⟩
              have HB7 := hid (HB12.out.trans (hb7.mono HB12.out.size))
              clear hb7
              go_wp2_with fail
              go_ret
              exact ⟨rfl, HB7.out⟩
  · have hJ0 : JN = 0 := by rw [hJN, HNO0.out hK]; rfl
    rw [errV_pos hK, hJ0]
    clear hJN hJ0 HNO0 HAR HVN HJ4 HJN hJNl
    go_wp2_with fail
    refine (works_any _ (HG.out.below HB4.out)).mono ?_
    rintro e w7 ⟨rfl, hb7⟩
    have HB7 := hid (HB4.out.trans (hb7.mono HB4.out.size))
    clear hb7
    go_wp2_with fail
    go_ret
    exact ⟨rfl, HB7.out⟩
end Go.Proofs.YtkobglnmigakeaaGreatDoor
