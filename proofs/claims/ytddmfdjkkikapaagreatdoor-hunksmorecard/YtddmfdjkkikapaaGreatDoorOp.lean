/-
  The walk of the law HunksMore (made by wip/genop.py).
-/
import Derived.Test.YtddmfdjkkikapaaGreatDoorOq
import Derived.Test.YtddmfdjkkikapaaGreatDoorGrUa
import Derived.Test.YtddmfdjkkikapaaGreatDoorGrMk
import Derived.Test.YtddmfdjkkikapaaGreatDoorGrUc
import Derived.Test.YtddmfdjkkikapaaGreatDoorLd
import Derived.Test.YtddmfdjkkikapaaGreatDoorGrKt
import Derived.Test.YtddmfdjkkikapaaGreatDoorGrJw
import Derived.Test.YtddmfdjkkikapaaGreatDoorGrKf
import Derived.Deep.DeepCutAuto
import Derived.Deep.Cut
import Derived.Deep.CutRange
namespace Go.Proofs.YtddmfdjkkikapaaGreatDoor
open Go.RowKit
open Hu (Rw Hk)
open Ed (Ch)

set_option maxHeartbeats 16000000 in
set_option maxRecDepth 100000 in
theorem hunksMore_walk (v0 : Value) (s : List Ch) (v1 : Value) (a : List ByteArray) (v2 : Value) (b : List ByteArray) (ctx more at' : Int) (w : World) (hr : RdC w v0 s) (hwf : ∀ c ∈ s, WfC c) (hl : s.length ≤ 4398046510976) (hsh : ArgS v0)
    (ha : RdT w v1 a) (hsa : ∀ c ∈ a, SzS c) (hla : a.length ≤ 8796093021952) (hsA : ArgS v1) (hb : RdT w v2 b) (hsb : ∀ c ∈ b, SzS c) (hlb : b.length ≤ 8796093021952) (hsB : ArgS v2) (hg : ErrVar w) :
    Calls Tryz.prog 5 #[.agg #[v0, v1, v2, .int .i64 ctx], .int .i64 more, .int .i64 at'] w fun e w' => e = .returned (.bool true) ∧ Below w.heap.size w w' := by
  have hsa : ∀ x ∈ a, x.size ≤ maxLen := hsa
  have hsb : ∀ x ∈ b, x.size ≤ maxLen := hsb
  have HR := hid hr
  have HA := hid ha
  have HBb := hid hb
  have HG := hid hg
  have HWF := hid hwf
  have HSA := hid hsa
  have HSB := hid hsb
  have HSH := hid hsh
  have HSHA := hid hsA
  have HSHB := hid hsB
  obtain ⟨a0, c0, rfl⟩ := hr.shape
  obtain ⟨a1, c1, rfl⟩ := ha.shape
  obtain ⟨a2, c2, rfl⟩ := hb.shape
  obtain ⟨c, kc⟩ : ∃ c : Int, max ctx (min more 1000) = c := ⟨_, rfl⟩
  have hcm : ctx ≤ c := by omega
  have hcM : ctx ≤ 2147483647 → c ≤ 2147483647 := by omega
  have HBZ1 := hid (bldA_sz (s := s) (ctx := ctx) hsa hsb)
  have HBZ2 := hid (bldA_sz (s := s) (ctx := c) hsa hsb)
  clear hr hwf hg hsh ha hsa hsA hb hsb hsB
  have HT1 := hid (fun w1 (hb : Below w.heap.size w w1) => changes_any (HR.out.below hb) HSH.out hl)
  have HT2 := hid (fun w1 (hb : Below w.heap.size w w1) => texts_any (HA.out.below hb) HSHA.out (by omega))
  have HT3 := hid (fun w1 (hb : Below w.heap.size w w1) => texts_any (HBb.out.below hb) HSHB.out (by omega))
  have HJ1 := hid (fun w1 v1 v2 v3 (h1 : RdC w1 v1 s) (h2 : RdT w1 v2 a) (h3 : RdT w1 v3 b) => build_any (ctx := ctx) h1 HWF.out (by omega) h2 h3 (by omega) (by omega) HSA.out HSB.out)
  have HJ2 := hid (fun w1 v1 v2 v3 (h1 : RdC w1 v1 s) (h2 : RdT w1 v2 a) (h3 : RdT w1 v3 b) => build_any (ctx := c) h1 HWF.out (by omega) h2 h3 (by omega) (by omega) HSA.out HSB.out)
  have HW0 : Hid (bldN s a b ctx = 0 → ∀ x ∈ bldA s a b ctx, wideN x a c = 0 → wideA x a c = Hu.wideH x a c ∧ narN (wideA x a c) ctx = 0 ∧ narA (wideA x a c) ctx = [x]) := hid (fun h x hx hw => by
    have := wide_narrow h hcm (hcM (bldN_zero h).1.2) x hx hw
    have e : wideA x a c = Hu.wideH x a c := by unfold wideA; rw [if_pos hw]
    exact ⟨e, by rw [e]; exact this⟩)
  have HW1 : Hid (bldN s a b ctx = 0 → bldN s a b c = 0 → ∀ x, bldA s a b ctx = [x] → wideN x a c = 0 ∧ bldA s a b c = [wideA x a c]) := hid (fun h h2 x hx => by
    have := wide_one h h2 hcm hx
    exact ⟨this.1, by unfold wideA; rw [if_pos this.1]; exact this.2⟩)
  have HS1 : Hid (bldN s a b ctx = 0 → ∀ x, bldA s a b ctx = [x] → splN x at' = 0 → Hu.scrN (splA x at') a.length b.length = 0 ∧ Hu.scrA (splA x at') a.length b.length = Hu.scrA (bldA s a b ctx) a.length b.length ∧ Hu.scrN (bldA s a b ctx) a.length b.length = 0) := hid (fun h x hx hk => by
    have := split_script h hx hk
    rw [hx]
    exact this)
  clear hcm hcM
  generalize bldN s a b ctx = K1 at HJ1 HW0 HW1 HS1
  generalize bldA s a b ctx = J1 at HJ1 HBZ1 HW0 HW1 HS1
  generalize bldN s a b c = K2 at HJ2 HW1
  generalize bldA s a b c = J2 at HJ2 HBZ2 HW1
  have hbA : Below w.heap.size w (w.alloc (.cells #[.slice a0 s.length c0, .slice a1 a.length c1, .slice a2 b.length c2, .int .i64 ctx] 25)) := (Below.refl _ _).alloc (Nat.le_refl _) _
  have hgA := heap_alloc_new w (.cells #[.slice a0 s.length c0, .slice a1 a.length c1, .slice a2 b.length c2, .int .i64 ctx] 25)
  obtain ⟨sn, hsn⟩ : ∃ sn, sn = s.length := ⟨_, rfl⟩
  obtain ⟨an, han⟩ : ∃ an, an = a.length := ⟨_, rfl⟩
  obtain ⟨bn, hbn⟩ : ∃ bn, bn = b.length := ⟨_, rfl⟩
  have HSN := hid hsn
  rw [← hsn, ← han, ← hbn] at hbA hgA ⊢
  rw [← hsn] at HT1
  rw [← han] at HT2
  rw [← hbn] at HT3
  have HAN := hid han
  have HBN := hid hbn
  clear hsn han hbn
  go_enter Tryz.func5, Tryz.ntmps5
  go_wp2_with fail
  generalize (w.alloc (.cells #[.slice a0 sn c0, .slice a1 an c1, .slice a2 bn c2, .int .i64 ctx] 25)) = w0 at hbA hgA ⊢
  have k0 : w0.cell? ⟨w.heap.size, 0, none⟩ = some (.slice a0 sn c0) := cell_of_blk hgA 0
  have k1 : w0.cell? ⟨w.heap.size, 1, none⟩ = some (.slice a1 an c1) := cell_of_blk hgA 1
  have k2 : w0.cell? ⟨w.heap.size, 2, none⟩ = some (.slice a2 bn c2) := cell_of_blk hgA 2
  have k3 : w0.cell? ⟨w.heap.size, 3, none⟩ = some (.int .i64 ctx) := cell_of_blk hgA 3
  have HBA := hid hbA
  obtain ⟨g, hg⟩ : ∃ g, g = w.heap.size := ⟨_, rfl⟩
  rw [← hg] at k0 k1 k2 k3 ⊢
  clear hg hgA hbA
  have HL0 := hid (And.intro k0 (And.intro k1 (And.intro k2 k3)))
  have HGW : Hid (g < w0.heap.size) := hid (lt_of_cell k0)
  have HLL : Hid (∀ w1, Below w0.heap.size w0 w1 → w1.cell? ⟨g, 0, none⟩ = some (.slice a0 sn c0) ∧ w1.cell? ⟨g, 1, none⟩ = some (.slice a1 an c1) ∧ w1.cell? ⟨g, 2, none⟩ = some (.slice a2 bn c2) ∧ w1.cell? ⟨g, 3, none⟩ = some (.int .i64 ctx)) := hid (fun w1 h => ⟨(h.cell (p := ⟨g, _, none⟩) HGW.out).trans HL0.out.1, (h.cell (p := ⟨g, _, none⟩) HGW.out).trans HL0.out.2.1, (h.cell (p := ⟨g, _, none⟩) HGW.out).trans HL0.out.2.2.1, (h.cell (p := ⟨g, _, none⟩) HGW.out).trans HL0.out.2.2.2⟩)
  have HBX1 := hid (below_drewN (Below.refl w0.heap.size w0) 1)
  have HBY1 := hid (below_drewN HBA.out 1)
  go_region_held3 (fun w' => w'.cell? ⟨g, 0, none⟩ = some (.slice a0 sn c0) ∧ w'.cell? ⟨g, 1, none⟩ = some (.slice a1 an c1) ∧ w'.cell? ⟨g, 2, none⟩ = some (.slice a2 bn c2) ∧ w'.cell? ⟨g, 3, none⟩ = some (.int .i64 ctx))
    (first
      | go_keep
      | (go_split_ands
         refine ⟨?_, ?_, ?_, ?_⟩ <;> exact (hbk.cell (lt_of_cell (by assumption))).trans (by assumption)))
    (first
      | (go_at_call 7; refine (HJ1.out _ _ _ _ HM3.out HN3.out HO3.out).mono ?_; rintro e w41 ⟨v4, rfl, hO4, hbk⟩; obtain ⟨a41, c41, e4⟩ := hO4.shape; subst e4; have HJ41 := hid hO4; have HB41 : Hid (Below w.heap.size w w41) := hid (HB3.out.trans (hbk.mono HB3.out.size)); have HC41 : Hid (Below w0.heap.size w0 w41) := hid (HC3.out.trans (hbk.mono HC3.out.size)); clear hO4)
      | (go_at_call 9; have hB2 := HB2.out; refine (HT3.out _ hB2).mono ?_; rintro e w3 ⟨v3, rfl, hO3, hbk⟩; obtain ⟨aj, cj, ej⟩ := own_shape hO3; rw [← HBN.out] at ej; subst ej; have HO3 := hid (own_rd hO3); have HN3 := hid (HN2.out.below hbk); have HM3 := hid (HM2.out.below hbk); have HB3 : Hid (Below w.heap.size w w3) := hid (HB2.out.trans (hbk.mono HB2.out.size)); have HC3 : Hid (Below w0.heap.size w0 w3) := hid (HC2.out.trans (hbk.mono HC2.out.size)); clear hO3 hB2)
      | (go_at_call 9; have hB1 := HB1.out; refine (HT2.out _ hB1).mono ?_; rintro e w2 ⟨v2, rfl, hO2, hbk⟩; obtain ⟨an', cn, en⟩ := own_shape hO2; rw [← HAN.out] at en; subst en; have HN2 := hid (own_rd hO2); have HM2 := hid (HM1.out.below hbk); have HB2 : Hid (Below w.heap.size w w2) := hid (hB1.trans (hbk.mono hB1.size)); have HC2 : Hid (Below w0.heap.size w0 w2) := hid (HC1.out.trans (hbk.mono HC1.out.size)); clear hO2 hB1)
      | (go_at_call 8; refine (HT1.out _ HBY1.out).mono ?_; rintro e w1 ⟨v1, rfl, hO1, hbk⟩; obtain ⟨am, cm, em⟩ := own_shape hO1; rw [← HSN.out] at em; subst em; have HM1 := hid (own_rd hO1); have HB1 : Hid (Below w.heap.size w w1) := hid (HBY1.out.trans (hbk.mono HBY1.out.size)); have HC1 : Hid (Below w0.heap.size w0 w1) := hid (HBX1.out.trans (hbk.mono HBX1.out.size)); clear hO1))
  clear HC1 HC2 HC3 HB1 HB2 HB3 HM1 HM2 HM3 HN2 HN3 HO3 HBX1 HBY1
  clear k0 k1 k2 k3
  obtain ⟨JN, hJN⟩ : ∃ JN, JN = J1.length := ⟨_, rfl⟩
  have HJN := hid hJN
  have hJNl : JN ≤ 8388608 := by rw [hJN]; exact HBZ1.out.2
  rw [← hJN] at HJ41 ⊢
  clear hJN
  obtain ⟨k0, k1, k2, k3⟩ := HLL.out _ HC41.out
  go_wp2_with fail
  have HBX2 := hid (below_drewN (Below.refl w41.heap.size w41) 1)
  have HBY2 := hid (below_drewN HB41.out 1)
  go_region_held3 (fun w' => w'.cell? ⟨g, 0, none⟩ = some (.slice a0 sn c0) ∧ w'.cell? ⟨g, 1, none⟩ = some (.slice a1 an c1) ∧ w'.cell? ⟨g, 2, none⟩ = some (.slice a2 bn c2) ∧ w'.cell? ⟨g, 3, none⟩ = some (.int .i64 ctx))
    (first
      | go_keep
      | (go_split_ands
         refine ⟨?_, ?_, ?_, ?_⟩ <;> exact (hbk.cell (lt_of_cell (by assumption))).trans (by assumption)))
    (first
      | (go_at_call 7; refine (HJ2.out _ _ _ _ HM3.out HN3.out HO3.out).mono ?_; rintro e w42 ⟨v4, rfl, hO4, hbk⟩; obtain ⟨a42, c42, e4⟩ := hO4.shape; subst e4; have HJ42 := hid hO4; have HB42 : Hid (Below w.heap.size w w42) := hid (HB3.out.trans (hbk.mono HB3.out.size)); have HC42 : Hid (Below w41.heap.size w41 w42) := hid (HC3.out.trans (hbk.mono HC3.out.size)); clear hO4)
      | (go_at_call 9; have hB2 := HB2.out; refine (HT3.out _ hB2).mono ?_; rintro e w3 ⟨v3, rfl, hO3, hbk⟩; obtain ⟨aj, cj, ej⟩ := own_shape hO3; rw [← HBN.out] at ej; subst ej; have HO3 := hid (own_rd hO3); have HN3 := hid (HN2.out.below hbk); have HM3 := hid (HM2.out.below hbk); have HB3 : Hid (Below w.heap.size w w3) := hid (HB2.out.trans (hbk.mono HB2.out.size)); have HC3 : Hid (Below w41.heap.size w41 w3) := hid (HC2.out.trans (hbk.mono HC2.out.size)); clear hO3 hB2)
      | (go_at_call 9; have hB1 := HB1.out; refine (HT2.out _ hB1).mono ?_; rintro e w2 ⟨v2, rfl, hO2, hbk⟩; obtain ⟨an', cn, en⟩ := own_shape hO2; rw [← HAN.out] at en; subst en; have HN2 := hid (own_rd hO2); have HM2 := hid (HM1.out.below hbk); have HB2 : Hid (Below w.heap.size w w2) := hid (hB1.trans (hbk.mono hB1.size)); have HC2 : Hid (Below w41.heap.size w41 w2) := hid (HC1.out.trans (hbk.mono HC1.out.size)); clear hO2 hB1)
      | (go_at_call 8; refine (HT1.out _ HBY2.out).mono ?_; rintro e w1 ⟨v1, rfl, hO1, hbk⟩; obtain ⟨am, cm, em⟩ := own_shape hO1; rw [← HSN.out] at em; subst em; have HM1 := hid (own_rd hO1); have HB1 : Hid (Below w.heap.size w w1) := hid (HBY2.out.trans (hbk.mono HBY2.out.size)); have HC1 : Hid (Below w41.heap.size w41 w1) := hid (HBX2.out.trans (hbk.mono HBX2.out.size)); clear hO1))
  clear HC1 HC2 HC3 HB1 HB2 HB3 HM1 HM2 HM3 HN2 HN3 HO3 HBX2 HBY2
  clear k0 k1 k2 k3
  have HX5 := hid (HC41.out.trans (HC42.out.mono HC41.out.size))
  have HJ51 := hid (HJ41.out.stays HC42.out)
  obtain ⟨MN, hMN⟩ : ∃ MN, MN = J2.length := ⟨_, rfl⟩
  have HMN := hid hMN
  have hMNl : MN ≤ 8388608 := by rw [hMN]; exact HBZ2.out.2
  rw [← hMN] at HJ42 ⊢
  clear hMN kc
  obtain ⟨w5, hw5⟩ : ∃ w5, w5 = w42 := ⟨_, rfl⟩
  subst hw5
  by_cases hK : K1 = 0 ∧ K2 = 0
  · obtain ⟨hK1, hK2⟩ := hK
    have HW0' := hid (HW0.out hK1)
    have HW1' := hid (HW1.out hK1 hK2)
    have HS1' := hid (HS1.out hK1)
    subst hK1
    subst hK2
    rw [errV_zero]
    clear HW0 HW1 HS1 HJ1 HJ2
    go_wp2_with fail
    go_loopw [11] (fun ii wr => ∃ (k : Nat), k ≤ JN ∧ ii = .int .i64 k ∧ Hid (Below w5.heap.size w5 wr)) (fun ii _ => JN - (intOf ii).toNat)
    case atStart => exact ⟨0, Nat.zero_le _, rfl, Below.refl _ _⟩
    case round =>
      obtain ⟨k, hk, rfl, HB⟩ := hrel
      have HXW := hid (HX5.out.trans (HB.out.mono HX5.out.size))
      have HBW := hid (HB42.out.trans (HB.out.mono HB42.out.size))
      by_cases hlt : k < JN
      · obtain ⟨x, hx⟩ : ∃ x, J1[k]? = some x := ⟨_, List.getElem?_eq_getElem (by have := HJN.out; omega)⟩
        have hmem := List.mem_of_getElem? hx
        have HSX := hid (HBZ1.out.1 x hmem)
        have HFW := hid (HW0'.out x hmem)
        have HF1 : Hid (JN = 1 → J1 = [x]) := hid (fun e => by
          have h1 := HJN.out
          rw [e] at h1
          obtain ⟨y, hy⟩ := List.length_eq_one_iff.1 h1.symm
          obtain rfl : k = 0 := by omega
          rw [hy] at hx ⊢
          simpa using hx)
        have HFX : Hid (JN = 1 → wideN x a c = 0 ∧ J2 = [wideA x a c]) := hid (fun e => HW1'.out x (HF1.out e))
        have HFS : Hid (JN = 1 → splN x at' = 0 → Hu.scrN (splA x at') a.length b.length = 0 ∧ Hu.scrA (splA x at') a.length b.length = Hu.scrA J1 a.length b.length ∧ Hu.scrN J1 a.length b.length = 0) := hid (fun e => HS1'.out x (HF1.out e))
        have HSR := hid (fun (h : splN x at' = 0) => split_rows h)
        have HTW := hid (fun w1 (h1 : Below w5.heap.size w5 w1) => twins_any (HJ51.out.stays h1).rd (ownH_arg (HJ51.out.stays h1)) (by have := HBZ1.out.2; omega) HBZ1.out.1)
        have HWA := hid (fun w1 v1 (hr : RdW w1 v1 x.rows) (hb : Below w.heap.size w w1) => wide_any (ctx := c) (h := x) hr (HA.out.below hb) HSX.out (by omega) HSA.out)
        have HWZ := hid (wideA_sz (ctx := c) HSX.out HSA.out)
        have HSPL := hid (fun w1 v1 (hr : RdW w1 v1 x.rows) => split_any (k := at') (h := x) hr HSX.out)
        have HSZ2 := hid (splA_sz (k := at') HSX.out)
        have HSL2 := hid (splA_len x at')
        generalize wideN x a c = KW at HWA HFW HFX
        generalize wideA x a c = W at HWA HFW HFX HWZ
        generalize splN x at' = KS at HSPL HFS HSR
        generalize splA x at' = Y at HSPL HFS HSR HSZ2 HSL2
        have HNA := hid (fun w1 v1 (hr : RdW w1 v1 W.rows) => narrow_any (ctx := ctx) (h := W) hr HWZ.out)
        have HSM := hid (fun w1 v1 v2 (h1 : RdW w1 v1 x.rows) (h2 : RdW w1 v2 x.rows) => same_yes (h := x) h1 h2 HSX.out.1)
        have HSW := hid (fun w1 v1 v2 (h1 : RdW w1 v1 W.rows) (h2 : RdW w1 v2 W.rows) => same_yes (h := W) h1 h2 HWZ.out.1)
        have HSC2 := hid (fun w1 v1 (hr : RdH w1 v1 Y) => script_any (n := a.length) (m := b.length) hr HSL2.out HSZ2.out)
        have HSC1 := hid (fun w1 v1 (hr : RdH w1 v1 J1) => script_any (n := a.length) (m := b.length) hr (by have := HBZ1.out.2; omega) HBZ1.out.1)
        generalize Hu.scrN Y a.length b.length = K3 at HSC2 HFS
        generalize Hu.scrA Y a.length b.length = S2 at HSC2 HFS
        generalize Hu.scrN J1 a.length b.length = K4 at HSC1 HFS
        generalize Hu.scrA J1 a.length b.length = S1 at HSC1 HFS
        rw [← HAN.out, ← HBN.out] at HSC1 HSC2
        rw [← HAN.out] at HWA
        obtain ⟨b1, o1, u, e1, hb1, d0, d1, d2, d3, d4, d5, hu⟩ := rdH_at (HJ51.out.stays HB.out).rd hx
        subst e1
        obtain ⟨xa, xn, xb, xm, xh, xr⟩ := x
        obtain ⟨pa, pn, pb, pm, ph, pr⟩ := W
        dsimp only at d0 d1 d2 d3 d4 d5 hu HNA HSM HSW HWA HSPL HSR
        obtain ⟨ua, uc, rfl⟩ := hu.shape
        unfold HkV at HNA HSM HSW HWA HSPL
        dsimp only at HNA HSM HSW HWA HSPL
        obtain ⟨N, hN⟩ : ∃ N, N = xr.length := ⟨_, rfl⟩
        obtain ⟨M, hM⟩ : ∃ M, M = pr.length := ⟨_, rfl⟩
        have HNX := hid hN
        have HMX := hid hM
        rw [← hN] at d5
        have HRU : Hid (RdW wr (.slice ua N uc) xr) := hid (by rw [hN]; exact hu)
        have HCL := hid (fun w1 (h : Below wr.heap.size wr w1) => And.intro ((h.cell (p := ⟨b1, _, none⟩) hb1).trans d0) (And.intro ((h.cell (p := ⟨b1, _, none⟩) hb1).trans d1) (And.intro ((h.cell (p := ⟨b1, _, none⟩) hb1).trans d2) (And.intro ((h.cell (p := ⟨b1, _, none⟩) hb1).trans d3) (And.intro ((h.cell (p := ⟨b1, _, none⟩) hb1).trans d4) ((h.cell (p := ⟨b1, _, none⟩) hb1).trans d5))))))
        have HKX : Hid (J1[k]? = some ⟨xa, xn, xb, xm, xh, xr⟩) := hid hx
        have i1 : (0 : Int) ≤ (k : Int) := by omega
        have i2 : (k : Int) < (JN : Int) := by omega
        obtain ⟨k0, k1, k2, k3⟩ := HLL.out _ HXW.out
        clear hx hmem hN hM hu hb1 d0 d1 d2 d3 d4 d5 k0 k2 k3 HW0' HW1' HS1'
        go_upto_region 9 with fail
        go_cut [12, 13] (fun p13 e13 wc => ∃ (G : Nat) (a4 : Option Addr) (c4 : Nat), p13 = .pointer (some ⟨G, 0, none⟩) ∧ e13 = errV KW ∧ Hid (Below wr.heap.size wr wc) ∧ Hid (wc.heap[G]? = some (.cells #[.int .i64 pa, .int .i64 pn, .int .i64 pb, .int .i64 pm, .string ph, .slice a4 M c4] 37)) ∧ Hid (RdW wc (.slice a4 M c4) pr) ∧ Hid (wr.heap.size ≤ G))
        case first =>
          refine region9 (fun w1 h => HTW.out w1 (HB.out.trans (h.mono HB.out.size))) (fun w1 v1 hr hb => HWA.out w1 v1 hr (HBW.out.trans (hb.mono HBW.out.size))) HKX.out HJN.out HNX.out HMX.out k1 i1 i2 ?_
          intro x69 x70 x71 x72 x73 x74 x75 x76 x77 x78 x79 x80 G a4 c4 wc hc1 hc2 hc3 hc4
          have H1 := hid hc1
          have H2 := hid hc2
          have H3 := hid hc3
          have H4 := hid hc4
          clear hc1 hc2 hc3 hc4
          go_wp2_with fail
          go_meet
          case rel => exact ⟨G, a4, c4, rfl, rfl, H1, H2, H3, H4⟩
        case rest =>
          obtain ⟨G, a4, c4, rfl, rfl, HC, HG4, HX4, HLG⟩ := hcut
          by_cases hKW : KW = 0
          · obtain ⟨_, n1, n2⟩ := HFW.out hKW
            rw [n1, n2, errV_zero] at HNA
            subst hKW
            rw [errV_zero]
            clear HFW n1 n2
            have p0 := cell_of_blk HG4.out 0
            have p1 := cell_of_blk HG4.out 1
            have p2 := cell_of_blk HG4.out 2
            have p3 := cell_of_blk HG4.out 3
            have p4 := cell_of_blk HG4.out 4
            have p5 := cell_of_blk HG4.out 5
            obtain ⟨k0, k1, k2, k3⟩ := HLL.out _ (HXW.out.trans (HC.out.mono HXW.out.size))
            go_wp2_with fail
            refine (HNA.out _ _ HX4.out).mono ?_
            rintro e w6 ⟨v6, rfl, hO6, hb6⟩
            clear p0 p1 p2 p3 p4 p5 k0 k1 k2 k3
            obtain ⟨b3, o3, u3, n3, cp3, e3', hn3, hb3, g0, g1, g2, g3, g4, g5, hu3⟩ := rdH_at6 (k := 0) (x := ⟨xa, xn, xb, xm, xh, xr⟩) hO6.rd rfl
            obtain rfl : n3 = 1 := hn3
            subst e3'
            dsimp only at g0 g1 g2 g3 g4 g5 hu3
            rw [Nat.zero_mul, Nat.add_zero] at g0 g1 g2 g3 g4 g5
            obtain ⟨ta, tc, e9⟩ := hu3.shape
            rw [← HNX.out] at e9
            subst e9
            have HRT : Hid (RdW w6 (.slice ta N tc) xr) := hid hu3
            have HB6 := hid hb6
            have HB67 : Hid (Below wr.heap.size wr w6) := hid (HC.out.trans (hb6.mono HC.out.size))
            clear hO6 hb6 hu3
            by_cases hJ : JN = 1
            · have HJ1 := hid hJ
              have zJ : ((JN : Int) == 1) = true := zeq (by omega)
              clear hJ
              obtain ⟨_, hJ2⟩ := HFX.out HJ1.out
              obtain ⟨b5, o5, u5, n5, cp5, e5', hn5, hb5, m0, m1, m2, m3, m4, m5, hu5⟩ := rdH_at6 (k := 0) (x := ⟨pa, pn, pb, pm, ph, pr⟩) ((HJ42.out.stays HB.out).stays HB67.out).rd (by rw [hJ2]; rfl)
              have hMN1 : MN = 1 := by rw [HMN.out, hJ2]; rfl
              subst hMN1
              obtain ⟨e5a, e5b, e5c⟩ : a42 = some ⟨b5, o5, none⟩ ∧ n5 = 1 ∧ cp5 = c42 := by
                simp only [Value.slice.injEq] at e5'
                exact ⟨e5'.1, e5'.2.1.symm, e5'.2.2.symm⟩
              subst e5a
              subst e5b
              subst e5c
              dsimp only at m0 m1 m2 m3 m4 m5 hu5
              rw [Nat.zero_mul, Nat.add_zero] at m0 m1 m2 m3 m4 m5
              obtain ⟨ma, mc, e9⟩ := hu5.shape
              rw [← HMX.out] at e9
              subst e9
              have HRM : Hid (RdW w6 (.slice ma M mc) pr) := hid hu5
              have HGW := hid ((HB6.out.block G (lt_of_heap HG4.out)).trans HG4.out)
              have HCQ : Hid (∀ w1, Below w6.heap.size w6 w1 → (w1.cell? ⟨b3, o3, none⟩ = some (.int .i64 xa) ∧ w1.cell? ⟨b3, o3 + 1, none⟩ = some (.int .i64 xn) ∧ w1.cell? ⟨b3, o3 + 2, none⟩ = some (.int .i64 xb) ∧ w1.cell? ⟨b3, o3 + 3, none⟩ = some (.int .i64 xm) ∧ w1.cell? ⟨b3, o3 + 4, none⟩ = some (.string xh) ∧ w1.cell? ⟨b3, o3 + 5, none⟩ = some (.slice ta N tc)) ∧ (w1.cell? ⟨b1, o1 + k * 6, none⟩ = some (.int .i64 xa) ∧ w1.cell? ⟨b1, o1 + k * 6 + 1, none⟩ = some (.int .i64 xn) ∧ w1.cell? ⟨b1, o1 + k * 6 + 2, none⟩ = some (.int .i64 xb) ∧ w1.cell? ⟨b1, o1 + k * 6 + 3, none⟩ = some (.int .i64 xm) ∧ w1.cell? ⟨b1, o1 + k * 6 + 4, none⟩ = some (.string xh) ∧ w1.cell? ⟨b1, o1 + k * 6 + 5, none⟩ = some (.slice ua N uc)) ∧ (w1.cell? ⟨G, 0, none⟩ = some (.int .i64 pa) ∧ w1.cell? ⟨G, 1, none⟩ = some (.int .i64 pn) ∧ w1.cell? ⟨G, 2, none⟩ = some (.int .i64 pb) ∧ w1.cell? ⟨G, 3, none⟩ = some (.int .i64 pm) ∧ w1.cell? ⟨G, 4, none⟩ = some (.string ph) ∧ w1.cell? ⟨G, 5, none⟩ = some (.slice a4 M c4)) ∧ (w1.cell? ⟨b5, o5, none⟩ = some (.int .i64 pa) ∧ w1.cell? ⟨b5, o5 + 1, none⟩ = some (.int .i64 pn) ∧ w1.cell? ⟨b5, o5 + 2, none⟩ = some (.int .i64 pb) ∧ w1.cell? ⟨b5, o5 + 3, none⟩ = some (.int .i64 pm) ∧ w1.cell? ⟨b5, o5 + 4, none⟩ = some (.string ph) ∧ w1.cell? ⟨b5, o5 + 5, none⟩ = some (.slice ma M mc))) := hid (fun w1 h => by
                have hg := (h.block G (lt_of_heap HGW.out)).trans HGW.out
                exact ⟨⟨(h.cell (p := ⟨b3, _, none⟩) hb3).trans g0, (h.cell (p := ⟨b3, _, none⟩) hb3).trans g1, (h.cell (p := ⟨b3, _, none⟩) hb3).trans g2, (h.cell (p := ⟨b3, _, none⟩) hb3).trans g3, (h.cell (p := ⟨b3, _, none⟩) hb3).trans g4, (h.cell (p := ⟨b3, _, none⟩) hb3).trans g5⟩, HCL.out _ (HB67.out.trans (h.mono HB67.out.size)), ⟨cell_of_blk hg 0, cell_of_blk hg 1, cell_of_blk hg 2, cell_of_blk hg 3, cell_of_blk hg 4, cell_of_blk hg 5⟩, ⟨(h.cell (p := ⟨b5, _, none⟩) hb5).trans m0, (h.cell (p := ⟨b5, _, none⟩) hb5).trans m1, (h.cell (p := ⟨b5, _, none⟩) hb5).trans m2, (h.cell (p := ⟨b5, _, none⟩) hb5).trans m3, (h.cell (p := ⟨b5, _, none⟩) hb5).trans m4, (h.cell (p := ⟨b5, _, none⟩) hb5).trans m5⟩⟩)
              clear g0 g1 g2 g3 g4 g5 hb3 m0 m1 m2 m3 m4 m5 hb5 hu5 e5' hn5 hJ2
              have HPM : Hid (RdW w6 (.slice a4 M c4) pr) := hid (HX4.out.below HB6.out)
              have i4 : (0 : Int) < 1 := by omega
              go_wp2_with fail
              refine wp_region_class (C := fun w' => Below w6.heap.size w6 w') (by kernel_rfl) (by kernel_rfl) (below_drewN (Below.refl _ _) 1) (Rst.out ?_)
              refine rst_yes (by kernel_rfl) (fun K hK => ?_)
              go_simp
              refine ⟨_, fun _ _ => rfl, ?_⟩
              refine hK.out _ ?_
              clear hK K
              refine rst_yes (by kernel_rfl) (fun K hK => ?_)
              go_simp
              refine ⟨_, fun _ _ => rfl, ?_⟩
              refine hK.out _ ?_
              clear hK K
              refine rst_yes (by kernel_rfl) (fun K hK => ?_)
              go_simp
              refine ⟨_, fun _ _ => rfl, ?_⟩
              refine hK.out _ ?_
              clear hK K
              refine rst_yes (by kernel_rfl) (fun K hK => ?_)
              go_simp
              refine ⟨_, fun _ _ => rfl, ?_⟩
              refine hK.out _ ?_
              clear hK K
              refine rst_yes (by kernel_rfl) (fun K hK => ?_)
              go_simp
              refine ⟨_, fun _ _ => rfl, ?_⟩
              refine hK.out _ ?_
              clear hK K
              refine rst_yes (by kernel_rfl) (fun K hK => ?_)
              go_simp
              refine ⟨_, fun _ _ => rfl, ?_⟩
              refine hK.out _ ?_
              clear hK K
              refine rst_yes (by kernel_rfl) (fun K hK => ?_)
              go_simp
              refine ⟨_, fun _ _ => rfl, ?_⟩
              refine hK.out _ ?_
              clear hK K
              refine rst_yes (by kernel_rfl) (fun K hK => ?_)
              go_simp
              refine ⟨_, fun _ _ => rfl, ?_⟩
              refine hK.out _ ?_
              clear hK K
              refine rst_yes (by kernel_rfl) (fun K hK => ?_)
              go_simp
              refine ⟨_, fun _ _ => rfl, ?_⟩
              refine hK.out _ ?_
              clear hK K
              refine rst_yes (by kernel_rfl) (fun K hK => ?_)
              go_simp
              refine ⟨_, fun _ _ => rfl, ?_⟩
              refine hK.out _ ?_
              clear hK K
              refine rst_yes (by kernel_rfl) (fun K hK => ?_)
              refine ⟨.agg #[.int .i64 xa, .int .i64 xn, .int .i64 xb, .int .i64 xm, .string xh, .slice ta N tc], fun w' hw' => ?_, hK.out _ ?_⟩
              · obtain ⟨⟨q0, q1, q2, q3, q4, q5⟩, ⟨d0, d1, d2, d3, d4, d5⟩, ⟨p0, p1, p2, p3, p4, p5⟩, m0, m1, m2, m3, m4, m5⟩ := HCQ.out w' hw'
                go_simp
              clear hK K
              try simp only [Act.put]
              try simp only [List.setIfInBounds_toArray]
              try simp only [List.set]
              refine rst_yes (by kernel_rfl) (fun K hK => ?_)
              go_simp
              refine ⟨_, fun _ _ => rfl, ?_⟩
              refine hK.out _ ?_
              clear hK K
              refine rst_yes (by kernel_rfl) (fun K hK => ?_)
              go_simp
              refine ⟨_, fun _ _ => rfl, ?_⟩
              refine hK.out _ ?_
              clear hK K
              refine rst_yes (by kernel_rfl) (fun K hK => ?_)
              go_simp
              refine ⟨_, fun _ _ => rfl, ?_⟩
              refine hK.out _ ?_
              clear hK K
              refine rst_yes (by kernel_rfl) (fun K hK => ?_)
              refine ⟨.agg #[.int .i64 xa, .int .i64 xn, .int .i64 xb, .int .i64 xm, .string xh, .slice ua N uc], fun w' hw' => ?_, hK.out _ ?_⟩
              · obtain ⟨⟨q0, q1, q2, q3, q4, q5⟩, ⟨d0, d1, d2, d3, d4, d5⟩, ⟨p0, p1, p2, p3, p4, p5⟩, m0, m1, m2, m3, m4, m5⟩ := HCQ.out w' hw'
                go_simp
              clear hK K
              try simp only [Act.put]
              try simp only [List.setIfInBounds_toArray]
              try simp only [List.set]
              refine rst_yes (by kernel_rfl) (fun K hK => ?_)
              refine ⟨.bool true, fun w' hw' => ?_, hK.out _ ?_⟩
              · go_simp
                refine (HSM.out _ _ _ (HRT.out.below hw') ((HRU.out.below HB67.out).below hw')).mono ?_
                rintro r wn ⟨rfl, hbn⟩
                exact ⟨rfl, hw'.trans (hbn.mono hw'.size)⟩
              clear hK K
              try simp only [Act.put]
              try simp only [List.setIfInBounds_toArray]
              try simp only [List.set]
              refine rst_yes (by kernel_rfl) (fun K hK => ?_)
              go_simp
              refine ⟨_, fun _ _ => rfl, ?_⟩
              refine hK.out _ ?_
              clear hK K
              refine rst_yes (by kernel_rfl) (fun K hK => ?_)
              go_simp
              refine ⟨_, fun _ _ => rfl, ?_⟩
              refine hK.out _ ?_
              clear hK K
              refine rst_yes (by kernel_rfl) (fun K hK => ?_)
              go_simp
              refine ⟨_, fun _ _ => rfl, ?_⟩
              refine hK.out _ ?_
              clear hK K
              refine rst_yes (by kernel_rfl) (fun K hK => ?_)
              go_simp
              refine ⟨_, fun _ _ => rfl, ?_⟩
              refine hK.out _ ?_
              clear hK K
              refine rst_yes (by kernel_rfl) (fun K hK => ?_)
              go_simp
              refine ⟨_, fun _ _ => rfl, ?_⟩
              refine hK.out _ ?_
              clear hK K
              refine rst_yes (by kernel_rfl) (fun K hK => ?_)
              refine quiet_eql (n := (JN : Int)) (m := 1) (v := true) rfl rfl rfl zJ (hK.out _ ?_)
              clear hK K
              try simp only [Act.put]
              try simp only [List.setIfInBounds_toArray]
              try simp only [List.set]
              refine rst_yes (by kernel_rfl) (fun K hK => ?_)
              go_simp
              refine ⟨_, fun _ _ => rfl, ?_⟩
              refine hK.out _ ?_
              clear hK K
              refine rst_yes (by kernel_rfl) (fun K hK => ?_)
              refine ⟨.agg #[.int .i64 pa, .int .i64 pn, .int .i64 pb, .int .i64 pm, .string ph, .slice a4 M c4], fun w' hw' => ?_, hK.out _ ?_⟩
              · obtain ⟨⟨q0, q1, q2, q3, q4, q5⟩, ⟨d0, d1, d2, d3, d4, d5⟩, ⟨p0, p1, p2, p3, p4, p5⟩, m0, m1, m2, m3, m4, m5⟩ := HCQ.out w' hw'
                go_simp
              clear hK K
              try simp only [Act.put]
              try simp only [List.setIfInBounds_toArray]
              try simp only [List.set]
              refine rst_yes (by kernel_rfl) (fun K hK => ?_)
              go_simp
              refine ⟨_, fun _ _ => rfl, ?_⟩
              refine hK.out _ ?_
              clear hK K
              refine rst_yes (by kernel_rfl) (fun K hK => ?_)
              go_simp
              refine ⟨_, fun _ _ => rfl, ?_⟩
              refine hK.out _ ?_
              clear hK K
              refine rst_yes (by kernel_rfl) (fun K hK => ?_)
              refine ⟨.agg #[.int .i64 pa, .int .i64 pn, .int .i64 pb, .int .i64 pm, .string ph, .slice ma M mc], fun w' hw' => ?_, hK.out _ ?_⟩
              · obtain ⟨⟨q0, q1, q2, q3, q4, q5⟩, ⟨d0, d1, d2, d3, d4, d5⟩, ⟨p0, p1, p2, p3, p4, p5⟩, m0, m1, m2, m3, m4, m5⟩ := HCQ.out w' hw'
                go_simp
              clear hK K
              try simp only [Act.put]
              try simp only [List.setIfInBounds_toArray]
              try simp only [List.set]
              refine rst_yes (by kernel_rfl) (fun K hK => ?_)
              refine ⟨.bool true, fun w' hw' => ?_, hK.out _ ?_⟩
              · go_simp
                refine (HSW.out _ _ _ (HPM.out.below hw') (HRM.out.below hw')).mono ?_
                rintro r wn ⟨rfl, hbn⟩
                exact ⟨rfl, hw'.trans (hbn.mono hw'.size)⟩
              clear hK K
              try simp only [Act.put]
              try simp only [List.setIfInBounds_toArray]
              try simp only [List.set]
              refine rst_yes (by kernel_rfl) (fun K hK => ?_)
              go_simp
              refine ⟨_, fun _ _ => rfl, ?_⟩
              refine hK.out _ ?_
              clear hK K
              refine rst_yes (by kernel_rfl) (fun K hK => ?_)
              go_simp
              refine ⟨_, fun _ _ => rfl, ?_⟩
              refine hK.out _ ?_
              clear hK K
              refine rst_yes (by kernel_rfl) (fun K hK => ?_)
              go_simp
              refine ⟨_, fun _ _ => rfl, ?_⟩
              refine hK.out _ ?_
              clear hK K
              refine rst_nil ?_
              intro w8 hb8
              have HB8 : Hid (Below wr.heap.size wr w8) := hid (HB67.out.trans (hb8.mono HB67.out.size))
              clear hb8 HCQ
              obtain ⟨d0, d1, d2, d3, d4, d5⟩ := HCL.out _ HB8.out
              go_wp2_with fail
              refine (HSPL.out _ _ (HRU.out.below HB8.out)).mono ?_
              rintro e w9 ⟨v9, rfl, hO9, hb9⟩
              clear d0 d1 d2 d3 d4 d5
              obtain ⟨a9, c9, e9⟩ := hO9.shape
              subst e9
              have HY9 := hid hO9
              have HB9 : Hid (Below wr.heap.size wr w9) := hid (HB8.out.trans (hb9.mono HB8.out.size))
              clear hO9 hb9
              by_cases hKS : KS = 0
              · obtain ⟨y, z, hY, hyz⟩ := HSR.out hKS
                obtain ⟨f1, f2, f3⟩ := HFS.out HJ1.out hKS
                subst hKS
                subst hY
                rw [errV_zero]
                subst f1
                subst f2
                subst f3
                have HYZ := hid hyz
                clear hyz HFS HSR
                obtain ⟨k0, k1, k2, k3⟩ := HLL.out _ (HXW.out.trans (HB9.out.mono HXW.out.size))
                go_wp2_with fail
                refine (HSC2.out _ _ HY9.out.rd).mono ?_
                rintro e w10 ⟨v10, rfl, hO10, hb10⟩
                obtain ⟨a10, c10, e10⟩ := own_shape hO10
                subst e10
                have HB10 : Hid (Below wr.heap.size wr w10) := hid (HB9.out.trans (hb10.mono HB9.out.size))
                have HYA := hid (HY9.out.stays hb10)
                clear hO10 hb10 k0 k1 k2 k3
                obtain ⟨SN, hSN⟩ : ∃ SN, SN = S2.length := ⟨_, rfl⟩
                have HSN1 := hid hSN
                rw [← hSN]
                clear hSN
                rw [errV_zero]
                obtain ⟨k0, k1, k2, k3⟩ := HLL.out _ (HXW.out.trans (HB10.out.mono HXW.out.size))
                go_wp2_with fail
                refine (HSC1.out _ _ ((HJ51.out.stays HB.out).stays HB10.out).rd).mono ?_
                rintro e w11 ⟨v11, rfl, hO11, hb11⟩
                obtain ⟨a11, c11, e11⟩ := own_shape hO11
                rw [← HSN1.out] at e11
                subst e11
                have HB11 : Hid (Below wr.heap.size wr w11) := hid (HB10.out.trans (hb11.mono HB10.out.size))
                have HYB := hid (HYA.out.stays hb11)
                clear hO11 hb11 k0 k1 k2 k3
                rw [errV_zero]
                have zS : ((SN : Int) == (SN : Int)) = true := zeq rfl
                obtain ⟨b7, o7, u7, e7', hb7, s0, s1, s2, s3, s4, s5, hu7⟩ := rdH_at HYB.out.rd (k := 0) (x := y) rfl
                obtain ⟨b8, o8, u8, e8', hb8, t0, t1, t2, t3, t4, t5, hu8⟩ := rdH_at HYB.out.rd (k := 1) (x := z) rfl
                subst e7'
                obtain ⟨rfl, rfl⟩ : b7 = b8 ∧ o7 = o8 := by simpa using e8'
                obtain ⟨yu, yc, rfl⟩ := hu7.shape
                obtain ⟨zu, zc, rfl⟩ := hu8.shape
                obtain ⟨YL, hYL⟩ : ∃ YL, YL = y.rows.length := ⟨_, rfl⟩
                obtain ⟨ZL, hZL⟩ : ∃ ZL, ZL = z.rows.length := ⟨_, rfl⟩
                rw [← hYL] at s5
                rw [← hZL] at t5
                have hNN : YL + ZL = N := by rw [hYL, hZL, HNX.out]; exact HYZ.out
                have hNb : N < 5864062014800 := by rw [HNX.out]; exact HSX.out.1
                clear hYL hZL hu7 hu8 s0 s1 s2 s3 s4 t0 t1 t2 t3 t4 hb7 hb8 e8'
                rw [Nat.zero_mul, Nat.add_zero] at s5
                rw [Nat.one_mul] at t5
                obtain ⟨d0, d1, d2, d3, d4, d5⟩ := HCL.out _ HB11.out
                have zN : ((YL : Int) + (ZL : Int) == (N : Int)) = true := zeq (by omega)
                have wN : IntKind.i64.wrap ((YL : Int) + (ZL : Int)) = (YL : Int) + (ZL : Int) := wrapOk (by omega) (by omega)
                have hN1 : ((YL : Int) + (ZL : Int)) = (N : Int) := by omega
                have HN1 := hid hN1
                clear hNN hN1
                go_wp2_with fail
                go_quiet (fail)
                go_wp2_with fail
                go_roundw
                case rel => exact ⟨k + 1, by omega, by go_num, hid (below_drewN (HB.out.trans (HB11.out.mono HB.out.size)) _)⟩
                case measure => simp [intOf]; omega
              · rw [errV_pos hKS]
                clear HFS HSR hKS
                go_wp2_with fail
                go_roundw
                case rel => exact ⟨k + 1, by omega, by go_num, hid (HB.out.trans (HB9.out.mono HB.out.size))⟩
                case measure => simp [intOf]; omega
            · have hJN1 : (1 : Int) < JN := by omega
              have HCQ : Hid (∀ w1, Below w6.heap.size w6 w1 → (w1.cell? ⟨b3, o3, none⟩ = some (.int .i64 xa) ∧ w1.cell? ⟨b3, o3 + 1, none⟩ = some (.int .i64 xn) ∧ w1.cell? ⟨b3, o3 + 2, none⟩ = some (.int .i64 xb) ∧ w1.cell? ⟨b3, o3 + 3, none⟩ = some (.int .i64 xm) ∧ w1.cell? ⟨b3, o3 + 4, none⟩ = some (.string xh) ∧ w1.cell? ⟨b3, o3 + 5, none⟩ = some (.slice ta N tc)) ∧ (w1.cell? ⟨b1, o1 + k * 6, none⟩ = some (.int .i64 xa) ∧ w1.cell? ⟨b1, o1 + k * 6 + 1, none⟩ = some (.int .i64 xn) ∧ w1.cell? ⟨b1, o1 + k * 6 + 2, none⟩ = some (.int .i64 xb) ∧ w1.cell? ⟨b1, o1 + k * 6 + 3, none⟩ = some (.int .i64 xm) ∧ w1.cell? ⟨b1, o1 + k * 6 + 4, none⟩ = some (.string xh) ∧ w1.cell? ⟨b1, o1 + k * 6 + 5, none⟩ = some (.slice ua N uc))) := hid (fun w1 h => ⟨⟨(h.cell (p := ⟨b3, _, none⟩) hb3).trans g0, (h.cell (p := ⟨b3, _, none⟩) hb3).trans g1, (h.cell (p := ⟨b3, _, none⟩) hb3).trans g2, (h.cell (p := ⟨b3, _, none⟩) hb3).trans g3, (h.cell (p := ⟨b3, _, none⟩) hb3).trans g4, (h.cell (p := ⟨b3, _, none⟩) hb3).trans g5⟩, HCL.out _ (HB67.out.trans (h.mono HB67.out.size))⟩)
              clear g0 g1 g2 g3 g4 g5 hb3
              have zJ : ((JN : Int) == 1) = false := by
                have : (1 : Int) < JN := hJN1
                simp
                omega
              have i4 : (0 : Int) < 1 := by omega
              go_wp2_with fail
              refine wp_region_class (C := fun w' => Below w6.heap.size w6 w') (by kernel_rfl) (by kernel_rfl) (below_drewN (Below.refl _ _) 1) (Rst.out ?_)
              refine rst_yes (by kernel_rfl) (fun K hK => ?_)
              go_simp
              refine ⟨_, fun _ _ => rfl, ?_⟩
              refine hK.out _ ?_
              clear hK K
              refine rst_yes (by kernel_rfl) (fun K hK => ?_)
              go_simp
              refine ⟨_, fun _ _ => rfl, ?_⟩
              refine hK.out _ ?_
              clear hK K
              refine rst_yes (by kernel_rfl) (fun K hK => ?_)
              go_simp
              refine ⟨_, fun _ _ => rfl, ?_⟩
              refine hK.out _ ?_
              clear hK K
              refine rst_yes (by kernel_rfl) (fun K hK => ?_)
              go_simp
              refine ⟨_, fun _ _ => rfl, ?_⟩
              refine hK.out _ ?_
              clear hK K
              refine rst_yes (by kernel_rfl) (fun K hK => ?_)
              go_simp
              refine ⟨_, fun _ _ => rfl, ?_⟩
              refine hK.out _ ?_
              clear hK K
              refine rst_yes (by kernel_rfl) (fun K hK => ?_)
              go_simp
              refine ⟨_, fun _ _ => rfl, ?_⟩
              refine hK.out _ ?_
              clear hK K
              refine rst_yes (by kernel_rfl) (fun K hK => ?_)
              go_simp
              refine ⟨_, fun _ _ => rfl, ?_⟩
              refine hK.out _ ?_
              clear hK K
              refine rst_yes (by kernel_rfl) (fun K hK => ?_)
              go_simp
              refine ⟨_, fun _ _ => rfl, ?_⟩
              refine hK.out _ ?_
              clear hK K
              refine rst_yes (by kernel_rfl) (fun K hK => ?_)
              go_simp
              refine ⟨_, fun _ _ => rfl, ?_⟩
              refine hK.out _ ?_
              clear hK K
              refine rst_yes (by kernel_rfl) (fun K hK => ?_)
              go_simp
              refine ⟨_, fun _ _ => rfl, ?_⟩
              refine hK.out _ ?_
              clear hK K
              refine rst_yes (by kernel_rfl) (fun K hK => ?_)
              refine ⟨.agg #[.int .i64 xa, .int .i64 xn, .int .i64 xb, .int .i64 xm, .string xh, .slice ta N tc], fun w' hw' => ?_, hK.out _ ?_⟩
              · obtain ⟨⟨q0, q1, q2, q3, q4, q5⟩, d0, d1, d2, d3, d4, d5⟩ := HCQ.out w' hw'
                go_simp
              clear hK K
              try simp only [Act.put]
              try simp only [List.setIfInBounds_toArray]
              try simp only [List.set]
              refine rst_yes (by kernel_rfl) (fun K hK => ?_)
              go_simp
              refine ⟨_, fun _ _ => rfl, ?_⟩
              refine hK.out _ ?_
              clear hK K
              refine rst_yes (by kernel_rfl) (fun K hK => ?_)
              go_simp
              refine ⟨_, fun _ _ => rfl, ?_⟩
              refine hK.out _ ?_
              clear hK K
              refine rst_yes (by kernel_rfl) (fun K hK => ?_)
              go_simp
              refine ⟨_, fun _ _ => rfl, ?_⟩
              refine hK.out _ ?_
              clear hK K
              refine rst_yes (by kernel_rfl) (fun K hK => ?_)
              refine ⟨.agg #[.int .i64 xa, .int .i64 xn, .int .i64 xb, .int .i64 xm, .string xh, .slice ua N uc], fun w' hw' => ?_, hK.out _ ?_⟩
              · obtain ⟨⟨q0, q1, q2, q3, q4, q5⟩, d0, d1, d2, d3, d4, d5⟩ := HCQ.out w' hw'
                go_simp
              clear hK K
              try simp only [Act.put]
              try simp only [List.setIfInBounds_toArray]
              try simp only [List.set]
              refine rst_yes (by kernel_rfl) (fun K hK => ?_)
              refine ⟨.bool true, fun w' hw' => ?_, hK.out _ ?_⟩
              · go_simp
                refine (HSM.out _ _ _ (HRT.out.below hw') ((HRU.out.below HB67.out).below hw')).mono ?_
                rintro r wn ⟨rfl, hbn⟩
                exact ⟨rfl, hw'.trans (hbn.mono hw'.size)⟩
              clear hK K
              try simp only [Act.put]
              try simp only [List.setIfInBounds_toArray]
              try simp only [List.set]
              refine rst_yes (by kernel_rfl) (fun K hK => ?_)
              go_simp
              refine ⟨_, fun _ _ => rfl, ?_⟩
              refine hK.out _ ?_
              clear hK K
              refine rst_yes (by kernel_rfl) (fun K hK => ?_)
              go_simp
              refine ⟨_, fun _ _ => rfl, ?_⟩
              refine hK.out _ ?_
              clear hK K
              refine rst_yes (by kernel_rfl) (fun K hK => ?_)
              go_simp
              refine ⟨_, fun _ _ => rfl, ?_⟩
              refine hK.out _ ?_
              clear hK K
              refine rst_yes (by kernel_rfl) (fun K hK => ?_)
              go_simp
              refine ⟨_, fun _ _ => rfl, ?_⟩
              refine hK.out _ ?_
              clear hK K
              refine rst_yes (by kernel_rfl) (fun K hK => ?_)
              go_simp
              refine ⟨_, fun _ _ => rfl, ?_⟩
              refine hK.out _ ?_
              clear hK K
              refine rst_yes (by kernel_rfl) (fun K hK => ?_)
              refine quiet_eql (n := (JN : Int)) (m := 1) (v := false) rfl rfl rfl zJ (hK.out _ ?_)
              clear hK K
              try simp only [Act.put]
              try simp only [List.setIfInBounds_toArray]
              try simp only [List.set]
              refine rst_yes (by kernel_rfl) (fun K hK => ?_)
              go_simp
              refine ⟨_, fun _ _ => rfl, ?_⟩
              refine hK.out _ ?_
              clear hK K
              refine rst_no (by kernel_rfl) (fun K hK => ?_)
              go_simp
              refine hK.out _ ?_
              clear hK K
              refine rst_no (by kernel_rfl) (fun K hK => ?_)
              go_simp
              refine hK.out _ ?_
              clear hK K
              refine rst_no (by kernel_rfl) (fun K hK => ?_)
              go_simp
              refine hK.out _ ?_
              clear hK K
              refine rst_no (by kernel_rfl) (fun K hK => ?_)
              go_simp
              refine hK.out _ ?_
              clear hK K
              refine rst_no (by kernel_rfl) (fun K hK => ?_)
              go_simp
              refine hK.out _ ?_
              clear hK K
              refine rst_no (by kernel_rfl) (fun K hK => ?_)
              go_simp
              refine hK.out _ ?_
              clear hK K
              refine rst_yes (by kernel_rfl) (fun K hK => ?_)
              go_simp
              refine ⟨_, fun _ _ => rfl, ?_⟩
              refine hK.out _ ?_
              clear hK K
              refine rst_yes (by kernel_rfl) (fun K hK => ?_)
              go_simp
              refine ⟨_, fun _ _ => rfl, ?_⟩
              refine hK.out _ ?_
              clear hK K
              refine rst_nil ?_
              intro w8 hb8
              have HB8 : Hid (Below wr.heap.size wr w8) := hid (HB67.out.trans (hb8.mono HB67.out.size))
              clear hb8 HCQ
              obtain ⟨d0, d1, d2, d3, d4, d5⟩ := HCL.out _ HB8.out
              go_wp2_with fail
              refine (HSPL.out _ _ (HRU.out.below HB8.out)).mono ?_
              rintro e w9 ⟨v9, rfl, hO9, hb9⟩
              clear d0 d1 d2 d3 d4 d5
              obtain ⟨a9, c9, e9⟩ := hO9.shape
              subst e9
              have HY9 := hid hO9
              have HB9 : Hid (Below wr.heap.size wr w9) := hid (HB8.out.trans (hb9.mono HB8.out.size))
              clear hO9 hb9
              by_cases hKS : KS = 0
              · obtain ⟨y, z, hY, hyz⟩ := HSR.out hKS
                subst hKS
                subst hY
                rw [errV_zero]
                have HYZ := hid hyz
                clear hyz HFS HSR
                obtain ⟨k0, k1, k2, k3⟩ := HLL.out _ (HXW.out.trans (HB9.out.mono HXW.out.size))
                go_wp2_with fail
                refine (HSC2.out _ _ HY9.out.rd).mono ?_
                rintro e w10 ⟨v10, rfl, hO10, hb10⟩
                obtain ⟨a10, c10, e10⟩ := own_shape hO10
                subst e10
                have HB10 : Hid (Below wr.heap.size wr w10) := hid (HB9.out.trans (hb10.mono HB9.out.size))
                have HYA := hid (HY9.out.stays hb10)
                clear hO10 hb10 k0 k1 k2 k3
                generalize errV K3 = EV3
                generalize S2.length = SN
                have HB11 : Hid (Below wr.heap.size wr w10) := HB10
                have HYB := HYA
                obtain ⟨w11, hw11⟩ : ∃ w11, w11 = w10 := ⟨_, rfl⟩
                subst hw11
                obtain ⟨b7, o7, u7, e7', hb7, s0, s1, s2, s3, s4, s5, hu7⟩ := rdH_at HYB.out.rd (k := 0) (x := y) rfl
                obtain ⟨b8, o8, u8, e8', hb8, t0, t1, t2, t3, t4, t5, hu8⟩ := rdH_at HYB.out.rd (k := 1) (x := z) rfl
                subst e7'
                obtain ⟨rfl, rfl⟩ : b7 = b8 ∧ o7 = o8 := by simpa using e8'
                obtain ⟨yu, yc, rfl⟩ := hu7.shape
                obtain ⟨zu, zc, rfl⟩ := hu8.shape
                obtain ⟨YL, hYL⟩ : ∃ YL, YL = y.rows.length := ⟨_, rfl⟩
                obtain ⟨ZL, hZL⟩ : ∃ ZL, ZL = z.rows.length := ⟨_, rfl⟩
                rw [← hYL] at s5
                rw [← hZL] at t5
                have hNN : YL + ZL = N := by rw [hYL, hZL, HNX.out]; exact HYZ.out
                have hNb : N < 5864062014800 := by rw [HNX.out]; exact HSX.out.1
                clear hYL hZL hu7 hu8 s0 s1 s2 s3 s4 t0 t1 t2 t3 t4 hb7 hb8 e8'
                rw [Nat.zero_mul, Nat.add_zero] at s5
                rw [Nat.one_mul] at t5
                obtain ⟨d0, d1, d2, d3, d4, d5⟩ := HCL.out _ HB11.out
                have zN : ((YL : Int) + (ZL : Int) == (N : Int)) = true := zeq (by omega)
                have wN : IntKind.i64.wrap ((YL : Int) + (ZL : Int)) = (YL : Int) + (ZL : Int) := wrapOk (by omega) (by omega)
                have hN1 : ((YL : Int) + (ZL : Int)) = (N : Int) := by omega
                have HN1 := hid hN1
                clear hNN hN1
                go_wp2_with fail
                go_quiet (fail)
                go_wp2_with fail
                go_roundw
                case rel => exact ⟨k + 1, by omega, by go_num, hid (below_drewN (HB.out.trans (HB11.out.mono HB.out.size)) _)⟩
                case measure => simp [intOf]; omega
              · rw [errV_pos hKS]
                clear HFS HSR hKS
                go_wp2_with fail
                go_roundw
                case rel => exact ⟨k + 1, by omega, by go_num, hid (HB.out.trans (HB9.out.mono HB.out.size))⟩
                case measure => simp [intOf]; omega
          · have hJN1 : (1 : Int) < JN := by
              have : JN ≠ 1 := fun e => hKW (HFX.out e).1
              omega
            rw [errV_pos hKW]
            clear hKW HFW HFX
            go_wp2_with fail
            go_roundw
            case rel => exact ⟨k + 1, by omega, by go_num, hid (HB.out.trans (HC.out.mono HB.out.size))⟩
            case measure => simp [intOf]; omega
      · obtain rfl : k = JN := by omega
        go_wp2_with fail
        refine (works_any _ (HG.out.below HBW.out)).mono ?_
        rintro e w11 ⟨rfl, hb11⟩
        have HB11 := hid (HBW.out.trans (hb11.mono HBW.out.size))
        clear hb11
        go_wp2_with fail
        go_ret
        exact ⟨rfl, HB11.out⟩
  · by_cases hK1 : K1 = 0
    · have hK2 : K2 ≠ 0 := fun e => hK ⟨hK1, e⟩
      subst hK1
      rw [errV_zero, errV_pos hK2]
      clear HW0 HW1 HS1 HJ1 HJ2 hK
      go_wp2_with fail
      refine (works_any _ (HG.out.below HB42.out)).mono ?_
      rintro e w11 ⟨rfl, hb11⟩
      have HB11 := hid (HB42.out.trans (hb11.mono HB42.out.size))
      clear hb11
      go_wp2_with fail
      go_ret
      exact ⟨rfl, HB11.out⟩
    · rw [errV_pos hK1]
      clear HW0 HW1 HS1 HJ1 HJ2 hK
      generalize errV K2 = EV
      go_wp2_with fail
      refine (works_any _ (HG.out.below HB42.out)).mono ?_
      rintro e w11 ⟨rfl, hb11⟩
      have HB11 := hid (HB42.out.trans (hb11.mono HB42.out.size))
      clear hb11
      go_wp2_with fail
      go_ret
      exact ⟨rfl, HB11.out⟩
end Go.Proofs.YtddmfdjkkikapaaGreatDoor
