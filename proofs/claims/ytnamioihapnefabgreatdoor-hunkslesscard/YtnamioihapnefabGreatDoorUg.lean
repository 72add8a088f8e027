/-
  The walk of the law HunksLess (made by wip/genug.py).
-/
import Derived.Test.YtnamioihapnefabGreatDoorUf
import Derived.Test.YtnamioihapnefabGreatDoorMl
import Derived.Test.YtnamioihapnefabGreatDoorLd
import Derived.Test.YtnamioihapnefabGreatDoorGrKt
import Derived.Test.YtnamioihapnefabGreatDoorGrJw
import Derived.Test.YtnamioihapnefabGreatDoorGrKf
namespace Go.Proofs.YtnamioihapnefabGreatDoor
open Go.RowKit
open Hu (Rw Hk)
open Ed (Ch)

theorem wp_region_class {id : Nat} {C : World → Prop} {Q : Exit → Act → World → Prop} {a : Act} {w : World} {l : List Oper} (hm : Tryz.prog.follows .mixedOrders = true) (hB : Region.lexB .any l.toArray = true) (hC : C w.drew)
    (h : wpQuiet Tryz.prog l.toArray C (fun a' => ∀ w', C w' → Q .normal a' w') l a) : (Code.region id l.toArray true).wp Tryz.prog Q a w :=
  wp_region_quiet (C := C) hm hB hC (by simpa using h)
theorem flat_more {L : List Hk} {k : Nat} {x : Hk} {f : Hk → List Hk} (h : L[k]? = some x) : (L.take (k + 1)).flatMap f = (L.take k).flatMap f ++ f x := by
  rw [List.take_add_one, h, List.flatMap_append]; simp
theorem flat_len {L : List Hk} {k : Nat} {f : Hk → List Hk} : ((L.take k).flatMap f).length ≤ (L.flatMap f).length := by
  conv => rhs; rw [← List.take_append_drop k L]
  rw [List.flatMap_append, List.length_append]
  omega
set_option maxHeartbeats 8000000 in
set_option maxRecDepth 100000 in
theorem hunksLess_walk (v0 : Value) (s : List Ch) (v1 : Value) (a : List ByteArray) (v2 : Value) (b : List ByteArray) (ctx less : Int) (w : World) (hr : RdC w v0 s) (hwf : ∀ c ∈ s, WfC c) (hl : s.length ≤ 4398046510976) (hsh : ArgS v0)
    (ha : RdT w v1 a) (hsa : ∀ c ∈ a, SzS c) (hla : a.length ≤ 8796093021952) (hsA : ArgS v1) (hb : RdT w v2 b) (hsb : ∀ c ∈ b, SzS c) (hlb : b.length ≤ 8796093021952) (hsB : ArgS v2) (hg : ErrVar w) :
    Calls Tryz.prog 3 #[.agg #[v0, v1, v2, .int .i64 ctx], .int .i64 less] w fun e w' => e = .returned (.bool true) ∧ Below w.heap.size w w' := by
  have hsa : ∀ x ∈ a, x.size ≤ maxLen := hsa
  have hsb : ∀ x ∈ b, x.size ≤ maxLen := hsb
  have HR := hid hr
  have HA := hid ha
  have HBb := hid hb
  have HG := hid hg
  have HWF := hid hwf
  have HSA := hid hsa
  have HSB := hid hsb
  have HSH := hid hsh
  have HSHA := hid hsA
  have HSHB := hid hsB
  obtain ⟨a0, c0, rfl⟩ := hr.shape
  obtain ⟨a1, c1, rfl⟩ := ha.shape
  obtain ⟨a2, c2, rfl⟩ := hb.shape
  obtain ⟨c, kc⟩ : ∃ c : Nat, max 0 (min less ctx) = (c : Int) := ⟨(max 0 (min less ctx)).toNat, by omega⟩
  have HBZ1 := hid (bldA_sz (s := s) (ctx := ctx) hsa hsb)
  have HBZ2 := hid (bldA_sz (s := s) (ctx := (c : Int)) hsa hsb)
  clear hr hwf hg hsh ha hsa hsA hb hsb hsB
  have HT1 := hid (fun w1 (hb : Below w.heap.size w w1) => changes_any (HR.out.below hb) HSH.out hl)
  have HT2 := hid (fun w1 (hb : Below w.heap.size w w1) => texts_any (HA.out.below hb) HSHA.out (by omega))
  have HT3 := hid (fun w1 (hb : Below w.heap.size w w1) => texts_any (HBb.out.below hb) HSHB.out (by omega))
  have HJ1 := hid (fun w1 v1 v2 v3 (h1 : RdC w1 v1 s) (h2 : RdT w1 v2 a) (h3 : RdT w1 v3 b) => build_any (ctx := ctx) h1 HWF.out (by omega) h2 h3 (by omega) (by omega) HSA.out HSB.out)
  have HJ2 := hid (fun w1 v1 v2 v3 (h1 : RdC w1 v1 s) (h2 : RdT w1 v2 a) (h3 : RdT w1 v3 b) => build_any (ctx := (c : Int)) h1 HWF.out (by omega) h2 h3 (by omega) (by omega) HSA.out HSB.out)
  have HAR1 := hid (fun (h : bldN s a b ctx = 0) => bld_ar h)
  have HAR2 := hid (fun (h : bldN s a b (c : Int) = 0) => bld_ar h)
  have HLE : Hid (bldN s a b ctx = 0 → bldN s a b (c : Int) = 0 ∧ (∀ h ∈ bldA s a b ctx, narN h c = 0 ∧ narN h ctx = 0 ∧ narA h ctx = [h] ∧ narA h c ≠ []) ∧ (bldA s a b ctx).flatMap (fun h => narA h c) = bldA s a b (c : Int)) := hid (fun h => by
    have hc := (bldN_zero h).1
    have := built_less (c := c) h (by omega)
    exact ⟨this.less, this.each, this.all⟩)
  generalize bldN s a b ctx = K1 at HJ1 HAR1 HLE
  generalize bldA s a b ctx = J1 at HJ1 HBZ1 HAR1 HLE
  generalize bldN s a b (c : Int) = K2 at HJ2 HAR2 HLE
  generalize bldA s a b (c : Int) = J2 at HJ2 HBZ2 HAR2 HLE
  have hbA : Below w.heap.size w (w.alloc (.cells #[.slice a0 s.length c0, .slice a1 a.length c1, .slice a2 b.length c2, .int .i64 ctx] 25)) := (Below.refl _ _).alloc (Nat.le_refl _) _
  have hgA := heap_alloc_new w (.cells #[.slice a0 s.length c0, .slice a1 a.length c1, .slice a2 b.length c2, .int .i64 ctx] 25)
  obtain ⟨sn, hsn⟩ : ∃ sn, sn = s.length := ⟨_, rfl⟩
  obtain ⟨an, han⟩ : ∃ an, an = a.length := ⟨_, rfl⟩
  obtain ⟨bn, hbn⟩ : ∃ bn, bn = b.length := ⟨_, rfl⟩
  have HSN := hid hsn
  rw [← hsn, ← han, ← hbn] at hbA hgA ⊢
  rw [← hsn] at HT1
  rw [← han] at HT2
  rw [← hbn] at HT3
  have HAN := hid han
  have HBN := hid hbn
  clear hsn han hbn
  go_enter Tryz.func3, Tryz.ntmps3
  go_wp2_with fail
  generalize (w.alloc (.cells #[.slice a0 sn c0, .slice a1 an c1, .slice a2 bn c2, .int .i64 ctx] 25)) = w0 at hbA hgA ⊢
  have k0 : w0.cell? ⟨w.heap.size, 0, none⟩ = some (.slice a0 sn c0) := cell_of_blk hgA 0
  have k1 : w0.cell? ⟨w.heap.size, 1, none⟩ = some (.slice a1 an c1) := cell_of_blk hgA 1
  have k2 : w0.cell? ⟨w.heap.size, 2, none⟩ = some (.slice a2 bn c2) := cell_of_blk hgA 2
  have k3 : w0.cell? ⟨w.heap.size, 3, none⟩ = some (.int .i64 ctx) := cell_of_blk hgA 3
  have HBA := hid hbA
  obtain ⟨g, hg⟩ : ∃ g, g = w.heap.size := ⟨_, rfl⟩
  rw [← hg] at k0 k1 k2 k3 ⊢
  clear hg hgA hbA
  have HL0 := hid (And.intro k0 (And.intro k1 (And.intro k2 k3)))
  have HGW : Hid (g < w0.heap.size) := hid (lt_of_cell k0)
  have HLL : Hid (∀ w1, Below w0.heap.size w0 w1 → w1.cell? ⟨g, 0, none⟩ = some (.slice a0 sn c0) ∧ w1.cell? ⟨g, 1, none⟩ = some (.slice a1 an c1) ∧ w1.cell? ⟨g, 2, none⟩ = some (.slice a2 bn c2) ∧ w1.cell? ⟨g, 3, none⟩ = some (.int .i64 ctx)) := hid (fun w1 h => ⟨(h.cell (p := ⟨g, _, none⟩) HGW.out).trans HL0.out.1, (h.cell (p := ⟨g, _, none⟩) HGW.out).trans HL0.out.2.1, (h.cell (p := ⟨g, _, none⟩) HGW.out).trans HL0.out.2.2.1, (h.cell (p := ⟨g, _, none⟩) HGW.out).trans HL0.out.2.2.2⟩)
  have HBX1 := hid (below_drewN (Below.refl w0.heap.size w0) 1)
  have HBY1 := hid (below_drewN HBA.out 1)
  go_region_held3 (fun w' => w'.cell? ⟨g, 0, none⟩ = some (.slice a0 sn c0) ∧ w'.cell? ⟨g, 1, none⟩ = some (.slice a1 an c1) ∧ w'.cell? ⟨g, 2, none⟩ = some (.slice a2 bn c2) ∧ w'.cell? ⟨g, 3, none⟩ = some (.int .i64 ctx))
    (first
      | go_keep
      | (go_split_ands
         refine ⟨?_, ?_, ?_, ?_⟩ <;> exact (hbk.cell (lt_of_cell (by assumption))).trans (by assumption)))
    (first
      | (go_at_call 7; refine (HJ1.out _ _ _ _ HM3.out HN3.out HO3.out).mono ?_; rintro e w41 ⟨v4, rfl, hO4, hbk⟩; obtain ⟨a41, c41, e4⟩ := hO4.shape; subst e4; have HJ41 := hid hO4; have HB41 : Hid (Below w.heap.size w w41) := hid (HB3.out.trans (hbk.mono HB3.out.size)); have HC41 : Hid (Below w0.heap.size w0 w41) := hid (HC3.out.trans (hbk.mono HC3.out.size)); clear hO4)
      | (go_at_call 9; have hB2 := HB2.out; refine (HT3.out _ hB2).mono ?_; rintro e w3 ⟨v3, rfl, hO3, hbk⟩; obtain ⟨aj, cj, ej⟩ := own_shape hO3; rw [← HBN.out] at ej; subst ej; have HO3 := hid (own_rd hO3); have HN3 := hid (HN2.out.below hbk); have HM3 := hid (HM2.out.below hbk); have HB3 : Hid (Below w.heap.size w w3) := hid (HB2.out.trans (hbk.mono HB2.out.size)); have HC3 : Hid (Below w0.heap.size w0 w3) := hid (HC2.out.trans (hbk.mono HC2.out.size)); clear hO3 hB2)
      | (go_at_call 9; have hB1 := HB1.out; refine (HT2.out _ hB1).mono ?_; rintro e w2 ⟨v2, rfl, hO2, hbk⟩; obtain ⟨an', cn, en⟩ := own_shape hO2; rw [← HAN.out] at en; subst en; have HN2 := hid (own_rd hO2); have HM2 := hid (HM1.out.below hbk); have HB2 : Hid (Below w.heap.size w w2) := hid (hB1.trans (hbk.mono hB1.size)); have HC2 : Hid (Below w0.heap.size w0 w2) := hid (HC1.out.trans (hbk.mono HC1.out.size)); clear hO2 hB1)
      | (go_at_call 8; refine (HT1.out _ HBY1.out).mono ?_; rintro e w1 ⟨v1, rfl, hO1, hbk⟩; obtain ⟨am, cm, em⟩ := own_shape hO1; rw [← HSN.out] at em; subst em; have HM1 := hid (own_rd hO1); have HB1 : Hid (Below w.heap.size w w1) := hid (HBY1.out.trans (hbk.mono HBY1.out.size)); have HC1 : Hid (Below w0.heap.size w0 w1) := hid (HBX1.out.trans (hbk.mono HBX1.out.size)); clear hO1))
  clear HC1 HC2 HC3 HB1 HB2 HB3 HM1 HM2 HM3 HN2 HN3 HO3 HBX1 HBY1
  clear k0 k1 k2 k3
  obtain ⟨JN, hJN⟩ : ∃ JN, JN = J1.length := ⟨_, rfl⟩
  have HJN := hid hJN
  have hJNl : JN ≤ 8388608 := by rw [hJN]; exact HBZ1.out.2
  rw [← hJN] at HJ41 ⊢
  clear hJN
  obtain ⟨k0, k1, k2, k3⟩ := HLL.out _ HC41.out
  go_wp2_with fail
  have HBX2 := hid (below_drewN (Below.refl w41.heap.size w41) 1)
  have HBY2 := hid (below_drewN HB41.out 1)
  go_region_held3 (fun w' => w'.cell? ⟨g, 0, none⟩ = some (.slice a0 sn c0) ∧ w'.cell? ⟨g, 1, none⟩ = some (.slice a1 an c1) ∧ w'.cell? ⟨g, 2, none⟩ = some (.slice a2 bn c2) ∧ w'.cell? ⟨g, 3, none⟩ = some (.int .i64 ctx))
    (first
      | go_keep
      | (go_split_ands
         refine ⟨?_, ?_, ?_, ?_⟩ <;> exact (hbk.cell (lt_of_cell (by assumption))).trans (by assumption)))
    (first
      | (go_at_call 7; refine (HJ2.out _ _ _ _ HM3.out HN3.out HO3.out).mono ?_; rintro e w42 ⟨v4, rfl, hO4, hbk⟩; obtain ⟨a42, c42, e4⟩ := hO4.shape; subst e4; have HJ42 := hid hO4; have HB42 : Hid (Below w.heap.size w w42) := hid (HB3.out.trans (hbk.mono HB3.out.size)); have HC42 : Hid (Below w41.heap.size w41 w42) := hid (HC3.out.trans (hbk.mono HC3.out.size)); clear hO4)
      | (go_at_call 9; have hB2 := HB2.out; refine (HT3.out _ hB2).mono ?_; rintro e w3 ⟨v3, rfl, hO3, hbk⟩; obtain ⟨aj, cj, ej⟩ := own_shape hO3; rw [← HBN.out] at ej; subst ej; have HO3 := hid (own_rd hO3); have HN3 := hid (HN2.out.below hbk); have HM3 := hid (HM2.out.below hbk); have HB3 : Hid (Below w.heap.size w w3) := hid (HB2.out.trans (hbk.mono HB2.out.size)); have HC3 : Hid (Below w41.heap.size w41 w3) := hid (HC2.out.trans (hbk.mono HC2.out.size)); clear hO3 hB2)
      | (go_at_call 9; have hB1 := HB1.out; refine (HT2.out _ hB1).mono ?_; rintro e w2 ⟨v2, rfl, hO2, hbk⟩; obtain ⟨an', cn, en⟩ := own_shape hO2; rw [← HAN.out] at en; subst en; have HN2 := hid (own_rd hO2); have HM2 := hid (HM1.out.below hbk); have HB2 : Hid (Below w.heap.size w w2) := hid (hB1.trans (hbk.mono hB1.size)); have HC2 : Hid (Below w41.heap.size w41 w2) := hid (HC1.out.trans (hbk.mono HC1.out.size)); clear hO2 hB1)
      | (go_at_call 8; refine (HT1.out _ HBY2.out).mono ?_; rintro e w1 ⟨v1, rfl, hO1, hbk⟩; obtain ⟨am, cm, em⟩ := own_shape hO1; rw [← HSN.out] at em; subst em; have HM1 := hid (own_rd hO1); have HB1 : Hid (Below w.heap.size w w1) := hid (HBY2.out.trans (hbk.mono HBY2.out.size)); have HC1 : Hid (Below w41.heap.size w41 w1) := hid (HBX2.out.trans (hbk.mono HBX2.out.size)); clear hO1))
  clear HC1 HC2 HC3 HB1 HB2 HB3 HM1 HM2 HM3 HN2 HN3 HO3 HBX2 HBY2
  clear k0 k1 k2 k3
  have HX5 := hid (HC41.out.trans (HC42.out.mono HC41.out.size))
  have HJ51 := hid (HJ41.out.stays HC42.out)
  obtain ⟨MN, hMN⟩ : ∃ MN, MN = J2.length := ⟨_, rfl⟩
  have HMN := hid hMN
  have hMNl : MN ≤ 8388608 := by rw [hMN]; exact HBZ2.out.2
  rw [← hMN] at HJ42 ⊢
  clear hMN
  obtain ⟨w5, hw5⟩ : ∃ w5, w5 = w42 := ⟨_, rfl⟩
  subst hw5
  by_cases hK : K1 = 0
  · obtain ⟨hK2, HEA, HFL⟩ := HLE.out hK
    have HAI1 := hid (HAR1.out hK)
    have HAI2 := hid (HAR2.out hK2)
    have HEAC := hid HEA
    have HFLT := hid HFL
    subst hK
    subst hK2
    rw [errV_zero]
    clear HAR1 HAR2 HLE HEA HFL HJ1 HJ2
    obtain ⟨T, hT⟩ : ∃ T, T = Ed.normal s a.length b.length := ⟨_, rfl⟩
    rw [← hT] at HAI1 HAI2
    obtain ⟨TN, hTN⟩ : ∃ TN, TN = T.length := ⟨_, rfl⟩
    have HTN := hid hTN
    have hTNl : TN ≤ 8388608 := by rw [hTN]; exact HAI1.out.len
    have HSC1 : Hid (∀ w1 v1, RdH w1 v1 J1 → Calls Tryz.prog 13 #[v1, .int .i64 an, .int .i64 bn] w1 fun e w' => ∃ v', e = .returned (.tuple #[v', .nilIface]) ∧ OwnC w' w1.heap.size v' T ∧ Below w1.heap.size w1 w') := hid (fun w1 v1 hr => by
      have := script_ok (n := a.length) (m := b.length) hr (by have := HBZ1.out.2; omega) HBZ1.out.1 HAI1.out.ord (by rw [HAI1.out.scr]; have := HAI1.out.len; omega) (by rw [HAI1.out.scr]; exact HAI1.out.val)
      rw [HAI1.out.scr, HAI1.out.nrm] at this
      rw [HAN.out, HBN.out]
      exact this)
    have HSC2 : Hid (∀ w1 v1, RdH w1 v1 J2 → Calls Tryz.prog 13 #[v1, .int .i64 an, .int .i64 bn] w1 fun e w' => ∃ v', e = .returned (.tuple #[v', .nilIface]) ∧ OwnC w' w1.heap.size v' T ∧ Below w1.heap.size w1 w') := hid (fun w1 v1 hr => by
      have := script_ok (n := a.length) (m := b.length) hr (by have := HBZ2.out.2; omega) HBZ2.out.1 HAI2.out.ord (by rw [HAI2.out.scr]; have := HAI2.out.len; omega) (by rw [HAI2.out.scr]; exact HAI2.out.val)
      rw [HAI2.out.scr, HAI2.out.nrm] at this
      rw [HAN.out, HBN.out]
      exact this)
    clear hT hTN
    go_wp2_with fail
    go_loopw [9, 10] (fun vo ii wr => ∃ (k : Nat) (X : List Hk), k ≤ JN ∧ ii = .int .i64 k ∧ Hid (X = (J1.take k).flatMap (fun h => narA h c)) ∧ Hid (OwnH wr w5.heap.size vo X) ∧ Hid (Below w5.heap.size w5 wr)) (fun _ ii _ => JN - (intOf ii).toNat)
    case atStart => exact ⟨0, [], Nat.zero_le _, rfl, hid rfl, hid (OwnH.nil _ _), Below.refl _ _⟩
    case round =>
      obtain ⟨k, X, hk, rfl, HX, HO, HB⟩ := hrel
      obtain ⟨ao, co, eo⟩ := HO.out.shape
      subst eo
      have HXW := hid (HX5.out.trans (HB.out.mono HX5.out.size))
      obtain ⟨XN, hXN⟩ : ∃ XN, XN = X.length := ⟨_, rfl⟩
      have HXN := hid hXN
      rw [← hXN] at HO ⊢
      clear hXN
      by_cases hlt : k < JN
      · obtain ⟨x, hx⟩ : ∃ x, J1[k]? = some x := ⟨_, List.getElem?_eq_getElem (by have := HJN.out; omega)⟩
        have hmem := List.mem_of_getElem? hx
        obtain ⟨n1, n2, n3, n4⟩ := HEAC.out x hmem
        have HSX := hid (HBZ1.out.1 x hmem)
        have HX2 := hid (flat_more (f := fun h => narA h c) hx)
        have HXL : Hid (X.length + (narA x c).length ≤ 8388608) := hid (by
          have h1 := flat_len (L := J1) (k := k + 1) (f := fun h => narA h c)
          rw [HX2.out, List.length_append, ← HX.out, HFLT.out] at h1
          have h2 := HBZ2.out.2
          omega)
        have HNA := hid (fun w1 v1 (hr : RdW w1 v1 x.rows) => narrow_any (ctx := (c : Int)) (h := x) hr HSX.out)
        have HNB := hid (fun w1 v1 (hr : RdW w1 v1 x.rows) => narrow_any (ctx := ctx) (h := x) hr HSX.out)
        have HSM := hid (fun w1 v1 v2 (h1 : RdW w1 v1 x.rows) (h2 : RdW w1 v2 x.rows) => same_yes (h := x) h1 h2 HSX.out.1)
        rw [n1, errV_zero] at HNA
        rw [n2, n3, errV_zero] at HNB
        obtain ⟨Y, hY⟩ : ∃ Y, Y = narA x c := ⟨_, rfl⟩
        rw [← hY] at HNA n4 HXL
        have HXY : Hid (X ++ Y = (J1.take (k + 1)).flatMap (fun h => narA h c)) := hid (by rw [HX2.out, ← HX.out, hY])
        have HYN := hid n4
        obtain ⟨b1, o1, u, e1, hb1, d0, d1, d2, d3, d4, d5, hu⟩ := rdH_at (HJ51.out.stays HB.out).rd hx
        subst e1
        obtain ⟨xa, xn, xb, xm, xh, xr⟩ := x
        dsimp only at d0 d1 d2 d3 d4 d5 hu HNA HNB HSM
        obtain ⟨ua, uc, rfl⟩ := hu.shape
        unfold HkV at HNA HNB HSM
        dsimp only at HNA HNB HSM
        obtain ⟨N, hN⟩ : ∃ N, N = xr.length := ⟨_, rfl⟩
        have HNX := hid hN
        rw [← hN] at d5
        have HRU : Hid (RdW wr (.slice ua N uc) xr) := hid (by rw [hN]; exact hu)
        have HCL := hid (fun w1 (h : Below wr.heap.size wr w1) => And.intro ((h.cell (p := ⟨b1, _, none⟩) hb1).trans d0) (And.intro ((h.cell (p := ⟨b1, _, none⟩) hb1).trans d1) (And.intro ((h.cell (p := ⟨b1, _, none⟩) hb1).trans d2) (And.intro ((h.cell (p := ⟨b1, _, none⟩) hb1).trans d3) (And.intro ((h.cell (p := ⟨b1, _, none⟩) hb1).trans d4) ((h.cell (p := ⟨b1, _, none⟩) hb1).trans d5))))))
        have i1 : (0 : Int) ≤ (k : Int) := by omega
        have i2 : (k : Int) < (JN : Int) := by omega
        clear hx hmem n1 n2 n3 n4 hY hN hu hb1
        go_wp2_with fail
        refine (HNA.out _ _ HRU.out).mono ?_
        rintro e w6 ⟨v6, rfl, hO6, hb6⟩
        obtain ⟨a6, c6, e6⟩ := hO6.shape
        subst e6
        have HY6 := hid (hO6.mono HB.out.size)
        have HB6 := hid hb6
        have HX6 := hid (HXW.out.trans (hb6.mono HXW.out.size))
        clear hO6 hb6 d0 d1 d2 d3 d4 d5
        obtain ⟨YN, hYN⟩ : ∃ YN, YN = Y.length := ⟨_, rfl⟩
        rw [← hYN] at HY6 ⊢
        clear hYN
        obtain ⟨d0, d1, d2, d3, d4, d5⟩ := HCL.out _ HB6.out
        obtain ⟨k0, k1, k2, k3⟩ := HLL.out _ HX6.out
        have HBD := hid (below_drewN (Below.refl w6.heap.size w6) 1)
        go_wp2_with fail
        go_region_held3 (fun w' => w'.cell? ⟨g, 3, none⟩ = some (.int .i64 ctx) ∧ w'.cell? ⟨b1, o1 + k * 6, none⟩ = some (.int .i64 xa) ∧ w'.cell? ⟨b1, o1 + k * 6 + 1, none⟩ = some (.int .i64 xn) ∧ w'.cell? ⟨b1, o1 + k * 6 + 2, none⟩ = some (.int .i64 xb) ∧ w'.cell? ⟨b1, o1 + k * 6 + 3, none⟩ = some (.int .i64 xm) ∧ w'.cell? ⟨b1, o1 + k * 6 + 4, none⟩ = some (.string xh) ∧ w'.cell? ⟨b1, o1 + k * 6 + 5, none⟩ = some (.slice ua N uc))
          (first
            | go_keep
            | (go_split_ands
               refine ⟨?_, ?_, ?_, ?_, ?_, ?_, ?_⟩ <;> exact (hbk.cell (lt_of_cell (by assumption))).trans (by assumption)))
          (first | (go_at_call 11; refine (HNB.out _ _ ((HRU.out.below HB6.out).below HBD.out)).mono ?_; rintro e w7 ⟨v7, rfl, hO7, hbk⟩; obtain ⟨a7, c7, e7⟩ := hO7.shape; subst e7; have HO7 := hid hO7; have HB7 : Hid (Below w6.heap.size w6 w7) := hid (HBD.out.trans (hbk.mono HBD.out.size)); clear hO7))
        clear d0 d1 d2 d3 d4 d5 k0 k1 k2 k3
        obtain ⟨b3, o3, u3, e3, hb3, g0, g1, g2, g3, g4, g5, hu3⟩ := rdH_at HO7.out.rd (k := 0) (x := ⟨xa, xn, xb, xm, xh, xr⟩) rfl
        have e3 : a7 = some ⟨b3, o3, none⟩ := by simpa using e3
        subst e3
        dsimp only at g0 g1 g2 g3 g4 g5 hu3
        rw [Nat.zero_mul, Nat.add_zero] at g0 g1 g2 g3 g4 g5
        obtain ⟨ta, tc, rfl⟩ := hu3.shape
        rw [← HNX.out] at g5
        have HRT : Hid (RdW w7 (.slice ta N tc) xr) := hid (by rw [HNX.out]; exact hu3)
        have HB67 := hid (HB6.out.trans (HB7.out.mono HB6.out.size))
        have HCQ : Hid (∀ w1, Below w7.heap.size w7 w1 → (w1.cell? ⟨b3, o3, none⟩ = some (.int .i64 xa) ∧ w1.cell? ⟨b3, o3 + 1, none⟩ = some (.int .i64 xn) ∧ w1.cell? ⟨b3, o3 + 2, none⟩ = some (.int .i64 xb) ∧ w1.cell? ⟨b3, o3 + 3, none⟩ = some (.int .i64 xm) ∧ w1.cell? ⟨b3, o3 + 4, none⟩ = some (.string xh) ∧ w1.cell? ⟨b3, o3 + 5, none⟩ = some (.slice ta N tc)) ∧ w1.cell? ⟨b1, o1 + k * 6, none⟩ = some (.int .i64 xa) ∧ w1.cell? ⟨b1, o1 + k * 6 + 1, none⟩ = some (.int .i64 xn) ∧ w1.cell? ⟨b1, o1 + k * 6 + 2, none⟩ = some (.int .i64 xb) ∧ w1.cell? ⟨b1, o1 + k * 6 + 3, none⟩ = some (.int .i64 xm) ∧ w1.cell? ⟨b1, o1 + k * 6 + 4, none⟩ = some (.string xh) ∧ w1.cell? ⟨b1, o1 + k * 6 + 5, none⟩ = some (.slice ua N uc)) := hid (fun w1 h => ⟨⟨(h.cell (p := ⟨b3, _, none⟩) hb3).trans g0, (h.cell (p := ⟨b3, _, none⟩) hb3).trans g1, (h.cell (p := ⟨b3, _, none⟩) hb3).trans g2, (h.cell (p := ⟨b3, _, none⟩) hb3).trans g3, (h.cell (p := ⟨b3, _, none⟩) hb3).trans g4, (h.cell (p := ⟨b3, _, none⟩) hb3).trans g5⟩, HCL.out _ (HB67.out.trans (h.mono HB67.out.size))⟩)
        clear g0 g1 g2 g3 g4 g5 hb3 hu3
        have i3 : (0 : Int) < 1 := by omega
        have HYO := hid (HY6.out.stays HB7.out)
        have HOO := hid (HO.out.stays HB67.out)
        have HB7W := hid (HB.out.trans (HB67.out.mono HB.out.size))
        have hfit : X.length + Y.length < 1954687338260 := by have := HXL.out; omega
        go_wp2_with fail
        refine wp_region_class (C := fun w' => Below w7.heap.size w7 w') (by kernel_rfl) (by kernel_rfl) (below_drewN (Below.refl _ _) 1) ?_
        refine wpQuiet_step (fun K hK => ?_)
        go_simp
        refine ⟨_, fun _ _ => rfl, hK _ ?_⟩
        clear hK K
        refine wpQuiet_step (fun K hK => ?_)
        go_simp
        refine ⟨_, fun _ _ => rfl, hK _ ?_⟩
        clear hK K
        refine wpQuiet_step (fun K hK => ?_)
        go_simp
        refine ⟨_, fun _ _ => rfl, hK _ ?_⟩
        clear hK K
        refine wpQuiet_step (fun K hK => ?_)
        go_simp
        refine ⟨_, fun _ _ => rfl, hK _ ?_⟩
        clear hK K
        refine wpQuiet_step (fun K hK => ?_)
        go_simp
        refine ⟨_, fun _ _ => rfl, hK _ ?_⟩
        clear hK K
        refine wpQuiet_step (fun K hK => ?_)
        go_simp
        refine ⟨_, fun _ _ => rfl, hK _ ?_⟩
        clear hK K
        refine wpQuiet_step (fun K hK => ?_)
        go_simp
        refine ⟨_, fun _ _ => rfl, hK _ ?_⟩
        clear hK K
        refine wpQuiet_step (fun K hK => ?_)
        go_simp
        refine ⟨_, fun _ _ => rfl, hK _ ?_⟩
        clear hK K
        refine wpQuiet_step (fun K hK => ?_)
        go_simp
        refine ⟨_, fun _ _ => rfl, hK _ ?_⟩
        clear hK K
        refine wpQuiet_step (fun K hK => ?_)
        go_simp
        refine ⟨_, fun _ _ => rfl, hK _ ?_⟩
        clear hK K
        refine wpQuiet_step (fun K hK => ?_)
        go_simp
        refine ⟨_, fun _ _ => rfl, hK _ ?_⟩
        clear hK K
        refine wpQuiet_step (fun K hK => ?_)
        go_simp
        refine ⟨_, fun _ _ => rfl, hK _ ?_⟩
        clear hK K
        refine wpQuiet_step (fun K hK => ?_)
        go_simp
        refine ⟨_, fun _ _ => rfl, hK _ ?_⟩
        clear hK K
        refine wpQuiet_step (fun K hK => ?_)
        go_simp
        refine ⟨_, fun _ _ => rfl, hK _ ?_⟩
        clear hK K
        refine wpQuiet_step (fun K hK => ?_)
        rw [if_pos (by rfl)]
        refine ⟨.agg #[.int .i64 xa, .int .i64 xn, .int .i64 xb, .int .i64 xm, .string xh, .slice ta N tc], fun w' hw' => ?_, hK _ ?_⟩
        · obtain ⟨⟨q0, q1, q2, q3, q4, q5⟩, d0, d1, d2, d3, d4, d5⟩ := HCQ.out w' hw'
          go_simp
        clear hK K
        refine wpQuiet_step (fun K hK => ?_)
        go_simp
        refine ⟨_, fun _ _ => rfl, hK _ ?_⟩
        clear hK K
        refine wpQuiet_step (fun K hK => ?_)
        go_simp
        refine ⟨_, fun _ _ => rfl, hK _ ?_⟩
        clear hK K
        refine wpQuiet_step (fun K hK => ?_)
        go_simp
        refine ⟨_, fun _ _ => rfl, hK _ ?_⟩
        clear hK K
        refine wpQuiet_step (fun K hK => ?_)
        rw [if_pos (by rfl)]
        refine ⟨.agg #[.int .i64 xa, .int .i64 xn, .int .i64 xb, .int .i64 xm, .string xh, .slice ua N uc], fun w' hw' => ?_, hK _ ?_⟩
        · obtain ⟨⟨q0, q1, q2, q3, q4, q5⟩, d0, d1, d2, d3, d4, d5⟩ := HCQ.out w' hw'
          go_simp
        clear hK K
        refine wpQuiet_step (fun K hK => ?_)
        rw [if_pos (by rfl)]
        refine ⟨.bool true, fun w' hw' => ?_, hK _ ?_⟩
        · go_simp
          refine (HSM.out _ _ _ (HRT.out.below hw') ((HRU.out.below HB67.out).below hw')).mono ?_
          rintro r wn ⟨rfl, hbn⟩
          exact ⟨rfl, hw'.trans (hbn.mono hw'.size)⟩
        clear hK K
        refine wpQuiet_step (fun K hK => ?_)
        go_simp
        refine ⟨_, fun _ _ => rfl, hK _ ?_⟩
        clear hK K
        refine wpQuiet_step (fun K hK => ?_)
        go_simp
        refine ⟨_, fun _ _ => rfl, hK _ ?_⟩
        clear hK K
        refine wpQuiet_nil ?_
        intro w8 hb8
        have HY8 := hid (HYO.out.stays hb8)
        have HO8 := hid (HOO.out.stays hb8)
        have HB8 := hid (HB7W.out.trans (hb8.mono HB7W.out.size))
        go_wp2_with (at_builtin; refine wpList_append_hks rfl _ _ rfl w5.heap.size _ X rfl HO8.out _ Y rfl HY8.out HYN.out hfit HB8.out.size ?_; intro v9 w9 hO9 hb9; have HO9 := hid hO9; have HB9 := hid (HB8.out.trans hb9); clear hO9 hb9)
        go_roundw
        case rel => exact ⟨k + 1, X ++ Y, by omega, by go_num, HXY, HO9, HB9⟩
        case measure => simp [intOf]; omega
      · obtain rfl : k = JN := by omega
        have HE : Hid (X = J2) := hid (by rw [HX.out, List.take_of_length_le (by have := HJN.out; omega)]; exact HFLT.out)
        have HOJ : Hid (RdH wr (.slice ao XN co) J2) := hid (by rw [← HE.out]; exact HO.out.rd)
        obtain ⟨k0, k1, k2, k3⟩ := HLL.out _ HXW.out
        clear HX HO
        go_wp2_with fail
        refine (HSC1.out _ _ (HJ51.out.stays HB.out).rd).mono ?_
        rintro e w6 ⟨v6, rfl, hO6, hb6⟩
        obtain ⟨a6, c6, e6⟩ := own_shape hO6
        rw [← HTN.out] at e6
        subst e6
        have HS6 := hid (own_rd hO6)
        have HB6 := hid hb6
        have HX6 := hid (HXW.out.trans (hb6.mono HXW.out.size))
        clear hO6 hb6 k0 k1 k2 k3
        obtain ⟨k0, k1, k2, k3⟩ := HLL.out _ HX6.out
        go_wp2_with fail
        refine (HSC2.out _ _ (HOJ.out.below HB6.out)).mono ?_
        rintro e w7 ⟨v7, rfl, hO7, hb7⟩
        obtain ⟨a7, c7, e7⟩ := own_shape hO7
        rw [← HTN.out] at e7
        subst e7
        have HS7 := hid (own_rd hO7)
        have HU7 := hid (HS6.out.below hb7)
        have HB7 := hid (HB6.out.trans (hb7.mono HB6.out.size))
        clear hO7 hb7 k0 k1 k2 k3 HS6
        have zT : ((TN : Int) == (TN : Int)) = true := zeq rfl
        obtain ⟨w9, hw9⟩ : ∃ w9, w9 = wr := ⟨_, rfl⟩
        subst hw9
        go_wp2_with fail
        go_loopw [19] (fun ii wr => ∃ (i : Nat), i ≤ TN ∧ ii = .int .i64 i ∧ Hid (Below w7.heap.size w7 wr)) (fun ii _ => TN - (intOf ii).toNat)
        case atStart => exact ⟨0, Nat.zero_le _, rfl, Below.refl _ _⟩
        case round =>
          obtain ⟨i, hi, rfl, HBi⟩ := hrel
          by_cases hit : i < TN
          · obtain ⟨x, hx⟩ : ∃ x, T[i]? = some x := ⟨_, List.getElem?_eq_getElem (by have := HTN.out; omega)⟩
            obtain ⟨b1, o1, e1, hb1, d0, d1, d2, d3⟩ := rdC_at (HU7.out.below HBi.out) hx
            obtain ⟨b2, o2, e2, hb2, g0, g1, g2, g3⟩ := rdC_at (HS7.out.below HBi.out) hx
            subst e1
            subst e2
            have i1 : (0 : Int) ≤ (i : Int) := by omega
            have i2 : (i : Int) < (TN : Int) := by omega
            clear hx hb1 hb2
            go_wp2_with fail
            go_quiet (fail)
            go_wp2_with fail
            go_roundw
            case rel => exact ⟨i + 1, by omega, by go_num, hid (below_drewN HBi.out _)⟩
            case measure => simp [intOf]; omega
          · obtain rfl : i = TN := by omega
            have HB8 := hid (HB7.out.trans (HBi.out.mono HB7.out.size))
            have HB9 := hid (HB.out.trans (HB8.out.mono HB.out.size))
            go_wp2_with fail
            refine (sameAll_yes (HOJ.out.below HB8.out) (HJ42.out.stays HB9.out).rd (by have := HBZ2.out.2; omega) HBZ2.out.1).mono ?_
            rintro e w10 ⟨rfl, hb10⟩
            have HB10 := hid (HB9.out.trans (hb10.mono HB9.out.size))
            have HBA10 := hid (HB42.out.trans (HB10.out.mono HB42.out.size))
            clear hb10
            go_wp2_with fail
            refine (works_any _ (HG.out.below HBA10.out)).mono ?_
            rintro e w11 ⟨rfl, hb11⟩
            have HB11 := hid (HBA10.out.trans (hb11.mono HBA10.out.size))
            clear hb11
            go_wp2_with fail
            go_ret
            exact ⟨rfl, HB11.out⟩
  · rw [errV_pos hK]
    clear HAR1 HAR2 HLE HJ1 HJ2 hK
    generalize errV K2 = EV
    go_wp2_with fail
    refine (works_any _ (HG.out.below HB42.out)).mono ?_
    rintro e w11 ⟨rfl, hb11⟩
    have HB11 := hid (HB42.out.trans (hb11.mono HB42.out.size))
    clear hb11
    go_wp2_with fail
    go_ret
    exact ⟨rfl, HB11.out⟩
end Go.Proofs.YtnamioihapnefabGreatDoor
