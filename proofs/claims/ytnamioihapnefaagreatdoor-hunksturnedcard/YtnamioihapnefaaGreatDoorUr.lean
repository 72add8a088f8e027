/-
  The walk of the law HunksTurned (made by wip/genur.py).
-/
import Derived.Test.YtnamioihapnefaaGreatDoorUq
import Derived.Test.YtnamioihapnefaaGreatDoorUm
import Derived.Test.YtnamioihapnefaaGreatDoorGrKt
import Derived.Test.YtnamioihapnefaaGreatDoorGrJw
import Derived.Test.YtnamioihapnefaaGreatDoorGrKf
import Derived.Test.YtnamioihapnefaaGreatDoorKr
namespace Go.Proofs.YtnamioihapnefaaGreatDoor
open Go.RowKit
open Hu (Rw Hk)
open Ed (Ch Pr)

theorem revH_sz2 {h : Hk} (hz : SzH h) : SzH (Hu.revH h) := by
  obtain ⟨h1, h2, h3⟩ := hz
  refine ⟨?_, fun r hr => ?_, h3⟩
  · show (Hu.srtD (h.rows.map Hu.flp) []).length < _
    rw [Hu.srtD_len, flp_len]
    exact h1
  · have hr' : r ∈ Hu.srtD (h.rows.map Hu.flp) [] := hr
    rcases Hu.srtD_mem _ _ _ hr' with h | h
    · cases h
    · obtain ⟨q, hq, rfl⟩ := List.mem_map.1 h
      exact h2 q hq
theorem ba_diff {x y : ByteArray} (h : x ≠ y) : (x.toList == y.toList) = false := by
  rw [beq_eq_false_iff_ne]
  intro e
  rw [ByteArray.toList_eq, ByteArray.toList_eq] at e
  refine h ?_
  cases x
  cases y
  exact congrArg ByteArray.mk (Array.toList_inj.1 e)
theorem wf_inv {s : List Ch} (h : ∀ c ∈ s, WfC c) : ∀ c ∈ s.map Ed.inv, WfC c := by
  intro c hc
  obtain ⟨d, hd, rfl⟩ := List.mem_map.1 hc
  have := h d hd
  unfold WfC at this ⊢
  unfold Ed.inv
  exact ⟨this.2.2.1, this.2.2.2, this.1, this.2.1⟩
theorem vld_m {h : Hk} (hv : Hu.vld h = true) : h.m = (Hu.fres h.rows).length := by
  obtain ⟨_, _, _, _, _, h6, _⟩ := Hu.vld_parts hv
  exact h6
set_option maxHeartbeats 8000000 in
set_option maxRecDepth 100000 in
theorem hunksTurned_walk (v0 : Value) (s : List Ch) (v1 : Value) (a : List ByteArray) (v2 : Value) (b : List ByteArray) (ctx : Int) (w : World) (hr : RdC w v0 s) (hwf : ∀ c ∈ s, WfC c) (hl : s.length ≤ 4398046510976) (hsh : ArgS v0)
    (ha : RdT w v1 a) (hsa : ∀ c ∈ a, SzS c) (hla : a.length ≤ 8796093021952) (hsA : ArgS v1) (hb : RdT w v2 b) (hsb : ∀ c ∈ b, SzS c) (hlb : b.length ≤ 8796093021952) (hsB : ArgS v2) (hg : ErrVar w) :
    Calls Tryz.prog 7 #[.agg #[v0, v1, v2, .int .i64 ctx]] w fun e w' => e = .returned (.bool true) ∧ Below w.heap.size w w' := by
  have hsa : ∀ x ∈ a, x.size ≤ maxLen := hsa
  have hsb : ∀ x ∈ b, x.size ≤ maxLen := hsb
  have HR := hid hr
  have HA := hid ha
  have HBb := hid hb
  have HG := hid hg
  have HWF := hid hwf
  have HSA := hid hsa
  have HSB := hid hsb
  have HSH := hid hsh
  have HSHA := hid hsA
  have HSHB := hid hsB
  obtain ⟨a0, c0, rfl⟩ := hr.shape
  obtain ⟨a1, c1, rfl⟩ := ha.shape
  obtain ⟨a2, c2, rfl⟩ := hb.shape
  have HBZ1 := hid (bldA_sz (s := s) (ctx := ctx) hsa hsb)
  clear hr hwf hg hsh ha hsa hsA hb hsb hsB
  have HT1 := hid (fun w1 (hb : Below w.heap.size w w1) => changes_any (HR.out.below hb) HSH.out hl)
  have HT2 := hid (fun w1 (hb : Below w.heap.size w w1) => texts_any (HA.out.below hb) HSHA.out (by omega))
  have HT3 := hid (fun w1 (hb : Below w.heap.size w w1) => texts_any (HBb.out.below hb) HSHB.out (by omega))
  have HIV := hid (fun w1 v1 (h1 : RdC w1 v1 s) => invert_any h1 hl)
  have HJ1 := hid (fun w1 v1 v2 v3 (h1 : RdC w1 v1 s) (h2 : RdT w1 v2 a) (h3 : RdT w1 v3 b) => build_any (ctx := ctx) h1 HWF.out (by omega) h2 h3 (by omega) (by omega) HSA.out HSB.out)
  have HJ2 := hid (fun w1 v1 v2 v3 (h1 : RdC w1 v1 (s.map Ed.inv)) (h2 : RdT w1 v2 b) (h3 : RdT w1 v3 a) => build_any (ctx := ctx) h1 (wf_inv HWF.out) (by rw [List.length_map]; omega) h2 h3 (by omega) (by omega) HSB.out HSA.out)
  have HAR1 := hid (fun (h : bldN s a b ctx = 0) => bld_ar h)
  have HVN := hid (fun (h : bldN s a b ctx = 0) => bldN_zero h)
  have HTU := hid (fun (h : bldN s a b ctx = 0) (hE : ∀ pr ∈ Ed.prs s a.length 0 0, Hu.eqS a b pr) => built_turn h hE)
  have HPA := hid (fun w1 (hb : Below w.heap.size w w1) => refPairs_all (n := a.length) (m := b.length) (HR.out.below hb) HWF.out (by omega))
  have HLV := hid (fun w1 (hb : Below w.heap.size w w1) => rLinesValid_any (HBb.out.below hb) (by omega) HSB.out)
  generalize bldN s a b ctx = K1 at HJ1 HAR1 HVN HTU
  generalize bldA s a b ctx = J1 at HJ1 HBZ1 HAR1 HTU
  generalize bldN (s.map Ed.inv) b a ctx = K2 at HJ2 HTU
  generalize bldA (s.map Ed.inv) b a ctx = J2 at HJ2 HTU
  have hbA : Below w.heap.size w (w.alloc (.cells #[.slice a0 s.length c0, .slice a1 a.length c1, .slice a2 b.length c2, .int .i64 ctx] 40)) := (Below.refl _ _).alloc (Nat.le_refl _) _
  have hgA := heap_alloc_new w (.cells #[.slice a0 s.length c0, .slice a1 a.length c1, .slice a2 b.length c2, .int .i64 ctx] 40)
  obtain ⟨sn, hsn⟩ : ∃ sn, sn = s.length := ⟨_, rfl⟩
  obtain ⟨an, han⟩ : ∃ an, an = a.length := ⟨_, rfl⟩
  obtain ⟨bn, hbn⟩ : ∃ bn, bn = b.length := ⟨_, rfl⟩
  have HSN := hid hsn
  have HSN2 : Hid (sn = (s.map Ed.inv).length) := hid (by rw [List.length_map]; exact hsn)
  rw [← hsn, ← han, ← hbn] at hbA hgA ⊢
  rw [← hsn] at HT1 HPA
  rw [← han] at HT2 HPA
  rw [← hbn] at HT3 HPA HLV
  have HAN := hid han
  have HBN := hid hbn
  have HJ2N0 := hid (rfl : J2.length = J2.length)
  clear hsn han hbn HJ2N0
  go_enter Tryz.func7, Tryz.ntmps7
  go_wp2_with fail
  generalize (w.alloc (.cells #[.slice a0 sn c0, .slice a1 an c1, .slice a2 bn c2, .int .i64 ctx] 40)) = w0 at hbA hgA ⊢
  have k0 : w0.cell? ⟨w.heap.size, 0, none⟩ = some (.slice a0 sn c0) := cell_of_blk hgA 0
  have k1 : w0.cell? ⟨w.heap.size, 1, none⟩ = some (.slice a1 an c1) := cell_of_blk hgA 1
  have k2 : w0.cell? ⟨w.heap.size, 2, none⟩ = some (.slice a2 bn c2) := cell_of_blk hgA 2
  have k3 : w0.cell? ⟨w.heap.size, 3, none⟩ = some (.int .i64 ctx) := cell_of_blk hgA 3
  have HBA := hid hbA
  obtain ⟨g, hg⟩ : ∃ g, g = w.heap.size := ⟨_, rfl⟩
  rw [← hg] at k0 k1 k2 k3 ⊢
  clear hg hgA hbA
  have HL0 := hid (And.intro k0 (And.intro k1 (And.intro k2 k3)))
  have HGW : Hid (g < w0.heap.size) := hid (lt_of_cell k0)
  have HLL : Hid (∀ w1, Below w0.heap.size w0 w1 → w1.cell? ⟨g, 0, none⟩ = some (.slice a0 sn c0) ∧ w1.cell? ⟨g, 1, none⟩ = some (.slice a1 an c1) ∧ w1.cell? ⟨g, 2, none⟩ = some (.slice a2 bn c2) ∧ w1.cell? ⟨g, 3, none⟩ = some (.int .i64 ctx)) := hid (fun w1 h => ⟨(h.cell (p := ⟨g, _, none⟩) HGW.out).trans HL0.out.1, (h.cell (p := ⟨g, _, none⟩) HGW.out).trans HL0.out.2.1, (h.cell (p := ⟨g, _, none⟩) HGW.out).trans HL0.out.2.2.1, (h.cell (p := ⟨g, _, none⟩) HGW.out).trans HL0.out.2.2.2⟩)
  have HBX1 := hid (below_drewN (Below.refl w0.heap.size w0) 1)
  have HBY1 := hid (below_drewN HBA.out 1)
  go_region_held3 (fun w' => w'.cell? ⟨g, 0, none⟩ = some (.slice a0 sn c0) ∧ w'.cell? ⟨g, 1, none⟩ = some (.slice a1 an c1) ∧ w'.cell? ⟨g, 2, none⟩ = some (.slice a2 bn c2) ∧ w'.cell? ⟨g, 3, none⟩ = some (.int .i64 ctx))
    (first
      | go_keep
      | (go_split_ands
         refine ⟨?_, ?_, ?_, ?_⟩ <;> exact (hbk.cell (lt_of_cell (by assumption))).trans (by assumption)))
    (first
      | (go_at_call 19; refine (HJ1.out _ _ _ _ HM3.out HN3.out HO3.out).mono ?_; rintro e w41 ⟨v4, rfl, hO4, hbk⟩; obtain ⟨a41, c41, e4⟩ := hO4.shape; subst e4; have HJ41 := hid hO4; have HB41 : Hid (Below w.heap.size w w41) := hid (HB3.out.trans (hbk.mono HB3.out.size)); have HC41 : Hid (Below w0.heap.size w0 w41) := hid (HC3.out.trans (hbk.mono HC3.out.size)); clear hO4)
      | (go_at_call 18; have hB2 := HB2.out; refine (HT3.out _ hB2).mono ?_; rintro e w3 ⟨v3, rfl, hO3, hbk⟩; obtain ⟨aj, cj, ej⟩ := own_shape hO3; rw [← HBN.out] at ej; subst ej; have HO3 := hid (own_rd hO3); have HN3 := hid (HN2.out.below hbk); have HM3 := hid (HM2.out.below hbk); have HB3 : Hid (Below w.heap.size w w3) := hid (HB2.out.trans (hbk.mono HB2.out.size)); have HC3 : Hid (Below w0.heap.size w0 w3) := hid (HC2.out.trans (hbk.mono HC2.out.size)); clear hO3 hB2)
      | (go_at_call 18; have hB1 := HB1.out; refine (HT2.out _ hB1).mono ?_; rintro e w2 ⟨v2, rfl, hO2, hbk⟩; obtain ⟨an', cn, en⟩ := own_shape hO2; rw [← HAN.out] at en; subst en; have HN2 := hid (own_rd hO2); have HM2 := hid (HM1.out.below hbk); have HB2 : Hid (Below w.heap.size w w2) := hid (hB1.trans (hbk.mono hB1.size)); have HC2 : Hid (Below w0.heap.size w0 w2) := hid (HC1.out.trans (hbk.mono HC1.out.size)); clear hO2 hB1)
      | (go_at_call 17; refine (HT1.out _ HBY1.out).mono ?_; rintro e w1 ⟨v1, rfl, hO1, hbk⟩; obtain ⟨am, cm, em⟩ := own_shape hO1; rw [← HSN.out] at em; subst em; have HM1 := hid (own_rd hO1); have HB1 : Hid (Below w.heap.size w w1) := hid (HBY1.out.trans (hbk.mono HBY1.out.size)); have HC1 : Hid (Below w0.heap.size w0 w1) := hid (HBX1.out.trans (hbk.mono HBX1.out.size)); clear hO1))
  clear HC1 HC2 HC3 HB1 HB2 HB3 HM1 HM2 HM3 HN2 HN3 HO3 HBX1 HBY1
  clear k0 k1 k2 k3
  obtain ⟨JN, hJN⟩ : ∃ JN, JN = J1.length := ⟨_, rfl⟩
  have HJN := hid hJN
  have hJNl : JN ≤ 8388608 := by rw [hJN]; exact HBZ1.out.2
  rw [← hJN] at HJ41 ⊢
  clear hJN
  by_cases hK : K1 = 0
  · obtain ⟨_, hva, hvb, hvn, _⟩ := HVN.out hK
    have HAI1 := hid (HAR1.out hK)
    have HTU2 := hid (HTU.out hK)
    have hPS : prsA s an bn = Ed.prs s a.length 0 0 := by unfold prsA; rw [HAN.out, HBN.out, if_pos hvn]
    rw [hPS] at HPA
    have hPI : ∀ p ∈ Ed.prs s a.length 0 0, 0 ≤ p.1 ∧ p.1 < a.length ∧ 0 ≤ p.2 ∧ p.2 < b.length := by
      have hV := Ed.validN_zero.1 hvn
      intro p hp
      have := (Ed.rise_iff.1 hV.rise).2 p hp
      unfold Ed.inB at this
      omega
    have hPL : (Ed.prs s a.length 0 0).length ≤ 4194304 := by
      have hV := Ed.validN_zero.1 hvn
      have h2 := Ed.cnt_iff.1 hV.1
      have := rise_len hV.rise (by omega)
      omega
    rw [hvb] at HLV
    subst hK
    rw [errV_zero]
    obtain ⟨PS, hPSe⟩ : ∃ PS, PS = Ed.prs s a.length 0 0 := ⟨_, rfl⟩
    rw [← hPSe] at HPA hPI hPL HTU2
    have HPI := hid hPI
    obtain ⟨PN, hPN⟩ : ∃ PN, PN = PS.length := ⟨_, rfl⟩
    have HPN := hid hPN
    rw [← hPN] at hPL
    generalize ((Ed.validN s (an : Int) (bn : Int) : Nat) : Int) = VN at HPA
    clear HAR1 HVN HTU hPS hPI hva hvb hvn hPSe hPN HJ1
    obtain ⟨k0, k1, k2, k3⟩ := HLL.out _ HC41.out
    go_wp2_with fail
    refine (HPA.out _ HB41.out).mono ?_
    rintro e w4 ⟨v4, rfl, hO4, hb4⟩
    obtain ⟨a4, c4, e4⟩ := own_shape hO4
    rw [← HPN.out] at e4
    subst e4
    have HP4 := hid (own_rd hO4)
    have HB4 := hid (HB41.out.trans (hb4.mono HB41.out.size))
    have HC4 := hid (HC41.out.trans (hb4.mono HC41.out.size))
    have HJ4 := hid (HJ41.out.stays hb4)
    clear hO4 hb4 HPA k0 k1 k2 k3 HB41 HC41 HJ41
    go_wp2_with fail
    go_loopw [7] (fun ii wr => ∃ (k : Nat), k ≤ PN ∧ ii = .int .i64 k ∧ Hid (∀ pr ∈ PS.take k, Hu.eqS a b pr) ∧ Hid (Below w4.heap.size w4 wr)) (fun ii _ => PN - (intOf ii).toNat)
    case atStart => exact ⟨0, Nat.zero_le _, rfl, hid (fun pr h => by cases h), Below.refl _ _⟩
    case round =>
      obtain ⟨k, hk, rfl, HK, HB⟩ := hrel
      have HBW := hid (HB4.out.trans (HB.out.mono HB4.out.size))
      have HCW := hid (HC4.out.trans (HB.out.mono HC4.out.size))
      by_cases hlt : k < PN
      · obtain ⟨p, hp⟩ : ∃ p, PS[k]? = some p := ⟨_, List.getElem?_eq_getElem (by have := HPN.out; omega)⟩
        obtain ⟨p1, p2, p3, p4⟩ := HPI.out p (List.mem_of_getElem? hp)
        obtain ⟨b1, o1, e1, hb1, d0, d1⟩ := rdP_at HP4.out hp
        subst e1
        replace d0 := (HB.out.cell (p := ⟨b1, _, none⟩) hb1).trans d0
        replace d1 := (HB.out.cell (p := ⟨b1, _, none⟩) hb1).trans d1
        have HTK : Hid (PS.take (k + 1) = PS.take k ++ [p]) := hid (by rw [List.take_add_one, hp]; rfl)
        obtain ⟨pa, pb⟩ := p
        dsimp only at p1 p2 p3 p4 d0 d1
        obtain ⟨PA, rfl⟩ := Int.eq_ofNat_of_zero_le p1
        obtain ⟨PB, rfl⟩ := Int.eq_ofNat_of_zero_le p3
        obtain ⟨x, hx, gx, mx⟩ := getD_mem (l := a) (k := PA) (by omega)
        obtain ⟨y, hy, gy, my⟩ := getD_mem (l := b) (k := PB) (by omega)
        obtain ⟨ba, oa, ea, _, f0⟩ := rdT_at (HA.out.below HBW.out) hx
        obtain ⟨bb, ob, eb, _, f1⟩ := rdT_at (HBb.out.below HBW.out) hy
        subst ea eb
        have HQ : Hid (Hu.eqS a b ((PA : Int), (PB : Int)) ↔ x = y) := hid (by
          unfold Hu.eqS
          show a.getD (Int.toNat PA) .empty = b.getD (Int.toNat PB) .empty ↔ _
          rw [Int.toNat_natCast, Int.toNat_natCast, gx, gy])
        have i1 : (0 : Int) ≤ (k : Int) := by omega
        have i2 : (k : Int) < (PN : Int) := by omega
        have i4 : (PA : Int) < (an : Int) := by have := HAN.out; omega
        have i5 : (PB : Int) < (bn : Int) := by have := HBN.out; omega
        obtain ⟨k0, k1, k2, k3⟩ := HLL.out _ HCW.out
        clear hx hy gx gy mx my hp hb1 p1 p2 p3 p4
        by_cases hxy : x = y
        · subst hxy
          have z : (x == x) = true := ba_same x
          have HK2 : Hid (∀ pr ∈ PS.take (k + 1), Hu.eqS a b pr) := hid (fun pr h => by
            rw [HTK.out] at h
            rcases List.mem_append.1 h with h | h
            · exact HK.out pr h
            · simp at h; subst h; exact HQ.out.2 rfl)
          clear HQ
          go_wp2_with fail
          go_quiet (fail)
          go_wp2_with fail
          go_roundw
          case rel => exact ⟨k + 1, by omega, by go_num, HK2, hid (below_drewN HB.out _)⟩
          case measure => simp [intOf]; omega
        · have z : (x.toList == y.toList) = false := ba_diff hxy
          clear HQ hxy
          go_wp2_with fail
          go_quiet (fail)
          have HBQ := hid (below_drewN HBW.out nq)
          go_wp2_with fail
          refine (works_any _ (HG.out.below HBQ.out)).mono ?_
          rintro e w11 ⟨rfl, hb11⟩
          have HB11 := hid (Below.trans HBQ.out (hb11.mono (Below.size HBQ.out)))
          clear hb11
          go_wp2_with fail
          go_ret
          exact ⟨rfl, HB11.out⟩
      · obtain rfl : k = PN := by omega
        obtain ⟨hK2, hMP, hRR⟩ := HTU2.out (fun pr h => HK.out pr (by rw [List.take_of_length_le (by have := HPN.out; omega)]; exact h))
        have HMP := hid hMP
        have HRR := hid hRR
        have HJ2N : Hid (JN = J2.length) := hid (by rw [← hMP, List.length_map]; exact HJN.out)
        subst hK2
        rw [errV_zero] at HJ2
        have HJ5 := hid (HJ4.out.stays HB.out)
        obtain ⟨w5, hw5⟩ : ∃ w5, w5 = wr := ⟨_, rfl⟩
        subst hw5
        clear hMP hRR HTU2 HK HB HJ4 HB4 HC4 HP4
        obtain ⟨k0, k1, k2, k3⟩ := HLL.out _ HCW.out
        go_wp2_with fail
        have HBX1 := hid (below_drewN (Below.refl w5.heap.size w5) 1)
        have HBY1 := hid (below_drewN HBW.out 1)
        go_region_held3 (fun w' => w'.cell? ⟨g, 0, none⟩ = some (.slice a0 sn c0) ∧ w'.cell? ⟨g, 1, none⟩ = some (.slice a1 an c1) ∧ w'.cell? ⟨g, 2, none⟩ = some (.slice a2 bn c2) ∧ w'.cell? ⟨g, 3, none⟩ = some (.int .i64 ctx))
          (first
              | go_keep
              | (go_split_ands
                 refine ⟨?_, ?_, ?_, ?_⟩ <;> exact (hbk.cell (lt_of_cell (by assumption))).trans (by assumption)))
          (first
            | (go_at_call 19; refine (HJ2.out _ _ _ _ HM4.out HN4.out HO4.out).mono ?_; rintro e w51 ⟨v5, rfl, hO5, hbk⟩; obtain ⟨a51, c51, e5⟩ := hO5.shape; rw [← HJ2N.out] at e5; subst e5; have HJ51 := hid hO5; have HB51 : Hid (Below w.heap.size w w51) := hid (HB4.out.trans (hbk.mono HB4.out.size)); have HC51 : Hid (Below w5.heap.size w5 w51) := hid (HC4.out.trans (hbk.mono HC4.out.size)); clear hO5)
            | (go_at_call 18; have hB3 := HB3.out; refine (HT2.out _ hB3).mono ?_; rintro e w4 ⟨v4, rfl, hO4, hbk⟩; obtain ⟨aj, cj, ej⟩ := own_shape hO4; rw [← HAN.out] at ej; subst ej; have HO4 := hid (own_rd hO4); have HN4 := hid (HN3.out.below hbk); have HM4 := hid (HM3.out.below hbk); have HB4 : Hid (Below w.heap.size w w4) := hid (HB3.out.trans (hbk.mono HB3.out.size)); have HC4 : Hid (Below w5.heap.size w5 w4) := hid (HC3.out.trans (hbk.mono HC3.out.size)); clear hO4 hB3)
            | (go_at_call 18; have hB2 := HB2.out; refine (HT3.out _ hB2).mono ?_; rintro e w3 ⟨v3, rfl, hO3, hbk⟩; obtain ⟨an', cn, en⟩ := own_shape hO3; rw [← HBN.out] at en; subst en; have HN3 := hid (own_rd hO3); have HM3 := hid (HM2.out.below hbk); have HB3 : Hid (Below w.heap.size w w3) := hid (hB2.trans (hbk.mono hB2.size)); have HC3 : Hid (Below w5.heap.size w5 w3) := hid (HC2.out.trans (hbk.mono HC2.out.size)); clear hO3 hB2)
            | (go_at_call 33; refine (HIV.out _ _ HM1.out).mono ?_; rintro e w2 ⟨v2, rfl, hO2, hbk⟩; obtain ⟨ai, ci, ei⟩ := own_shape hO2; rw [← HSN2.out] at ei; subst ei; have HM2 := hid (own_rd hO2); have HB2 : Hid (Below w.heap.size w w2) := hid (HB1.out.trans (hbk.mono HB1.out.size)); have HC2 : Hid (Below w5.heap.size w5 w2) := hid (HC1.out.trans (hbk.mono HC1.out.size)); clear hO2)
            | (go_at_call 17; refine (HT1.out _ HBY1.out).mono ?_; rintro e w1 ⟨v1, rfl, hO1, hbk⟩; obtain ⟨am, cm, em⟩ := own_shape hO1; rw [← HSN.out] at em; subst em; have HM1 := hid (own_rd hO1); have HB1 : Hid (Below w.heap.size w w1) := hid (HBY1.out.trans (hbk.mono HBY1.out.size)); have HC1 : Hid (Below w5.heap.size w5 w1) := hid (HBX1.out.trans (hbk.mono HBX1.out.size)); clear hO1))
        clear HC1 HC2 HC3 HC4 HB1 HB2 HB3 HB4 HM1 HM2 HM3 HM4 HN3 HN4 HO4 HBX1 HBY1
        clear k0 k1 k2 k3
        have HX51 := hid (HCW.out.trans (HC51.out.mono HCW.out.size))
        have HJ6 := hid (HJ5.out.stays HC51.out)
        have zJ : ((JN : Int) == (JN : Int)) = true := zeq rfl
        clear HJ5 HJ2
        go_wp2_with fail
        go_loopw [10] (fun ii wr => ∃ (i : Nat), i ≤ JN ∧ ii = .int .i64 i ∧ Hid (Below w51.heap.size w51 wr)) (fun ii _ => JN - (intOf ii).toNat)
        case atStart => exact ⟨0, Nat.zero_le _, rfl, Below.refl _ _⟩
        case round =>
          obtain ⟨i, hi, rfl, HB⟩ := hrel
          have HBV := hid (HB51.out.trans (HB.out.mono HB51.out.size))
          have HXV := hid (HX51.out.trans (HB.out.mono HX51.out.size))
          by_cases hlt : i < JN
          · obtain ⟨x, hx⟩ : ∃ x, J1[i]? = some x := ⟨_, List.getElem?_eq_getElem (by have := HJN.out; omega)⟩
            have hy : J2[i]? = some (Hu.revH x) := by rw [← HMP.out, List.getElem?_map, hx]; rfl
            have hmem := List.mem_of_getElem? hx
            have HSX := hid (HBZ1.out.1 x hmem)
            have hrr := HRR.out x hmem
            have hvx : Hu.vld x = true := by
              have := HAI1.out.ord
              unfold Hu.orderN at this
              split at this
              · rename_i hall; exact List.all_eq_true.1 hall x hmem
              · cases this
            have hmm := vld_m hvx
            obtain ⟨b1, o1, u, e1, hb1, d0, d1, d2, d3, d4, d5, hu⟩ := rdH_at (HJ6.out.stays HB.out).rd hx
            obtain ⟨b2, o2, u2, e2, hb2, g0, g1, g2, g3, g4, g5, hu2⟩ := rdH_at (HJ51.out.stays HB.out).rd hy
            have HAU := hid (ownH_arg (HJ6.out.stays HB.out) b1 o1 _ _ (by rw [e1]) i (by have := HJN.out; omega) u d5)
            subst e1
            subst e2
            have HRV := hid (fun w1 v1 (hr : RdW w1 v1 x.rows) (ha : ArgS v1) => reverse_any (h := x) hr ha HSX.out.1)
            have HRW := hid (fun w1 v1 (hr : RdW w1 v1 (Hu.revH x).rows) (ha : ArgS v1) => reverse_any (h := Hu.revH x) hr ha (revH_sz2 HSX.out).1)
            rw [hrr] at HRW
            have HSM := hid (fun w1 v1 v2 (h1 : RdW w1 v1 x.rows) (h2 : RdW w1 v2 x.rows) => same_yes (h := x) h1 h2 HSX.out.1)
            have HSR := hid (fun w1 v1 v2 (h1 : RdW w1 v1 (Hu.revH x).rows) (h2 : RdW w1 v2 (Hu.revH x).rows) => same_yes (h := Hu.revH x) h1 h2 (revH_sz2 HSX.out).1)
            have HSD := hid (fun w1 v1 (hr : RdW w1 v1 x.rows) => sides_any (h := x) hr HSX.out.1)
            obtain ⟨RV, hRV⟩ : ∃ RV, RV = Hu.revH x := ⟨_, rfl⟩
            rw [← hRV] at HRV HRW HSR g0 g1 g2 g3 g4 hu2
            obtain ⟨xa, xn, xb, xm, xh, xr⟩ := x
            obtain ⟨ra, rn, rb, rm, rh, rr⟩ := RV
            dsimp only at d0 d1 d2 d3 d4 d5 hu g0 g1 g2 g3 g4 g5 hu2 HRV HRW HSM HSR HSD hmm
            obtain ⟨ua, uc, rfl⟩ := hu.shape
            obtain ⟨ta, tc, rfl⟩ := hu2.shape
            unfold HkV at HRV HRW HSM HSR HSD
            dsimp only at HRV HRW HSM HSR HSD
            obtain ⟨XN, hXN⟩ : ∃ XN, XN = xr.length := ⟨_, rfl⟩
            obtain ⟨RN, hRN⟩ : ∃ RN, RN = rr.length := ⟨_, rfl⟩
            have HNX := hid hXN
            have HNR := hid hRN
            rw [← hXN] at d5
            rw [← hRN] at g5
            have HRU : Hid (RdW wr (.slice ua XN uc) xr) := hid (by rw [hXN]; exact hu)
            have HRT : Hid (RdW wr (.slice ta RN tc) rr) := hid (by rw [hRN]; exact hu2)
            rw [← hXN] at HAU
            have HCL := hid (fun w1 (h : Below wr.heap.size wr w1) => And.intro ((h.cell (p := ⟨b1, _, none⟩) hb1).trans d0) (And.intro ((h.cell (p := ⟨b1, _, none⟩) hb1).trans d1) (And.intro ((h.cell (p := ⟨b1, _, none⟩) hb1).trans d2) (And.intro ((h.cell (p := ⟨b1, _, none⟩) hb1).trans d3) (And.intro ((h.cell (p := ⟨b1, _, none⟩) hb1).trans d4) ((h.cell (p := ⟨b1, _, none⟩) hb1).trans d5))))))
            obtain ⟨FN, hFN⟩ : ∃ FN, FN = (Hu.fres xr).length := ⟨_, rfl⟩
            obtain ⟨ON, hON⟩ : ∃ ON, ON = (Hu.olds xr).length := ⟨_, rfl⟩
            have HFN := hid hFN
            have HON := hid hON
            have hmF : xm = (FN : Int) := by rw [hmm, hFN]
            subst hmF
            have zF : ((FN : Int) == (FN : Int)) = true := zeq rfl
            have HBD := hid (below_drewN (Below.refl wr.heap.size wr) 1)
            have i1 : (0 : Int) ≤ (i : Int) := by omega
            have i2 : (i : Int) < (JN : Int) := by omega
            clear hx hy hmem hrr hvx hmm hRV hu hu2 hb1 hb2 hXN hRN hFN hON
            go_wp2_with fail
            go_region_held3 (fun w' => w'.cell? ⟨b1, o1 + i * 6, none⟩ = some (.int .i64 xa) ∧ w'.cell? ⟨b1, o1 + i * 6 + 1, none⟩ = some (.int .i64 xn) ∧ w'.cell? ⟨b1, o1 + i * 6 + 2, none⟩ = some (.int .i64 xb) ∧ w'.cell? ⟨b1, o1 + i * 6 + 3, none⟩ = some (.int .i64 (FN : Int)) ∧ w'.cell? ⟨b1, o1 + i * 6 + 4, none⟩ = some (.string xh) ∧ w'.cell? ⟨b1, o1 + i * 6 + 5, none⟩ = some (.slice ua XN uc) ∧ w'.cell? ⟨b2, o2 + i * 6, none⟩ = some (.int .i64 ra) ∧ w'.cell? ⟨b2, o2 + i * 6 + 1, none⟩ = some (.int .i64 rn) ∧ w'.cell? ⟨b2, o2 + i * 6 + 2, none⟩ = some (.int .i64 rb) ∧ w'.cell? ⟨b2, o2 + i * 6 + 3, none⟩ = some (.int .i64 rm) ∧ w'.cell? ⟨b2, o2 + i * 6 + 4, none⟩ = some (.string rh) ∧ w'.cell? ⟨b2, o2 + i * 6 + 5, none⟩ = some (.slice ta RN tc))
              (first
                | go_keep
                | (go_split_ands
                   refine ⟨?_, ?_, ?_, ?_, ?_, ?_, ?_, ?_, ?_, ?_, ?_, ?_⟩ <;> exact (hbk.cell (lt_of_cell (by assumption))).trans (by assumption)))
              (first
                | (go_at_call 27; refine (HSM.out _ _ _ HD4.out (HRU.out.below HY4.out)).mono ?_; rintro e w15 ⟨rfl, hbk⟩; have HY5 : Hid (Below wr.heap.size wr w15) := hid (HY4.out.trans (hbk.mono HY4.out.size)))
                | (go_at_call 28; refine (HRW.out _ _ HD3.out HAD.out).mono ?_; rintro e w14 ⟨v14, rfl, hO14, hbk⟩; obtain ⟨a14, c14, e14⟩ := own_shape hO14; rw [← HNX.out] at e14; subst e14; have HD4 := hid (own_rd hO14); have HY4 : Hid (Below wr.heap.size wr w14) := hid (HY3.out.trans (hbk.mono HY3.out.size)); clear hO14)
                | (go_at_call 28; refine (HRV.out _ _ (HRU.out.below HY2.out) HAU.out).mono ?_; rintro e w13 ⟨v13, rfl, hO13, hbk⟩; have HAD := hid (own_arg hO13); obtain ⟨a13, c13, e13⟩ := own_shape hO13; rw [← HNR.out] at e13; subst e13; have HD3 := hid (own_rd hO13); have HY3 : Hid (Below wr.heap.size wr w13) := hid (HY2.out.trans (hbk.mono HY2.out.size)); clear hO13)
                | (go_at_call 27; refine (HSR.out _ _ _ HD1.out (HRT.out.below HY1.out)).mono ?_; rintro e w12 ⟨rfl, hbk⟩; have HY2 : Hid (Below wr.heap.size wr w12) := hid (HY1.out.trans (hbk.mono HY1.out.size)))
                | (go_at_call 28; refine (HRV.out _ _ (HRU.out.below HBD.out) HAU.out).mono ?_; rintro e w11 ⟨v11, rfl, hO11, hbk⟩; obtain ⟨a11, c11, e11⟩ := own_shape hO11; rw [← HNR.out] at e11; subst e11; have HD1 := hid (own_rd hO11); have HY1 : Hid (Below wr.heap.size wr w11) := hid (HBD.out.trans (hbk.mono HBD.out.size)); clear hO11))
            clear d0 d1 d2 d3 d4 d5 g0 g1 g2 g3 g4 g5 HY1 HY2 HY3 HY4 HD1 HD3 HD4 HAD
            obtain ⟨d0, d1, d2, d3, d4, d5⟩ := HCL.out _ HY5.out
            go_wp2_with fail
            refine (HSD.out _ _ (HRU.out.below HY5.out)).mono ?_
            rintro e w16 ⟨s1, s2, rfl, hT16, hb16⟩
            obtain ⟨sa, sc, e6⟩ := own_shape hT16.1
            obtain ⟨qa, qc, e7⟩ := own_shape hT16.2.1
            rw [← HON.out] at e6
            rw [← HFN.out] at e7
            subst e6
            subst e7
            have HY6 := hid (HY5.out.trans (hb16.mono HY5.out.size))
            have HBV6 := hid (HBV.out.trans (HY6.out.mono HBV.out.size))
            have HXV6 := hid (HXV.out.trans (HY6.out.mono HXV.out.size))
            clear hT16 hb16 d0 d1 d2 d3 d4 d5
            obtain ⟨d0, d1, d2, d3, d4, d5⟩ := HCL.out _ HY6.out
            obtain ⟨k0, k1, k2, k3⟩ := HLL.out _ HXV6.out
            go_wp2_with fail
            refine (HLV.out _ HBV6.out).mono ?_
            rintro e w17 ⟨rfl, h17⟩
            rw [h17]
            clear h17
            go_wp2_with fail
            go_roundw
            case rel => exact ⟨i + 1, by omega, by go_num, hid (HB.out.trans (HY6.out.mono HB.out.size))⟩
            case measure => simp [intOf]; omega
          · obtain rfl : i = JN := by omega
            go_wp2_with fail
            refine (works_any _ (HG.out.below HBV.out)).mono ?_
            rintro e w11 ⟨rfl, hb11⟩
            have HB11 := hid (Below.trans HBV.out (hb11.mono (Below.size HBV.out)))
            clear hb11
            go_wp2_with fail
            go_ret
            exact ⟨rfl, HB11.out⟩
  · rw [errV_pos hK]
    clear HAR1 HVN HTU HJ1 HJ2 hK HPA
    go_wp2_with fail
    refine (works_any _ (HG.out.below HB41.out)).mono ?_
    rintro e w11 ⟨rfl, hb11⟩
    have HB11 := hid (Below.trans HB41.out (hb11.mono (Below.size HB41.out)))
    clear hb11
    go_wp2_with fail
    go_ret
    exact ⟨rfl, HB11.out⟩
end Go.Proofs.YtnamioihapnefaaGreatDoor
