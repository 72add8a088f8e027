/-
  The walk of the law HunksScript.
-/
import Derived.Test.YtnamioihapnefaaGreatDoorUo
import Derived.Test.YtnamioihapnefaaGreatDoorUe
import Derived.Test.YtnamioihapnefaaGreatDoorGrKt
import Derived.Test.YtnamioihapnefaaGreatDoorGrKf
import Derived.Test.YtnamioihapnefaaGreatDoorGrJw
import Derived.Test.YtnamioihapnefaaGreatDoorLg
namespace Go.Proofs.YtnamioihapnefaaGreatDoor
open Go.RowKit
open Hu (Rw Hk)
open Ed (Ch)

theorem revH_sz {h : Hk} (hz : SzH h) : SzH (Hu.revH h) := by
  obtain ⟨h1, h2, h3⟩ := hz
  refine ⟨?_, fun r hr => ?_, h3⟩
  · show (Hu.srtD (h.rows.map Hu.flp) []).length < _
    rw [Hu.srtD_len, flp_len]
    exact h1
  · have hr' : r ∈ Hu.srtD (h.rows.map Hu.flp) [] := hr
    rcases Hu.srtD_mem _ _ _ hr' with h | h
    · cases h
    · obtain ⟨q, hq, rfl⟩ := List.mem_map.1 h
      exact h2 q hq
set_option maxHeartbeats 8000000 in
set_option maxRecDepth 100000 in
theorem hunksScript_walk {w : World} {v : Value} {l : List Hk} {n m : Int} (hv : RdH w v l) (hA : ArgH w v l.length) (hl : l.length < 1954687338260) (hz : ∀ h ∈ l, SzH h) (hg : ErrVar w) :
    Calls Tryz.prog 5 #[v, .int .i64 n, .int .i64 m] w fun e w' => e = .returned (.bool true) ∧ Below w.heap.size w w' := by
  have HTWS := hid (fun w1 (hb : Below w.heap.size w w1) (ha : ArgH w1 v l.length) => twins_any (hv.below hb) ha hl hz)
  have HPS := hid (fun w1 v1 (hr : RdH w1 v1 l) => script_any (n := n) (m := m) hr hl hz)
  have HRS := hid (fun w1 (hb : Below w.heap.size w w1) => rScript_any (n := n) (m := m) (hv.below hb) hl hz)
  obtain ⟨av, cv, rfl⟩ := hv.shape
  have HV := hid hv
  have HA := hid hA
  have HZ := hid hz
  have HG := hid hg
  obtain ⟨N, hN⟩ : ∃ N, N = l.length := ⟨_, rfl⟩
  have HN := hid hN
  rw [← hN] at HV HA hl HTWS HRS ⊢
  have HSL : Hid ((Hu.scrA l n m).length ≤ 4611686018427387903) := hid (by
    unfold Hu.scrA
    split
    · rename_i h0
      have hV : Ed.validN (Hu.scr l) n m = 0 := by
        unfold Hu.scrN at h0
        split at h0
        · split at h0
          · assumption
          · cases h0
        · rename_i h1; exact absurd h0 h1
      obtain ⟨hV2, _⟩ := Ed.normal_Val (Ed.validN_zero.1 hV)
      have := Val_len hV2
      omega
    · simp)
  generalize Hu.scrN l n m = K at HPS HRS
  generalize Hu.scrA l n m = T at HPS HRS HSL
  obtain ⟨TN, hTN⟩ : ∃ TN, TN = T.length := ⟨_, rfl⟩
  have HTN := hid hTN
  have hTNl : TN ≤ 4611686018427387903 := by rw [hTN]; exact HSL.out
  have z1 : ((K : Int) == (K : Int)) = true := zeq rfl
  have zT : ((TN : Int) == (TN : Int)) = true := zeq rfl
  clear hv hN hz hA hg hTN
  go_enter Tryz.func5, Tryz.ntmps5
  go_wp2_with fail
  refine (HTWS.out _ (Below.refl _ _) HA.out).mono ?_
  rintro e w2 ⟨v2, rfl, hO2, hb2⟩
  obtain ⟨a2, c2, e2⟩ := hO2.shape
  rw [← HN.out] at e2
  subst e2
  have HO2 := hid hO2.rd
  have HB2 := hid hb2
  clear hO2 hb2
  go_wp2_with fail
  refine (HPS.out _ _ HO2.out).mono ?_
  rintro e w3 ⟨v3, rfl, hO3, hb3⟩
  obtain ⟨a3, c3, e3⟩ := own_shape hO3
  rw [← HTN.out] at e3
  subst e3
  have HS3 := hid (own_rd hO3)
  have HB3 := hid (HB2.out.trans (hb3.mono HB2.out.size))
  clear hO3 hb3
  go_wp2_with fail
  refine (HRS.out _ HB3.out).mono ?_
  rintro e w4 ⟨v4, rfl, hO4, hb4⟩
  obtain ⟨a4, c4, e4⟩ := own_shape hO4
  rw [← HTN.out] at e4
  subst e4
  have HS4 := hid (own_rd hO4)
  have HU4 := hid (HS3.out.below hb4)
  have HB4 := hid (HB3.out.trans (hb4.mono HB3.out.size))
  clear hO4 hb4 HS3
  go_wp2_with fail
  refine (num_any K _ (HG.out.below HB4.out)).mono ?_
  rintro e w5 ⟨rfl, hb5⟩
  have HU5 := hid (HU4.out.below hb5)
  have HS5 := hid (HS4.out.below hb5)
  have HB5 := hid (HB4.out.trans (hb5.mono HB4.out.size))
  clear hb5 HU4 HS4
  go_wp2_with fail
  go_loopw [11] (fun ii wr => ∃ (i : Nat), i ≤ TN ∧ ii = .int .i64 i ∧ Hid (Below w5.heap.size w5 wr)) (fun ii _ => TN - (intOf ii).toNat)
  case atStart => exact ⟨0, Nat.zero_le _, rfl, Below.refl _ _⟩
  case round =>
    obtain ⟨i, hi, rfl, HBi⟩ := hrel
    by_cases hit : i < TN
    · obtain ⟨x, hx⟩ : ∃ x, T[i]? = some x := ⟨_, List.getElem?_eq_getElem (by have := HTN.out; omega)⟩
      obtain ⟨b1, o1, e1, hb1, d0, d1, d2, d3⟩ := rdC_at (HU5.out.below HBi.out) hx
      obtain ⟨b2, o2, e2, hb2, g0, g1, g2, g3⟩ := rdC_at (HS5.out.below HBi.out) hx
      subst e1
      subst e2
      have i1 : (0 : Int) ≤ (i : Int) := by omega
      have i2 : (i : Int) < (TN : Int) := by omega
      clear hx hb1 hb2
      go_wp2_with fail
      go_quiet (fail)
      go_wp2_with fail
      go_roundw
      case rel => exact ⟨i + 1, by omega, by go_num, hid (below_drewN HBi.out _)⟩
      case measure => simp [intOf]; omega
    · obtain rfl : i = TN := by omega
      have HB6 := hid (HB5.out.trans (HBi.out.mono HB5.out.size))
      obtain ⟨w6, hw6⟩ : ∃ w6, w6 = wr := ⟨_, rfl⟩
      subst hw6
      clear HBi HU5 HS5 HB5 HB4 HB3 HB2
      go_wp2_with fail
      go_loopw [12] (fun ii wr => ∃ (k : Nat), k ≤ N ∧ ii = .int .i64 k ∧ Hid (Below w.heap.size w wr)) (fun ii _ => N - (intOf ii).toNat)
      case atStart => exact ⟨0, Nat.zero_le _, rfl, HB6⟩
      case round =>
        obtain ⟨k, hk, rfl, HB⟩ := hrel
        by_cases hlt : k < N
        · obtain ⟨x, hx⟩ : ∃ x, l[k]? = some x := ⟨_, List.getElem?_eq_getElem (by have := HN.out; omega)⟩
          obtain ⟨b1, o1, u, e1, hb1, d0, d1, d2, d3, d4, d5, hu⟩ := rdH_at HV.out hx
          subst e1
          have HAU := hid (HA.out b1 o1 _ _ rfl k hlt u d5)
          have HSX := hid (HZ.out x (List.mem_of_getElem? hx))
          have HTW := hid (fun w1 (hb : Below w.heap.size w w1) => twinH_any (h := x) (hu.below hb) HAU.out HSX.out.1)
          have HSD := hid (fun w1 v1 (hr : RdW w1 v1 x.rows) => sides_any (h := x) hr HSX.out.1)
          have HRD := hid (fun w1 (hb : Below w.heap.size w w1) => rSides_any (h := x) (hu.below hb) HSX.out.1)
          have HRV := hid (fun w1 v1 (hr : RdW w1 v1 x.rows) (ha : ArgS v1) => reverse_any (h := x) hr ha HSX.out.1)
          have HRR := hid (fun w1 (hb : Below w.heap.size w w1) => rReverse_any (h := x) (hu.below hb) HSX.out.1)
          have HSM := hid (fun w1 v1 (hb : Below w.heap.size w w1) (h1 : RdW w1 v1 x.rows) => same_yes (h := x) h1 (hu.below hb) HSX.out.1)
          have HSR := hid (fun w1 v1 v2 (h1 : RdW w1 v1 (Hu.revH x).rows) (h2 : RdW w1 v2 (Hu.revH x).rows) => same_yes (h := Hu.revH x) h1 h2 (revH_sz HSX.out).1)
          have hol := Hu.olds_len x.rows
          have hfl := Hu.fres_len x.rows
          have hxl := HSX.out.1
          have HSO := hid (fun w1 v1 v2 (h1 : RdT w1 v1 (Hu.olds x.rows)) (h2 : RdT w1 v2 (Hu.olds x.rows)) => sameTexts_yes h1 h2 (by omega))
          have HSF := hid (fun w1 v1 v2 (h1 : RdT w1 v1 (Hu.fres x.rows)) (h2 : RdT w1 v2 (Hu.fres x.rows)) => sameTexts_yes h1 h2 (by omega))
          have HCL := hid (fun w1 (h : Below w.heap.size w w1) => And.intro ((h.cell (p := ⟨b1, _, none⟩) hb1).trans d0) (And.intro ((h.cell (p := ⟨b1, _, none⟩) hb1).trans d1) (And.intro ((h.cell (p := ⟨b1, _, none⟩) hb1).trans d2) (And.intro ((h.cell (p := ⟨b1, _, none⟩) hb1).trans d3) (And.intro ((h.cell (p := ⟨b1, _, none⟩) hb1).trans d4) ((h.cell (p := ⟨b1, _, none⟩) hb1).trans d5))))))
          obtain ⟨RV, hRV⟩ : ∃ RV, RV = Hu.revH x := ⟨_, rfl⟩
          rw [← hRV] at HRV HRR HSR
          obtain ⟨xa, xn, xb, xm, xh, xr⟩ := x
          dsimp only at HTW HSD HRD HRV HRR HSM HSO HSF HCL hu
          obtain ⟨ua, uc, rfl⟩ := hu.shape
          unfold HkV at HTW HSD HRD HRV HRR HSM HSR
          dsimp only at HTW HSD HRD HRV HRR HSM HSR
          obtain ⟨XN, hXN⟩ : ∃ XN, XN = xr.length := ⟨_, rfl⟩
          have HNX := hid hXN
          rw [← hXN] at HTW HRD HRR HSM HCL
          obtain ⟨OL, hOL⟩ : ∃ OL, OL = Hu.olds xr := ⟨_, rfl⟩
          obtain ⟨FL, hFL⟩ : ∃ FL, FL = Hu.fres xr := ⟨_, rfl⟩
          rw [← hOL] at HSD HRD HSO
          rw [← hFL] at HSD HRD HSF
          obtain ⟨ON, hON⟩ : ∃ ON, ON = OL.length := ⟨_, rfl⟩
          obtain ⟨FN, hFN⟩ : ∃ FN, FN = FL.length := ⟨_, rfl⟩
          have HON := hid hON
          have HFN := hid hFN
          obtain ⟨ra, rn, rb, rm, rh, rr⟩ := RV
          dsimp only at HRV HRR HSR
          obtain ⟨RN, hRN⟩ : ∃ RN, RN = rr.length := ⟨_, rfl⟩
          have HRN := hid hRN
          clear d0 d1 d2 d3 d4 d5 hb1 hx hu hXN HAU hOL hFL hON hFN hRN hRV hol hfl hxl
          have i1 : (0 : Int) ≤ (k : Int) := by omega
          have i2 : (k : Int) < (N : Int) := by omega
          obtain ⟨d0, d1, d2, d3, d4, d5⟩ := HCL.out _ HB.out
          go_wp2_with fail
          refine (HTW.out _ HB.out).mono ?_
          rintro e w2 ⟨v2, rfl, hO2, hb2⟩
          have HA2 := hid (own_arg hO2)
          obtain ⟨a2, c2, e2⟩ := own_shape hO2
          rw [← HNX.out] at e2
          subst e2
          have HR2 := hid (own_rd hO2)
          have HB2 := hid (HB.out.trans (hb2.mono HB.out.size))
          have hbG := (Below.refl w2.heap.size w2).alloc (Nat.le_refl _) (.cells #[.int .i64 xa, .int .i64 xn, .int .i64 xb, .int .i64 xm, .string xh, .slice a2 XN c2] 29)
          have hkG := heap_alloc_new w2 (.cells #[.int .i64 xa, .int .i64 xn, .int .i64 xb, .int .i64 xm, .string xh, .slice a2 XN c2] 29)
          clear hO2 hb2 d0 d1 d2 d3 d4 d5
          go_wp2_with fail
          obtain ⟨G, hG⟩ : ∃ G, G = w2.heap.size := ⟨_, rfl⟩
          have HB3 := hid (HB2.out.trans (hbG.mono HB2.out.size))
          have HR3 := hid (HR2.out.below hbG)
          have HK3 := hid hkG
          rw [← hG] at HK3 ⊢
          generalize w2.alloc (.cells #[.int .i64 xa, .int .i64 xn, .int .i64 xb, .int .i64 xm, .string xh, .slice a2 XN c2] 29) = w3 at HB3 HR3 HK3 ⊢
          clear hG hbG hkG HR2 HB2
          have q0 : w3.cell? ⟨G, 0, none⟩ = some (.int .i64 xa) := cell_of_blk HK3.out 0
          have q1 : w3.cell? ⟨G, 1, none⟩ = some (.int .i64 xn) := cell_of_blk HK3.out 1
          have q2 : w3.cell? ⟨G, 2, none⟩ = some (.int .i64 xb) := cell_of_blk HK3.out 2
          have q3 : w3.cell? ⟨G, 3, none⟩ = some (.int .i64 xm) := cell_of_blk HK3.out 3
          have q4 : w3.cell? ⟨G, 4, none⟩ = some (.string xh) := cell_of_blk HK3.out 4
          have q5 : w3.cell? ⟨G, 5, none⟩ = some (.slice a2 XN c2) := cell_of_blk HK3.out 5
          go_wp2_with fail
          refine (HSD.out _ _ HR3.out).mono ?_
          rintro e w4 ⟨p1, p2, rfl, hT4, hb4⟩
          obtain ⟨pa, pc, e4⟩ := own_shape hT4.1
          obtain ⟨qa, qc, e5⟩ := own_shape hT4.2.1
          rw [← HON.out] at e4
          rw [← HFN.out] at e5
          subst e4
          subst e5
          have HT4 := hid (And.intro (own_rd hT4.1) (own_rd hT4.2.1))
          have HB4 := hid (HB3.out.trans (hb4.mono HB3.out.size))
          have HR4 := hid (HR3.out.below hb4)
          have HK4 := hid ((hb4.block G (lt_of_heap HK3.out)).trans HK3.out)
          clear hT4 hb4 q0 q1 q2 q3 q4 q5 HB3 HR3 HK3
          obtain ⟨d0, d1, d2, d3, d4, d5⟩ := HCL.out _ HB4.out
          go_wp2_with fail
          refine (HRD.out _ HB4.out).mono ?_
          rintro e w5 ⟨p3, p4, rfl, hT5, hb5⟩
          obtain ⟨sa, sc, e6⟩ := own_shape hT5.1
          obtain ⟨ta, tc, e7⟩ := own_shape hT5.2.1
          rw [← HON.out] at e6
          rw [← HFN.out] at e7
          subst e6
          subst e7
          have HT5 := hid (And.intro (own_rd hT5.1) (own_rd hT5.2.1))
          have HU5 := hid (And.intro (HT4.out.1.below hb5) (HT4.out.2.below hb5))
          have HB5 := hid (HB4.out.trans (hb5.mono HB4.out.size))
          have HR5 := hid (HR4.out.below hb5)
          have HK5 := hid ((hb5.block G (lt_of_heap HK4.out)).trans HK4.out)
          clear hT5 hb5 HB4 HR4 HK4 HT4 d0 d1 d2 d3 d4 d5
          obtain ⟨d0, d1, d2, d3, d4, d5⟩ := HCL.out _ HB5.out
          have q0 : w5.cell? ⟨G, 0, none⟩ = some (.int .i64 xa) := cell_of_blk HK5.out 0
          have q1 : w5.cell? ⟨G, 1, none⟩ = some (.int .i64 xn) := cell_of_blk HK5.out 1
          have q2 : w5.cell? ⟨G, 2, none⟩ = some (.int .i64 xb) := cell_of_blk HK5.out 2
          have q3 : w5.cell? ⟨G, 3, none⟩ = some (.int .i64 xm) := cell_of_blk HK5.out 3
          have q4 : w5.cell? ⟨G, 4, none⟩ = some (.string xh) := cell_of_blk HK5.out 4
          have q5 : w5.cell? ⟨G, 5, none⟩ = some (.slice a2 XN c2) := cell_of_blk HK5.out 5
          have HBD := hid (below_drewN (Below.refl w5.heap.size w5) 1)
          go_wp2_with fail
          go_region_held3 (fun w' => w'.cell? ⟨G, 0, none⟩ = some (.int .i64 xa) ∧ w'.cell? ⟨G, 1, none⟩ = some (.int .i64 xn) ∧ w'.cell? ⟨G, 2, none⟩ = some (.int .i64 xb) ∧ w'.cell? ⟨G, 3, none⟩ = some (.int .i64 xm) ∧ w'.cell? ⟨G, 4, none⟩ = some (.string xh) ∧ w'.cell? ⟨G, 5, none⟩ = some (.slice a2 XN c2) ∧ w'.cell? ⟨b1, o1 + k * 6, none⟩ = some (.int .i64 xa) ∧ w'.cell? ⟨b1, o1 + k * 6 + 1, none⟩ = some (.int .i64 xn) ∧ w'.cell? ⟨b1, o1 + k * 6 + 2, none⟩ = some (.int .i64 xb) ∧ w'.cell? ⟨b1, o1 + k * 6 + 3, none⟩ = some (.int .i64 xm) ∧ w'.cell? ⟨b1, o1 + k * 6 + 4, none⟩ = some (.string xh) ∧ w'.cell? ⟨b1, o1 + k * 6 + 5, none⟩ = some (.slice ua XN uc))
            (first
              | go_keep
              | (go_split_ands
                 refine ⟨?_, ?_, ?_, ?_, ?_, ?_, ?_, ?_, ?_, ?_, ?_, ?_⟩ <;> exact (hbk.cell (lt_of_cell (by assumption))).trans (by assumption)))
            (first
              | (go_at_call 27; refine (HSM.out _ _ HBB5.out (HR5.out.below HY5.out)).mono ?_; rintro e w16 ⟨rfl, hbk⟩; have HBB6 : Hid (Below w.heap.size w w16) := hid (HBB5.out.trans (hbk.mono HBB5.out.size)))
              | (go_at_call 27; refine (HSR.out _ _ _ HRA.out HRB.out).mono ?_; rintro e w15 ⟨rfl, hbk⟩; have HY5 : Hid (Below w5.heap.size w5 w15) := hid (HY4.out.trans (hbk.mono HY4.out.size)); have HBB5 : Hid (Below w.heap.size w w15) := hid (HBB4.out.trans (hbk.mono HBB4.out.size)))
              | (go_at_call 29; refine (HRR.out _ HBB3.out).mono ?_; rintro e w14 ⟨v14, rfl, hO14, hbk⟩; obtain ⟨a14, c14, e14⟩ := own_shape hO14; rw [← HRN.out] at e14; subst e14; have HRB := hid (own_rd hO14); have HRA := hid (HRC.out.below hbk); have HY4 : Hid (Below w5.heap.size w5 w14) := hid (HY3.out.trans (hbk.mono HY3.out.size)); have HBB4 : Hid (Below w.heap.size w w14) := hid (HBB3.out.trans (hbk.mono HBB3.out.size)); clear hO14)
              | (go_at_call 28; refine (HRV.out _ _ (HR5.out.below HY2.out) HA2.out).mono ?_; rintro e w13 ⟨v13, rfl, hO13, hbk⟩; obtain ⟨a13, c13, e13⟩ := own_shape hO13; rw [← HRN.out] at e13; subst e13; have HRC := hid (own_rd hO13); have HY3 : Hid (Below w5.heap.size w5 w13) := hid (HY2.out.trans (hbk.mono HY2.out.size)); have HBB3 : Hid (Below w.heap.size w w13) := hid (HBB2.out.trans (hbk.mono HBB2.out.size)); clear hO13)
              | (go_at_call 21; refine (HSF.out _ _ _ (HU5.out.2.below HY1.out) (HT5.out.2.below HY1.out)).mono ?_; rintro e w12 ⟨rfl, hbk⟩; have HY2 : Hid (Below w5.heap.size w5 w12) := hid (HY1.out.trans (hbk.mono HY1.out.size)); have HBB2 : Hid (Below w.heap.size w w12) := hid (HBB1.out.trans (hbk.mono HBB1.out.size)))
              | (go_at_call 21; refine (HSO.out _ _ _ (HU5.out.1.below HBD.out) (HT5.out.1.below HBD.out)).mono ?_; rintro e w11 ⟨rfl, hbk⟩; have HY1 : Hid (Below w5.heap.size w5 w11) := hid (HBD.out.trans (hbk.mono HBD.out.size)); have HBB1 : Hid (Below w.heap.size w w11) := hid (HB5.out.trans (HY1.out.mono HB5.out.size))))
          clear d0 d1 d2 d3 d4 d5 q0 q1 q2 q3 q4 q5
          go_wp2_with fail
          go_roundw
          case rel => exact ⟨k + 1, by omega, by go_num, HBB6⟩
          case measure => simp [intOf]; omega
        · obtain rfl : k = N := by omega
          go_wp2_with fail
          refine (works_any wr (HG.out.below HB.out)).mono ?_
          rintro e w7 ⟨rfl, hb7⟩
          have HB7 := hid (HB.out.trans (hb7.mono HB.out.size))
          clear hb7
          go_wp2_with fail
          go_ret
          exact ⟨rfl, HB7.out⟩
end Go.Proofs.YtnamioihapnefaaGreatDoor
