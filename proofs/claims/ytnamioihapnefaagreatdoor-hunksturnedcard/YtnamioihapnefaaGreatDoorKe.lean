/-
  The document's Order (made by wip/genke.py).
-/
import Derived.Test.YtnamioihapnefaaGreatDoorGrKc
import Derived.Test.YtnamioihapnefaaGreatDoorJ7
namespace Go.Proofs.YtnamioihapnefaaGreatDoor
open Go.RowKit
open Hu (Rw Hk)

theorem part_lackO {h : Hk} (hv : Hu.vld h = true) : Hu.part Hu.isO h.rows = Hu.lack (Hu.olds h.rows) := by
  obtain ⟨_, _, _, _, h5, _, _, _, _, _⟩ := Hu.vld_parts hv
  rw [Hu.part_olds, Hu.lack_any h5]
theorem part_lackF {h : Hk} (hv : Hu.vld h = true) : Hu.part Hu.isF h.rows = Hu.lack (Hu.fres h.rows) := by
  obtain ⟨_, _, _, _, _, _, _, _, h9, _⟩ := Hu.vld_parts hv
  rw [Hu.part_fres, Hu.lack_any h9]
theorem vld_span {h : Hk} (hv : Hu.vld h = true) : -9223372036854775808 < h.a ∧ h.a ≤ 9223372036854775807 ∧ -9223372036854775808 < h.b ∧ h.b ≤ 9223372036854775807 := by
  obtain ⟨_, h1, h2, h3, _, h4, h5, h6, _, _⟩ := Hu.vld_parts hv
  omega
set_option maxHeartbeats 8000000 in
set_option maxRecDepth 100000 in
theorem rOrder_any {w : World} {v : Value} {l : List Hk} (hv : RdH w v l) (hl : l.length < 1954687338260) (hz : ∀ h ∈ l, SzH h) :
    Calls Tryz.prog 14 #[v] w fun e w' => e = .returned (.int .i64 (Hu.orderN l : Nat)) ∧ Below w.heap.size w w' := by
  obtain ⟨av, cv, rfl⟩ := hv.shape
  have HV := hid hv
  have HZ := hid hz
  obtain ⟨n, hn⟩ : ∃ n, n = l.length := ⟨_, rfl⟩
  have HN := hid hn
  rw [← hn] at HV hl ⊢
  clear hv hz hn
  go_enter Tryz.func14, Tryz.ntmps14
  go_wp2_with fail
  go_loopw [3] (fun ii wr => ∃ (k : Nat), k ≤ n ∧ ii = .int .i64 k ∧ Hid ((l.take k).all Hu.vld = true) ∧ Hid (Below w.heap.size w wr)) (fun ii _ => n - (intOf ii).toNat)
  case atStart => exact ⟨0, Nat.zero_le _, rfl, hid rfl, Below.refl _ _⟩
  case round =>
    obtain ⟨k, hk, rfl, HA, HB⟩ := hrel
    by_cases hlt : k < n
    · obtain ⟨x, hx⟩ : ∃ x, l[k]? = some x := ⟨_, List.getElem?_eq_getElem (by have := HN.out; omega)⟩
      obtain ⟨b1, o1, u, e1, hb1, d0, d1, d2, d3, d4, d5, hu⟩ := rdH_at HV.out hx
      replace d0 := (HB.out.cell (p := ⟨b1, _, none⟩) hb1).trans d0
      replace d1 := (HB.out.cell (p := ⟨b1, _, none⟩) hb1).trans d1
      replace d2 := (HB.out.cell (p := ⟨b1, _, none⟩) hb1).trans d2
      replace d3 := (HB.out.cell (p := ⟨b1, _, none⟩) hb1).trans d3
      replace d4 := (HB.out.cell (p := ⟨b1, _, none⟩) hb1).trans d4
      replace d5 := (HB.out.cell (p := ⟨b1, _, none⟩) hb1).trans d5
      subst e1
      have HX := hid hx
      have HSX := hid (HZ.out x (List.mem_of_getElem? hx))
      have i1 : (0 : Int) ≤ (k : Int) := by omega
      have i2 : (k : Int) < (n : Int) := by omega
      obtain ⟨xa, xn, xb, xm, xh, xr⟩ := x
      dsimp only at d0 d1 d2 d3 d4 d5 hu
      obtain ⟨ua, uc, rfl⟩ := hu.shape
      have HC := hid (rValid_any (h := ⟨xa, xn, xb, xm, xh, xr⟩) (hu.below HB.out) HSX.out)
      unfold HkV at HC
      dsimp only at HC
      clear hx hb1 hu
      cases hq : Hu.vld ⟨xa, xn, xb, xm, xh, xr⟩ with
      | true =>
        have HA2 : Hid ((l.take (k + 1)).all Hu.vld = true) := hid (by rw [all_takeH HX.out, HA.out, hq]; rfl)
        rw [show vldN ⟨xa, xn, xb, xm, xh, xr⟩ = 0 by unfold vldN; rw [hq]; rfl, show ((0 : Nat) : Int) = 0 from rfl] at HC
        clear hq
        go_wp2_with fail
        refine HC.out.mono ?_
        rintro e w2 ⟨rfl, h2⟩
        have HB2 := hid (HB.out.trans (h2.mono HB.out.size))
        clear h2
        go_wp2_with fail
        go_roundw
        case rel => exact ⟨k + 1, by omega, by go_num, HA2, HB2⟩
        case measure => simp [intOf]; omega
      | false =>
        have HE : Hid (Hu.orderN l = 100) := hid (by
          unfold Hu.orderN
          rw [if_neg]
          rw [List.all_eq_true]
          intro h
          have := h _ (List.mem_of_getElem? HX.out)
          rw [hq] at this
          cases this)
        rw [show vldN ⟨xa, xn, xb, xm, xh, xr⟩ = 100 by unfold vldN; rw [hq]; rfl, show ((100 : Nat) : Int) = 100 from rfl] at HC
        clear hq
        go_wp2_with fail
        refine HC.out.mono ?_
        rintro e w2 ⟨rfl, h2⟩
        have HB2 := hid (HB.out.trans (h2.mono HB.out.size))
        clear h2
        go_wp2_with fail
        go_ret
        exact ⟨by rw [HE.out]; rfl, HB2.out⟩
    · obtain rfl : k = n := by omega
      have hk2 : l.take k = l := List.take_of_length_le (by have := HN.out; omega)
      have HALL : Hid (∀ h ∈ l, Hu.vld h = true) := hid (by
        have h := HA.out
        rw [hk2] at h
        exact List.all_eq_true.1 h)
      have HEN : Hid (Hu.orderN l = if Hu.ordP l 0 0 false false then 0 else 112) := hid (by
        unfold Hu.orderN
        rw [if_pos (List.all_eq_true.2 HALL.out)])
      clear hk2
      go_wp2_with fail
      clear HA
      go_loopw [4, 5, 6, 7, 8] (fun aa bb e1 e2 ii wr => ∃ (j : Nat) (en ov : Bool) (x y : Int), j ≤ k ∧ ii = .int .i64 j ∧ aa = .int .i64 x ∧ bb = .int .i64 y ∧ e1 = .bool en ∧ e2 = .bool ov ∧ 0 ≤ x ∧ x ≤ 2147483647 ∧ 0 ≤ y ∧ y ≤ 2147483647 ∧ Hid (Hu.ordP l 0 0 false false = Hu.ordP (l.drop j) x y en ov) ∧ Hid (Below w.heap.size w wr)) (fun _ _ _ _ ii _ => k - (intOf ii).toNat)
      case atStart => exact ⟨0, false, false, 0, 0, Nat.zero_le _, rfl, rfl, rfl, rfl, rfl, by omega, by omega, by omega, by omega, hid rfl, HB⟩
      case round =>
        clear HB
        obtain ⟨j, en, ov, x, y, hj, rfl, rfl, rfl, rfl, rfl, hx0, hx1, hy0, hy1, HO, HB⟩ := hrel
        by_cases hlt2 : j < k
        · obtain ⟨h, hh⟩ : ∃ h, l[j]? = some h := ⟨_, List.getElem?_eq_getElem (by have := HN.out; omega)⟩
          obtain ⟨b1, o1, u, e1, hb1, d0, d1, d2, d3, d4, d5, hu⟩ := rdH_at HV.out hh
          replace d0 := (HB.out.cell (p := ⟨b1, _, none⟩) hb1).trans d0
          replace d1 := (HB.out.cell (p := ⟨b1, _, none⟩) hb1).trans d1
          replace d2 := (HB.out.cell (p := ⟨b1, _, none⟩) hb1).trans d2
          replace d3 := (HB.out.cell (p := ⟨b1, _, none⟩) hb1).trans d3
          replace d4 := (HB.out.cell (p := ⟨b1, _, none⟩) hb1).trans d4
          replace d5 := (HB.out.cell (p := ⟨b1, _, none⟩) hb1).trans d5
          subst e1
          have HSX := hid (HZ.out h (List.mem_of_getElem? hh))
          have HVX := hid (HALL.out h (List.mem_of_getElem? hh))
          have HD := hid (drop_atH hh)
          rw [HD.out] at HO
          obtain ⟨p0, p1, q0, q1, n0, m0⟩ := plc_in HVX.out
          obtain ⟨r0, r1, r2, r3⟩ := vld_span HVX.out
          have i1 : (0 : Int) ≤ (j : Int) := by omega
          have i2 : (j : Int) < (k : Int) := by omega
          have HO2 : Hid (Hu.ordP l 0 0 false false = if Hu.plc h.a h.n < x ∨ Hu.plc h.a h.n - x ≠ Hu.plc h.b h.m - y ∨ (en = true ∧ 0 < h.n) ∨ (ov = true ∧ 0 < h.m) then false else Hu.ordP (l.drop (j + 1)) (Hu.plc h.a h.n + h.n) (Hu.plc h.b h.m + h.m) (en || Hu.lack (Hu.olds h.rows)) (ov || Hu.lack (Hu.fres h.rows))) := hid HO.out
          have HP1 := hid (fun w1 => rPlace_any h.a h.n w1 (fun _ => r0) r1)
          have HP2 := hid (fun w1 => rPlace_any h.b h.m w1 (fun _ => r2) r3)
          have HPT := hid (fun w1 v1 (hr : RdW w1 v1 h.rows) => rPartial_any (h := h) hr HSX.out.1 HSX.out.2.1)
          rw [part_lackO HVX.out, part_lackF HVX.out] at HPT
          obtain ⟨xa, xn, xb, xm, xh, xr⟩ := h
          dsimp only at d0 d1 d2 d3 d4 d5 hu p0 p1 q0 q1 n0 m0 HO2 HP1 HP2 HPT
          obtain ⟨ua, uc, rfl⟩ := hu.shape
          unfold HkV at HPT
          dsimp only at HPT
          generalize Hu.plc xa xn = p at HP1 HO2 p0 p1
          generalize Hu.plc xb xm = q at HP2 HO2 q0 q1
          generalize Hu.lack (Hu.olds xr) = lo at HPT HO2
          generalize Hu.lack (Hu.fres xr) = lf at HPT HO2
          have HB1 := hid (HB.out.alloc HB.out.size (.cells #[.int .i64 xa, .int .i64 xn, .int .i64 xb, .int .i64 xm, .string xh, .slice ua xr.length uc] 29))
          have HU1 := hid (hu.below HB1.out)
          have HK1 := hid (heap_alloc_new wr (.cells #[.int .i64 xa, .int .i64 xn, .int .i64 xb, .int .i64 xm, .string xh, .slice ua xr.length uc] 29))
          obtain ⟨H, hH⟩ : ∃ H, H = wr.heap.size := ⟨_, rfl⟩
          clear hh hb1 hu HO r0 r1 r2 r3
          go_wp2_with fail
          rw [← hH] at HK1 ⊢
          clear hH
          generalize wr.alloc (.cells #[.int .i64 xa, .int .i64 xn, .int .i64 xb, .int .i64 xm, .string xh, .slice ua xr.length uc] 29) = w1 at HB1 HK1 HU1 ⊢
          have k0 : w1.cell? ⟨H, 0, none⟩ = some (.int .i64 xa) := cell_of_blk HK1.out 0
          have k1 : w1.cell? ⟨H, 1, none⟩ = some (.int .i64 xn) := cell_of_blk HK1.out 1
          have k2 : w1.cell? ⟨H, 2, none⟩ = some (.int .i64 xb) := cell_of_blk HK1.out 2
          have k3 : w1.cell? ⟨H, 3, none⟩ = some (.int .i64 xm) := cell_of_blk HK1.out 3
          have k4 : w1.cell? ⟨H, 4, none⟩ = some (.string xh) := cell_of_blk HK1.out 4
          have k5 : w1.cell? ⟨H, 5, none⟩ = some (.slice ua xr.length uc) := cell_of_blk HK1.out 5
          refine (HP1.out w1).mono ?_
          rintro e w2 ⟨rfl, h2⟩
          rw [h2]
          clear h2 w2
          go_wp2_with fail
          refine (HP2.out w1).mono ?_
          rintro e w2 ⟨rfl, h2⟩
          rw [h2]
          clear h2 w2
          have s1 : IntKind.i64.wrap (p - q) = p - q := wrapOk (by omega) (by omega)
          have s2 : IntKind.i64.wrap (x - y) = x - y := wrapOk (by omega) (by omega)
          have s3 : IntKind.i64.wrap (p + xn) = p + xn := wrapOk (by omega) (by omega)
          have s4 : IntKind.i64.wrap (q + xm) = q + xm := wrapOk (by omega) (by omega)
          clear d0 d1 d2 d3 d4 d5 HP1 HP2
          have RET : Hid (Hu.ordP l 0 0 false false = false → Ending.returned (.int .i64 112) = Ending.returned (.int .i64 (Hu.orderN l : Nat))) := hid (fun h => by rw [HEN.out, h]; rfl)
          by_cases cA : p < x
          · have HE := hid (RET.out (HO2.out.trans (if_pos (by omega))))
            go_wp2_with fail
            go_ret
            exact ⟨HE.out, HB1.out⟩
          by_cases cQ : q < y
          · have HE := hid (RET.out (HO2.out.trans (if_pos (by omega))))
            go_wp2_with fail
            go_ret
            exact ⟨HE.out, HB1.out⟩
          by_cases cB : p - q = x - y
          · obtain ⟨D, hD⟩ : ∃ D, D = p - q := ⟨_, rfl⟩
            replace s1 := s1.trans hD.symm
            replace s2 := s2.trans (cB.symm.trans hD.symm)
            have zB : (D == D) = true := zeq rfl
            have HCB := hid cB
            have HDB := hid hD
            clear cB hD
            cases en with
            | true =>
              by_cases cN : 0 < xn
              · have HE := hid (RET.out (HO2.out.trans (if_pos (by exact .inr (.inr (.inl ⟨rfl, cN⟩))))))
                go_wp2_with fail
                go_ret
                exact ⟨HE.out, HB1.out⟩
              · cases ov with
                | true =>
                  by_cases cM : 0 < xm
                  · have HE := hid (RET.out (HO2.out.trans (if_pos (by exact .inr (.inr (.inr ⟨rfl, cM⟩))))))
                    go_wp2_with fail
                    go_ret
                    exact ⟨HE.out, HB1.out⟩
                  · have HE : Hid (Hu.ordP l 0 0 false false = Hu.ordP (l.drop (j + 1)) (p + xn) (q + xm) true true) := hid (by have := HCB.out; have := HDB.out; rw [HO2.out, if_neg (by intro hc; rcases hc with h | h | ⟨h, h'⟩ | ⟨h, h'⟩ <;> first | omega | cases h)]; rfl)
                    go_wp2_with fail
                    refine (HPT.out _ _ HU1.out).mono ?_
                    rintro e w5 ⟨rfl, hb5⟩
                    have HB5 := hid (HB1.out.trans (hb5.mono HB1.out.size))
                    clear hb5
                    go_wp2_with fail
                    go_roundw
                    case rel => exact ⟨j + 1, true, true, p + xn, q + xm, by omega, by go_num, by go_num, by go_num, rfl, rfl, by omega, by omega, by omega, by omega, HE, HB5⟩
                    case measure => simp [intOf]; omega
                | false =>
                  have HE : Hid (Hu.ordP l 0 0 false false = Hu.ordP (l.drop (j + 1)) (p + xn) (q + xm) true lf) := hid (by have := HCB.out; have := HDB.out; rw [HO2.out, if_neg (by intro hc; rcases hc with h | h | ⟨h, h'⟩ | ⟨h, h'⟩ <;> first | omega | cases h)]; rfl)
                  go_wp2_with fail
                  refine (HPT.out _ _ HU1.out).mono ?_
                  rintro e w5 ⟨rfl, hb5⟩
                  have HB5 := hid (HB1.out.trans (hb5.mono HB1.out.size))
                  clear hb5
                  go_wp2_with fail
                  go_roundw
                  case rel => exact ⟨j + 1, true, lf, p + xn, q + xm, by omega, by go_num, by go_num, by go_num, rfl, rfl, by omega, by omega, by omega, by omega, HE, HB5⟩
                  case measure => simp [intOf]; omega
            | false =>
              cases ov with
              | true =>
                by_cases cM : 0 < xm
                · have HE := hid (RET.out (HO2.out.trans (if_pos (by exact .inr (.inr (.inr ⟨rfl, cM⟩))))))
                  go_wp2_with fail
                  go_ret
                  exact ⟨HE.out, HB1.out⟩
                · have HE : Hid (Hu.ordP l 0 0 false false = Hu.ordP (l.drop (j + 1)) (p + xn) (q + xm) lo true) := hid (by have := HCB.out; have := HDB.out; rw [HO2.out, if_neg (by intro hc; rcases hc with h | h | ⟨h, h'⟩ | ⟨h, h'⟩ <;> first | omega | cases h)]; rfl)
                  go_wp2_with fail
                  refine (HPT.out _ _ HU1.out).mono ?_
                  rintro e w5 ⟨rfl, hb5⟩
                  have HB5 := hid (HB1.out.trans (hb5.mono HB1.out.size))
                  clear hb5
                  go_wp2_with fail
                  go_roundw
                  case rel => exact ⟨j + 1, lo, true, p + xn, q + xm, by omega, by go_num, by go_num, by go_num, rfl, rfl, by omega, by omega, by omega, by omega, HE, HB5⟩
                  case measure => simp [intOf]; omega
              | false =>
                have HE : Hid (Hu.ordP l 0 0 false false = Hu.ordP (l.drop (j + 1)) (p + xn) (q + xm) lo lf) := hid (by have := HCB.out; have := HDB.out; rw [HO2.out, if_neg (by intro hc; rcases hc with h | h | ⟨h, h'⟩ | ⟨h, h'⟩ <;> first | omega | cases h)]; rfl)
                go_wp2_with fail
                refine (HPT.out _ _ HU1.out).mono ?_
                rintro e w5 ⟨rfl, hb5⟩
                have HB5 := hid (HB1.out.trans (hb5.mono HB1.out.size))
                clear hb5
                go_wp2_with fail
                go_roundw
                case rel => exact ⟨j + 1, lo, lf, p + xn, q + xm, by omega, by go_num, by go_num, by go_num, rfl, rfl, by omega, by omega, by omega, by omega, HE, HB5⟩
                case measure => simp [intOf]; omega
          · have HE := hid (RET.out (HO2.out.trans (if_pos (by omega))))
            obtain ⟨D1, hD1⟩ : ∃ D, D = p - q := ⟨_, rfl⟩
            obtain ⟨D2, hD2⟩ : ∃ D, D = x - y := ⟨_, rfl⟩
            rw [← hD1, ← hD2] at cB
            replace s1 := s1.trans hD1.symm
            replace s2 := s2.trans hD2.symm
            have zB : (D1 == D2) = false := zne cB
            have zC : (D1 != D2) = true := bne_yes cB
            clear cB hD1 hD2
            go_wp2_with fail
            go_ret
            exact ⟨HE.out, HB1.out⟩
        · have hk3 : l.drop j = [] := List.drop_eq_nil_of_le (by have := HN.out; omega)
          have HE : Hid (Hu.orderN l = 0) := hid (by rw [HEN.out, HO.out, hk3]; rfl)
          have i2 : ¬ (j : Int) < (k : Int) := by omega
          clear hk3
          go_wp2_with fail
          go_ret
          exact ⟨by rw [HE.out]; rfl, HB.out⟩
end Go.Proofs.YtnamioihapnefaaGreatDoor
