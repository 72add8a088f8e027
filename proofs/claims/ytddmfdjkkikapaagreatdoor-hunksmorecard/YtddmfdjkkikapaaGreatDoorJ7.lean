/-
  The walk of Order (made by wip/genj7.py).
-/
import Derived.Test.YtddmfdjkkikapaaGreatDoorGrJ6
namespace Go.Proofs.YtddmfdjkkikapaaGreatDoor
open Go.RowKit
open Hu (Rw Hk)

theorem all_takeH {l : List Hk} {p : Hk → Bool} {k : Nat} {x : Hk} (h : l[k]? = some x) : (l.take (k + 1)).all p = ((l.take k).all p && p x) := by
  rw [List.take_add_one, h, List.all_append]; simp
theorem drop_atH {l : List Hk} {k : Nat} {x : Hk} (h : l[k]? = some x) : l.drop k = x :: l.drop (k + 1) := by
  obtain ⟨h1, h2⟩ := List.getElem?_eq_some_iff.1 h
  rw [List.drop_eq_getElem_cons h1, h2]
theorem plc_in {h : Hk} (hv : Hu.vld h = true) : 0 ≤ Hu.plc h.a h.n ∧ Hu.plc h.a h.n + h.n ≤ 2147483647 ∧ 0 ≤ Hu.plc h.b h.m ∧ Hu.plc h.b h.m + h.m ≤ 2147483647 ∧ 0 ≤ h.n ∧ 0 ≤ h.m := by
  obtain ⟨_, h1, h2, h3, _, h4, h5, h6, _, _⟩ := Hu.vld_parts hv
  unfold Hu.plc
  split <;> split <;> omega
theorem bne_yes {a b : Int} (h : a ≠ b) : (a != b) = true := by rw [bne_iff_ne]; exact h

set_option maxHeartbeats 8000000 in
set_option maxRecDepth 100000 in
theorem order_any {w : World} {v : Value} {l : List Hk} (hv : RdH w v l) (hl : l.length < 1954687338260) (hz : ∀ h ∈ l, SzH h) :
    Calls Tryz.prog 32 #[v] w fun e w' => e = .returned (errV (Hu.orderN l)) ∧ Below w.heap.size w w' := by
  obtain ⟨av, cv, rfl⟩ := hv.shape
  have HV := hid hv
  have HZ := hid hz
  obtain ⟨n, hn⟩ : ∃ n, n = l.length := ⟨_, rfl⟩
  have HN := hid hn
  rw [← hn] at HV hl ⊢
  clear hv hz hn
  go_enter Tryz.func32, Tryz.ntmps32
  go_wp2_with fail
  go_loopw [16] (fun ii wr => ∃ (k : Nat), k ≤ n ∧ ii = .int .i64 k ∧ Hid ((l.take k).all Hu.vld = true) ∧ Hid (Below w.heap.size w wr)) (fun ii _ => n - (intOf ii).toNat)
  case atStart => exact ⟨0, Nat.zero_le _, rfl, hid rfl, Below.refl _ _⟩
  case round =>
    obtain ⟨k, hk, rfl, HA, HB⟩ := hrel
    by_cases hlt : k < n
    · obtain ⟨x, hx⟩ : ∃ x, l[k]? = some x := ⟨_, List.getElem?_eq_getElem (by have := HN.out; omega)⟩
      obtain ⟨b1, o1, u, e1, hb1, d0, d1, d2, d3, d4, d5, hu⟩ := rdH_at HV.out hx
      replace d0 := (HB.out.cell (p := ⟨b1, _, none⟩) hb1).trans d0
      replace d1 := (HB.out.cell (p := ⟨b1, _, none⟩) hb1).trans d1
      replace d2 := (HB.out.cell (p := ⟨b1, _, none⟩) hb1).trans d2
      replace d3 := (HB.out.cell (p := ⟨b1, _, none⟩) hb1).trans d3
      replace d4 := (HB.out.cell (p := ⟨b1, _, none⟩) hb1).trans d4
      replace d5 := (HB.out.cell (p := ⟨b1, _, none⟩) hb1).trans d5
      subst e1
      have HX := hid hx
      have HSX := hid (HZ.out x (List.mem_of_getElem? hx))
      have i1 : (0 : Int) ≤ (k : Int) := by omega
      have i2 : (k : Int) < (n : Int) := by omega
      obtain ⟨xa, xn, xb, xm, xh, xr⟩ := x
      dsimp only at d0 d1 d2 d3 d4 d5 hu
      obtain ⟨ua, uc, rfl⟩ := hu.shape
      have HB1 := hid (HB.out.alloc HB.out.size (.cells #[.int .i64 xa, .int .i64 xn, .int .i64 xb, .int .i64 xm, .string xh, .slice ua xr.length uc] 37))
      have HC := hid (hvalid_any (h := ⟨xa, xn, xb, xm, xh, xr⟩) (hu.below HB1.out) HSX.out)
      unfold HkV at HC
      dsimp only at HC
      clear hx hb1 hu
      cases hq : Hu.vld ⟨xa, xn, xb, xm, xh, xr⟩ with
      | true =>
        have HA2 : Hid ((l.take (k + 1)).all Hu.vld = true) := hid (by rw [all_takeH HX.out, HA.out, hq]; rfl)
        rw [show vldN ⟨xa, xn, xb, xm, xh, xr⟩ = 0 by unfold vldN; rw [hq]; rfl, errV_zero] at HC
        clear hq
        go_wp2_with fail
        refine HC.out.mono ?_
        rintro e w2 ⟨rfl, h2⟩
        have HB2 := hid (HB1.out.trans (h2.mono HB1.out.size))
        clear h2
        go_wp2_with fail
        go_roundw
        case rel => exact ⟨k + 1, by omega, by go_num, HA2, HB2⟩
        case measure => simp [intOf]; omega
      | false =>
        have HE : Hid (Hu.orderN l = 100) := hid (by
          unfold Hu.orderN
          rw [if_neg]
          rw [List.all_eq_true]
          intro h
          have := h _ (List.mem_of_getElem? HX.out)
          rw [hq] at this
          cases this)
        rw [show vldN ⟨xa, xn, xb, xm, xh, xr⟩ = 100 by unfold vldN; rw [hq]; rfl] at HC
        have e100 : errV 100 = .iface 63 (.int .i64 100) := rfl
        rw [e100] at HC
        clear hq
        go_wp2_with fail
        refine HC.out.mono ?_
        rintro e w2 ⟨rfl, h2⟩
        have HB2 := hid (HB1.out.trans (h2.mono HB1.out.size))
        clear h2
        go_wp2_with fail
        go_ret
        exact ⟨by rw [HE.out]; rfl, HB2.out⟩
    · obtain rfl : k = n := by omega
      have hk2 : l.take k = l := List.take_of_length_le (by have := HN.out; omega)
      have HALL : Hid (∀ h ∈ l, Hu.vld h = true) := hid (by
        have h := HA.out
        rw [hk2] at h
        exact List.all_eq_true.1 h)
      have HEN : Hid (Hu.orderN l = if Hu.ordP l 0 0 false false then 0 else 112) := hid (by
        unfold Hu.orderN
        rw [if_pos (List.all_eq_true.2 HALL.out)])
      obtain ⟨w9, hw9⟩ : ∃ w9, w9 = wr := ⟨_, rfl⟩
      subst hw9
      have HB9 := hid (HB.out.alloc HB.out.size (.cells #[.int .i64 0, .int .i64 0] 78))
      have HG9 := hid (heap_alloc_new w9 (.cells #[.int .i64 0, .int .i64 0] 78))
      have HGW : Hid (w.heap.size ≤ w9.heap.size) := hid HB.out.size
      obtain ⟨G, hG⟩ : ∃ G, G = w9.heap.size := ⟨_, rfl⟩
      clear hk2
      go_wp2_with fail
      rw [← hG] at HG9 HGW ⊢
      clear hG HB HA
      go_loopw [7, 8, 28] (fun e1 e2 ii wr => ∃ (j : Nat) (en ov : Bool) (x y : Int), j ≤ k ∧ ii = .int .i64 j ∧ e1 = .bool en ∧ e2 = .bool ov ∧ 0 ≤ x ∧ x ≤ 2147483647 ∧ 0 ≤ y ∧ y ≤ 2147483647 ∧ Hid (Hu.ordP l 0 0 false false = Hu.ordP (l.drop j) x y en ov) ∧ Hid (wr.heap[G]? = some (.cells #[.int .i64 x, .int .i64 y] 78)) ∧ Hid (Below w.heap.size w wr)) (fun _ _ ii _ => k - (intOf ii).toNat)
      case atStart => exact ⟨0, false, false, 0, 0, Nat.zero_le _, rfl, rfl, rfl, by omega, by omega, by omega, by omega, hid rfl, HG9, HB9⟩
      case round =>
        obtain ⟨j, en, ov, x, y, hj, rfl, rfl, rfl, hx0, hx1, hy0, hy1, HO, HG, HB⟩ := hrel
        by_cases hlt2 : j < k
        · obtain ⟨h, hh⟩ : ∃ h, l[j]? = some h := ⟨_, List.getElem?_eq_getElem (by have := HN.out; omega)⟩
          obtain ⟨b1, o1, u, e1, hb1, d0, d1, d2, d3, d4, d5, hu⟩ := rdH_at HV.out hh
          replace d0 := (HB.out.cell (p := ⟨b1, _, none⟩) hb1).trans d0
          replace d1 := (HB.out.cell (p := ⟨b1, _, none⟩) hb1).trans d1
          replace d2 := (HB.out.cell (p := ⟨b1, _, none⟩) hb1).trans d2
          replace d3 := (HB.out.cell (p := ⟨b1, _, none⟩) hb1).trans d3
          replace d4 := (HB.out.cell (p := ⟨b1, _, none⟩) hb1).trans d4
          replace d5 := (HB.out.cell (p := ⟨b1, _, none⟩) hb1).trans d5
          subst e1
          have HSX := hid (HZ.out h (List.mem_of_getElem? hh))
          have HVX := hid (HALL.out h (List.mem_of_getElem? hh))
          have HD := hid (drop_atH hh)
          rw [HD.out] at HO
          obtain ⟨p0, p1, q0, q1, n0, m0⟩ := plc_in HVX.out
          have i1 : (0 : Int) ≤ (j : Int) := by omega
          have i2 : (j : Int) < (k : Int) := by omega
          have HO2 : Hid (Hu.ordP l 0 0 false false = if Hu.plc h.a h.n < x ∨ Hu.plc h.a h.n - x ≠ Hu.plc h.b h.m - y ∨ (en = true ∧ 0 < h.n) ∨ (ov = true ∧ 0 < h.m) then false else Hu.ordP (l.drop (j + 1)) (Hu.plc h.a h.n + h.n) (Hu.plc h.b h.m + h.m) (en || Hu.lack (Hu.olds h.rows)) (ov || Hu.lack (Hu.fres h.rows))) := hid HO.out
          have HBG := hid (fun w1 v1 => begin_any (v := v1) w1 (vld_pl HVX.out))
          have HSD := hid (fun w1 v1 (hr : RdW w1 v1 h.rows) => sides_any (h := h) hr HSX.out.1)
          have HLO := hid (fun w1 v1 (hr : RdT w1 v1 (Hu.olds h.rows)) => lacksEnd_any hr (by have := Hu.olds_len h.rows; have := HSX.out.1; omega) (fun z hz => by obtain ⟨r, hr, e⟩ := olds_mem hz; rw [← e]; exact HSX.out.2.1 r hr))
          have HLF := hid (fun w1 v1 (hr : RdT w1 v1 (Hu.fres h.rows)) => lacksEnd_any hr (by have := Hu.fres_len h.rows; have := HSX.out.1; omega) (fun z hz => by obtain ⟨r, hr, e⟩ := fres_mem hz; rw [← e]; exact HSX.out.2.1 r hr))
          obtain ⟨xa, xn, xb, xm, xh, xr⟩ := h
          dsimp only at d0 d1 d2 d3 d4 d5 hu p0 p1 q0 q1 n0 m0 HO2 HBG HSD HLO HLF
          obtain ⟨ua, uc, rfl⟩ := hu.shape
          unfold HkV at HBG HSD
          unfold SpV at HBG
          dsimp only at HBG HSD
          generalize Hu.plc xa xn = p at HBG HO2 p0 p1
          generalize Hu.plc xb xm = q at HBG HO2 q0 q1
          generalize Hu.lack (Hu.olds xr) = lo at HLO HO2
          generalize Hu.lack (Hu.fres xr) = lf at HLF HO2
          have hb1' := (Below.refl wr.heap.size wr).alloc (Nat.le_refl _) (.cells #[.int .i64 xa, .int .i64 xn, .int .i64 xb, .int .i64 xm, .string xh, .slice ua xr.length uc] 37)
          have HB1 := hid (HB.out.alloc HB.out.size (.cells #[.int .i64 xa, .int .i64 xn, .int .i64 xb, .int .i64 xm, .string xh, .slice ua xr.length uc] 37))
          have HU0 := hid hu
          have HK1 := hid (heap_alloc_new wr (.cells #[.int .i64 xa, .int .i64 xn, .int .i64 xb, .int .i64 xm, .string xh, .slice ua xr.length uc] 37))
          have HG1 := hid ((hb1'.block G (lt_of_heap HG.out)).trans HG.out)
          obtain ⟨H, hH⟩ : ∃ H, H = wr.heap.size := ⟨_, rfl⟩
          have HGH : Hid (G ≠ H) := hid (by have := lt_of_heap HG.out; omega)
          clear hh hb1 hu hb1' HO
          go_wp2_with fail
          rw [← hH] at HK1 ⊢
          clear hH
          generalize wr.alloc (.cells #[.int .i64 xa, .int .i64 xn, .int .i64 xb, .int .i64 xm, .string xh, .slice ua xr.length uc] 37) = w1 at HB1 HK1 HG1 ⊢
          refine (HBG.out w1 _).mono ?_
          rintro e w2 ⟨rfl, h2⟩
          have HB2 := hid (HB1.out.trans (h2.mono HB1.out.size))
          have HK2 := hid ((h2.block H (lt_of_heap HK1.out)).trans HK1.out)
          have HG2 := hid ((h2.block G (lt_of_heap HG1.out)).trans HG1.out)
          have hb3 := (Below.refl w2.heap.size w2).alloc (Nat.le_refl _) (.cells #[.int .i64 p, .int .i64 q] 78)
          have HB3 := hid (HB2.out.alloc HB2.out.size (.cells #[.int .i64 p, .int .i64 q] 78))
          have HK3 := hid ((hb3.block H (lt_of_heap HK2.out)).trans HK2.out)
          have HG3 := hid ((hb3.block G (lt_of_heap HG2.out)).trans HG2.out)
          have HA3 := hid (heap_alloc_new w2 (.cells #[.int .i64 p, .int .i64 q] 78))
          have g0 : (w2.alloc (.cells #[.int .i64 p, .int .i64 q] 78)).cell? ⟨G, 0, none⟩ = some (.int .i64 x) := cell_of_blk HG3.out 0
          have g1 : (w2.alloc (.cells #[.int .i64 p, .int .i64 q] 78)).cell? ⟨G, 1, none⟩ = some (.int .i64 y) := cell_of_blk HG3.out 1
          have gf : ∀ j, (w2.alloc (.cells #[.int .i64 p, .int .i64 q] 78)).frozen? ⟨G, j, none⟩ = false := fun j => frozen_of_blk HG3.out j
          have a0 : (w2.alloc (.cells #[.int .i64 p, .int .i64 q] 78)).cell? ⟨w2.heap.size, 0, none⟩ = some (.int .i64 p) := cell_of_blk HA3.out 0
          have a1 : (w2.alloc (.cells #[.int .i64 p, .int .i64 q] 78)).cell? ⟨w2.heap.size, 1, none⟩ = some (.int .i64 q) := cell_of_blk HA3.out 1
          have k1 : (w2.alloc (.cells #[.int .i64 p, .int .i64 q] 78)).cell? ⟨H, 1, none⟩ = some (.int .i64 xn) := cell_of_blk HK3.out 1
          have k3 : (w2.alloc (.cells #[.int .i64 p, .int .i64 q] 78)).cell? ⟨H, 3, none⟩ = some (.int .i64 xm) := cell_of_blk HK3.out 3
          have s1 : IntKind.i64.wrap (p - x) = p - x := wrapOk (by omega) (by omega)
          have s2 : IntKind.i64.wrap (q - y) = q - y := wrapOk (by omega) (by omega)
          have s3 : IntKind.i64.wrap (p + xn) = p + xn := wrapOk (by omega) (by omega)
          have s4 : IntKind.i64.wrap (q + xm) = q + xm := wrapOk (by omega) (by omega)
          clear h2 hb3 HB1 HB2 HK1 HK2 HG1 HG2 d0 d1 d2 d3 d4 d5
          have RET : Hid (Hu.ordP l 0 0 false false = false → Ending.returned (.iface 63 (.int .i64 112)) = Ending.returned (errV (Hu.orderN l))) := hid (fun h => by rw [HEN.out, h]; rfl)
          by_cases cA : p < x
          · have HE := hid (RET.out (HO2.out.trans (if_pos (by omega))))
            go_wp2_with fail
            go_ret
            exact ⟨HE.out, HB3.out⟩
          by_cases cB : p - x = q - y
          · obtain ⟨D, hD⟩ : ∃ D, D = p - x := ⟨_, rfl⟩
            replace s1 := s1.trans hD.symm
            replace s2 := s2.trans (cB.symm.trans hD.symm)
            have zB : (D == D) = true := zeq rfl
            have HCB := hid cB
            have HDB := hid hD
            have cBl : p - x ≤ q - y := by omega
            have cBr : q - y ≤ p - x := by omega
            clear cB hD
            cases en with
            | true =>
              by_cases cN : 0 < xn
              · have HE := hid (RET.out (HO2.out.trans (if_pos (by exact .inr (.inr (.inl ⟨rfl, cN⟩))))))
                go_wp2_with fail
                go_ret
                exact ⟨HE.out, HB3.out⟩
              · cases ov with
                | true =>
                  by_cases cM : 0 < xm
                  · have HE := hid (RET.out (HO2.out.trans (if_pos (by exact .inr (.inr (.inr ⟨rfl, cM⟩))))))
                    go_wp2_with fail
                    go_ret
                    exact ⟨HE.out, HB3.out⟩
                  · have HE : Hid (Hu.ordP l 0 0 false false = Hu.ordP (l.drop (j + 1)) (p + xn) (q + xm) true true) := hid (by rw [HO2.out, if_neg (by intro hc; rcases hc with h | h | ⟨h, h'⟩ | ⟨h, h'⟩ <;> first | omega | cases h)]; rfl)
                    have hk4 := set_heap _ G 1 _ _ (.int .i64 (q + xm)) (set_heap _ G 0 _ _ (.int .i64 (p + xn)) HG3.out)
                    have HB4 := hid (below_set (k := 1) (u := .int .i64 (q + xm)) (below_set (k := 0) (u := .int .i64 (p + xn)) HB3.out HGW.out) HGW.out)
                    have hh4 : (((w2.alloc (.cells #[.int .i64 p, .int .i64 q] 78)).setCell ⟨G, 0, none⟩ (.int .i64 (p + xn))).setCell ⟨G, 1, none⟩ (.int .i64 (q + xm))).heap[H]? = some (.cells #[.int .i64 xa, .int .i64 xn, .int .i64 xb, .int .i64 xm, .string xh, .slice ua xr.length uc] 37) := (set_other _ HGH.out.symm).trans ((set_other _ HGH.out.symm).trans HK3.out)
                    have HU4 : Hid (RdW (((w2.alloc (.cells #[.int .i64 p, .int .i64 q] 78)).setCell ⟨G, 0, none⟩ (.int .i64 (p + xn))).setCell ⟨G, 1, none⟩ (.int .i64 (q + xm))) (.slice ua xr.length uc) xr) := hid (HU0.out.below HB4.out)
                    obtain ⟨w4, hw4⟩ : ∃ w4, w4 = ((w2.alloc (.cells #[.int .i64 p, .int .i64 q] 78)).setCell ⟨G, 0, none⟩ (.int .i64 (p + xn))).setCell ⟨G, 1, none⟩ (.int .i64 (q + xm)) := ⟨_, rfl⟩
                    rw [← hw4] at hk4 HB4 hh4 HU4
                    have HW4 := hid hw4
                    have HK4 := hid hk4
                    have h0 : w4.cell? ⟨H, 0, none⟩ = some (.int .i64 xa) := cell_of_blk hh4 0
                    have h1 : w4.cell? ⟨H, 1, none⟩ = some (.int .i64 xn) := cell_of_blk hh4 1
                    have h2 : w4.cell? ⟨H, 2, none⟩ = some (.int .i64 xb) := cell_of_blk hh4 2
                    have h3 : w4.cell? ⟨H, 3, none⟩ = some (.int .i64 xm) := cell_of_blk hh4 3
                    have h4 : w4.cell? ⟨H, 4, none⟩ = some (.string xh) := cell_of_blk hh4 4
                    have h5 : w4.cell? ⟨H, 5, none⟩ = some (.slice ua xr.length uc) := cell_of_blk hh4 5
                    clear hw4 hh4 hk4
                    go_wp2_with (rw [← HW4.out])
                    refine (HSD.out w4 _ HU4.out).mono ?_
                    rintro e w5 ⟨v1, v2, rfl, hT, hb5⟩
                    obtain ⟨t1, c1, rfl⟩ := own_shape hT.1
                    obtain ⟨t2, c2, rfl⟩ := own_shape hT.2.1
                    have HTO := hid (own_rd hT.1)
                    have HTF := hid (own_rd hT.2.1)
                    have HB5 := hid (HB4.out.trans (hb5.mono HB4.out.size))
                    have HG5 := hid ((hb5.block G (lt_of_heap HK4.out)).trans HK4.out)
                    clear hT hb5
                    go_wp2_with fail
                    go_roundw
                    case rel => exact ⟨j + 1, true, true, p + xn, q + xm, by omega, by go_num, rfl, rfl, by omega, by omega, by omega, by omega, HE, HG5, HB5⟩
                    case measure => simp [intOf]; omega
                | false =>
                  have HE : Hid (Hu.ordP l 0 0 false false = Hu.ordP (l.drop (j + 1)) (p + xn) (q + xm) true lf) := hid (by rw [HO2.out, if_neg (by intro hc; rcases hc with h | h | ⟨h, h'⟩ | ⟨h, h'⟩ <;> first | omega | cases h)]; rfl)
                  have hk4 := set_heap _ G 1 _ _ (.int .i64 (q + xm)) (set_heap _ G 0 _ _ (.int .i64 (p + xn)) HG3.out)
                  have HB4 := hid (below_set (k := 1) (u := .int .i64 (q + xm)) (below_set (k := 0) (u := .int .i64 (p + xn)) HB3.out HGW.out) HGW.out)
                  have hh4 : (((w2.alloc (.cells #[.int .i64 p, .int .i64 q] 78)).setCell ⟨G, 0, none⟩ (.int .i64 (p + xn))).setCell ⟨G, 1, none⟩ (.int .i64 (q + xm))).heap[H]? = some (.cells #[.int .i64 xa, .int .i64 xn, .int .i64 xb, .int .i64 xm, .string xh, .slice ua xr.length uc] 37) := (set_other _ HGH.out.symm).trans ((set_other _ HGH.out.symm).trans HK3.out)
                  have HU4 : Hid (RdW (((w2.alloc (.cells #[.int .i64 p, .int .i64 q] 78)).setCell ⟨G, 0, none⟩ (.int .i64 (p + xn))).setCell ⟨G, 1, none⟩ (.int .i64 (q + xm))) (.slice ua xr.length uc) xr) := hid (HU0.out.below HB4.out)
                  obtain ⟨w4, hw4⟩ : ∃ w4, w4 = ((w2.alloc (.cells #[.int .i64 p, .int .i64 q] 78)).setCell ⟨G, 0, none⟩ (.int .i64 (p + xn))).setCell ⟨G, 1, none⟩ (.int .i64 (q + xm)) := ⟨_, rfl⟩
                  rw [← hw4] at hk4 HB4 hh4 HU4
                  have HW4 := hid hw4
                  have HK4 := hid hk4
                  have h0 : w4.cell? ⟨H, 0, none⟩ = some (.int .i64 xa) := cell_of_blk hh4 0
                  have h1 : w4.cell? ⟨H, 1, none⟩ = some (.int .i64 xn) := cell_of_blk hh4 1
                  have h2 : w4.cell? ⟨H, 2, none⟩ = some (.int .i64 xb) := cell_of_blk hh4 2
                  have h3 : w4.cell? ⟨H, 3, none⟩ = some (.int .i64 xm) := cell_of_blk hh4 3
                  have h4 : w4.cell? ⟨H, 4, none⟩ = some (.string xh) := cell_of_blk hh4 4
                  have h5 : w4.cell? ⟨H, 5, none⟩ = some (.slice ua xr.length uc) := cell_of_blk hh4 5
                  clear hw4 hh4 hk4
                  go_wp2_with (rw [← HW4.out])
                  refine (HSD.out w4 _ HU4.out).mono ?_
                  rintro e w5 ⟨v1, v2, rfl, hT, hb5⟩
                  obtain ⟨t1, c1, rfl⟩ := own_shape hT.1
                  obtain ⟨t2, c2, rfl⟩ := own_shape hT.2.1
                  have HTO := hid (own_rd hT.1)
                  have HTF := hid (own_rd hT.2.1)
                  have HB5 := hid (HB4.out.trans (hb5.mono HB4.out.size))
                  have HG5 := hid ((hb5.block G (lt_of_heap HK4.out)).trans HK4.out)
                  clear hT hb5
                  go_wp2_with fail
                  refine (HLF.out _ _ HTF.out).mono ?_
                  rintro e w6 ⟨rfl, h6⟩
                  rw [h6]
                  clear h6 w6
                  go_wp2_with fail
                  go_roundw
                  case rel => exact ⟨j + 1, true, lf, p + xn, q + xm, by omega, by go_num, rfl, rfl, by omega, by omega, by omega, by omega, HE, HG5, HB5⟩
                  case measure => simp [intOf]; omega
            | false =>
              cases ov with
              | true =>
                by_cases cM : 0 < xm
                · have HE := hid (RET.out (HO2.out.trans (if_pos (by exact .inr (.inr (.inr ⟨rfl, cM⟩))))))
                  go_wp2_with fail
                  go_ret
                  exact ⟨HE.out, HB3.out⟩
                · have HE : Hid (Hu.ordP l 0 0 false false = Hu.ordP (l.drop (j + 1)) (p + xn) (q + xm) lo true) := hid (by rw [HO2.out, if_neg (by intro hc; rcases hc with h | h | ⟨h, h'⟩ | ⟨h, h'⟩ <;> first | omega | cases h)]; rfl)
                  have hk4 := set_heap _ G 1 _ _ (.int .i64 (q + xm)) (set_heap _ G 0 _ _ (.int .i64 (p + xn)) HG3.out)
                  have HB4 := hid (below_set (k := 1) (u := .int .i64 (q + xm)) (below_set (k := 0) (u := .int .i64 (p + xn)) HB3.out HGW.out) HGW.out)
                  have hh4 : (((w2.alloc (.cells #[.int .i64 p, .int .i64 q] 78)).setCell ⟨G, 0, none⟩ (.int .i64 (p + xn))).setCell ⟨G, 1, none⟩ (.int .i64 (q + xm))).heap[H]? = some (.cells #[.int .i64 xa, .int .i64 xn, .int .i64 xb, .int .i64 xm, .string xh, .slice ua xr.length uc] 37) := (set_other _ HGH.out.symm).trans ((set_other _ HGH.out.symm).trans HK3.out)
                  have HU4 : Hid (RdW (((w2.alloc (.cells #[.int .i64 p, .int .i64 q] 78)).setCell ⟨G, 0, none⟩ (.int .i64 (p + xn))).setCell ⟨G, 1, none⟩ (.int .i64 (q + xm))) (.slice ua xr.length uc) xr) := hid (HU0.out.below HB4.out)
                  obtain ⟨w4, hw4⟩ : ∃ w4, w4 = ((w2.alloc (.cells #[.int .i64 p, .int .i64 q] 78)).setCell ⟨G, 0, none⟩ (.int .i64 (p + xn))).setCell ⟨G, 1, none⟩ (.int .i64 (q + xm)) := ⟨_, rfl⟩
                  rw [← hw4] at hk4 HB4 hh4 HU4
                  have HW4 := hid hw4
                  have HK4 := hid hk4
                  have h0 : w4.cell? ⟨H, 0, none⟩ = some (.int .i64 xa) := cell_of_blk hh4 0
                  have h1 : w4.cell? ⟨H, 1, none⟩ = some (.int .i64 xn) := cell_of_blk hh4 1
                  have h2 : w4.cell? ⟨H, 2, none⟩ = some (.int .i64 xb) := cell_of_blk hh4 2
                  have h3 : w4.cell? ⟨H, 3, none⟩ = some (.int .i64 xm) := cell_of_blk hh4 3
                  have h4 : w4.cell? ⟨H, 4, none⟩ = some (.string xh) := cell_of_blk hh4 4
                  have h5 : w4.cell? ⟨H, 5, none⟩ = some (.slice ua xr.length uc) := cell_of_blk hh4 5
                  clear hw4 hh4 hk4
                  go_wp2_with (rw [← HW4.out])
                  refine (HSD.out w4 _ HU4.out).mono ?_
                  rintro e w5 ⟨v1, v2, rfl, hT, hb5⟩
                  obtain ⟨t1, c1, rfl⟩ := own_shape hT.1
                  obtain ⟨t2, c2, rfl⟩ := own_shape hT.2.1
                  have HTO := hid (own_rd hT.1)
                  have HTF := hid (own_rd hT.2.1)
                  have HB5 := hid (HB4.out.trans (hb5.mono HB4.out.size))
                  have HG5 := hid ((hb5.block G (lt_of_heap HK4.out)).trans HK4.out)
                  clear hT hb5
                  go_wp2_with fail
                  refine (HLO.out _ _ HTO.out).mono ?_
                  rintro e w6 ⟨rfl, h6⟩
                  rw [h6]
                  clear h6 w6
                  go_wp2_with fail
                  go_roundw
                  case rel => exact ⟨j + 1, lo, true, p + xn, q + xm, by omega, by go_num, rfl, rfl, by omega, by omega, by omega, by omega, HE, HG5, HB5⟩
                  case measure => simp [intOf]; omega
              | false =>
                have HE : Hid (Hu.ordP l 0 0 false false = Hu.ordP (l.drop (j + 1)) (p + xn) (q + xm) lo lf) := hid (by rw [HO2.out, if_neg (by intro hc; rcases hc with h | h | ⟨h, h'⟩ | ⟨h, h'⟩ <;> first | omega | cases h)]; rfl)
                have hk4 := set_heap _ G 1 _ _ (.int .i64 (q + xm)) (set_heap _ G 0 _ _ (.int .i64 (p + xn)) HG3.out)
                have HB4 := hid (below_set (k := 1) (u := .int .i64 (q + xm)) (below_set (k := 0) (u := .int .i64 (p + xn)) HB3.out HGW.out) HGW.out)
                have hh4 : (((w2.alloc (.cells #[.int .i64 p, .int .i64 q] 78)).setCell ⟨G, 0, none⟩ (.int .i64 (p + xn))).setCell ⟨G, 1, none⟩ (.int .i64 (q + xm))).heap[H]? = some (.cells #[.int .i64 xa, .int .i64 xn, .int .i64 xb, .int .i64 xm, .string xh, .slice ua xr.length uc] 37) := (set_other _ HGH.out.symm).trans ((set_other _ HGH.out.symm).trans HK3.out)
                have HU4 : Hid (RdW (((w2.alloc (.cells #[.int .i64 p, .int .i64 q] 78)).setCell ⟨G, 0, none⟩ (.int .i64 (p + xn))).setCell ⟨G, 1, none⟩ (.int .i64 (q + xm))) (.slice ua xr.length uc) xr) := hid (HU0.out.below HB4.out)
                obtain ⟨w4, hw4⟩ : ∃ w4, w4 = ((w2.alloc (.cells #[.int .i64 p, .int .i64 q] 78)).setCell ⟨G, 0, none⟩ (.int .i64 (p + xn))).setCell ⟨G, 1, none⟩ (.int .i64 (q + xm)) := ⟨_, rfl⟩
                rw [← hw4] at hk4 HB4 hh4 HU4
                have HW4 := hid hw4
                have HK4 := hid hk4
                have h0 : w4.cell? ⟨H, 0, none⟩ = some (.int .i64 xa) := cell_of_blk hh4 0
                have h1 : w4.cell? ⟨H, 1, none⟩ = some (.int .i64 xn) := cell_of_blk hh4 1
                have h2 : w4.cell? ⟨H, 2, none⟩ = some (.int .i64 xb) := cell_of_blk hh4 2
                have h3 : w4.cell? ⟨H, 3, none⟩ = some (.int .i64 xm) := cell_of_blk hh4 3
                have h4 : w4.cell? ⟨H, 4, none⟩ = some (.string xh) := cell_of_blk hh4 4
                have h5 : w4.cell? ⟨H, 5, none⟩ = some (.slice ua xr.length uc) := cell_of_blk hh4 5
                clear hw4 hh4 hk4
                go_wp2_with (rw [← HW4.out])
                refine (HSD.out w4 _ HU4.out).mono ?_
                rintro e w5 ⟨v1, v2, rfl, hT, hb5⟩
                obtain ⟨t1, c1, rfl⟩ := own_shape hT.1
                obtain ⟨t2, c2, rfl⟩ := own_shape hT.2.1
                have HTO := hid (own_rd hT.1)
                have HTF := hid (own_rd hT.2.1)
                have HB5 := hid (HB4.out.trans (hb5.mono HB4.out.size))
                have HG5 := hid ((hb5.block G (lt_of_heap HK4.out)).trans HK4.out)
                clear hT hb5
                go_wp2_with fail
                refine (HLO.out _ _ HTO.out).mono ?_
                rintro e w6 ⟨rfl, h6⟩
                rw [h6]
                clear h6 w6
                go_wp2_with fail
                refine (HLF.out _ _ HTF.out).mono ?_
                rintro e w6 ⟨rfl, h6⟩
                rw [h6]
                clear h6 w6
                go_wp2_with fail
                go_roundw
                case rel => exact ⟨j + 1, lo, lf, p + xn, q + xm, by omega, by go_num, rfl, rfl, by omega, by omega, by omega, by omega, HE, HG5, HB5⟩
                case measure => simp [intOf]; omega
          · obtain ⟨D1, hD1⟩ : ∃ D, D = p - x := ⟨_, rfl⟩
            obtain ⟨D2, hD2⟩ : ∃ D, D = q - y := ⟨_, rfl⟩
            have HE := hid (RET.out (HO2.out.trans (if_pos (.inr (.inl cB)))))
            rw [← hD1, ← hD2] at cB
            replace s1 := s1.trans hD1.symm
            replace s2 := s2.trans hD2.symm
            have zB : (D1 == D2) = false := zne cB
            have zC : (D1 != D2) = true := bne_yes cB
            clear cB hD1 hD2
            go_wp2_with fail
            go_ret
            exact ⟨HE.out, HB3.out⟩
        · have hk3 : l.drop j = [] := List.drop_eq_nil_of_le (by have := HN.out; omega)
          have HE : Hid (Hu.orderN l = 0) := hid (by rw [HEN.out, HO.out, hk3]; rfl)
          have i2 : ¬ (j : Int) < (k : Int) := by omega
          clear hk3
          go_wp2_with fail
          go_ret
          exact ⟨by rw [HE.out]; rfl, HB.out⟩
end Go.Proofs.YtddmfdjkkikapaaGreatDoor
