/-
  The program's pieces.
-/
import Derived.Test.YtnamioihapnefaaGreatDoorMg
import Derived.Test.YtnamioihapnefaaGreatDoorGrKc
import Derived.Test.YtnamioihapnefaaGreatDoorMc
namespace Go.Proofs.YtnamioihapnefaaGreatDoor
open Go.RowKit
open Hu (Rw Hk)

set_option maxHeartbeats 1500000 in
set_option maxRecDepth 100000 in
theorem pieces_any {w : World} {h : Hk} {v vs : Value} {ss : List Sp} (hv : RdW w v h.rows) (hs : RdSp w vs ss) (hl : h.rows.length ≤ 4294967296) (hk : Kd h.rows) (hp : 0 ≤ Hu.plc h.a h.n ∧ Hu.plc h.a h.n ≤ 4294967296 ∧ 0 ≤ Hu.plc h.b h.m ∧ Hu.plc h.b h.m ≤ 4294967296) (hpl : PlH h)
    (hne : ss ≠ []) (hsl : ss.length ≤ 4294967296) (hin : ∀ s ∈ ss, s.1 < s.2 ∧ s.2 ≤ h.rows.length) (hord : ∀ i s t, ss[i]? = some s → ss[i + 1]? = some t → s.1 ≤ t.1) :
    Calls Tryz.prog 75 #[HkV h v, vs] w fun e w' => ∃ v', e = .returned v' ∧ OwnH w' w.heap.size v' (headed h.head (ss.map fun s => cutP h s.1 s.2)) ∧ Below w.heap.size w w' := by
  obtain ⟨av, cv, rfl⟩ := hv.shape
  obtain ⟨sv, sc, rfl⟩ := hs.shape
  have hcap := rd_cap hv
  have HV := hid hv
  have HS := hid hs
  have HIN := hid hin
  have HOR := hid hord
  have HBG := hid (fun w1 => begin_any (h := h) (v := .slice av h.rows.length cv) w1 hpl)
  obtain ⟨xa, xn, xb, xm, xh, xr⟩ := h
  dsimp only at *
  obtain ⟨P, hP⟩ : ∃ P, P = Hu.plc xa xn := ⟨_, rfl⟩
  obtain ⟨Q, hQ⟩ : ∃ Q, Q = Hu.plc xb xm := ⟨_, rfl⟩
  rw [← hP, ← hQ] at HBG hp
  have HP := hid hP
  have HQ := hid hQ
  unfold HkV SpV at HBG
  unfold HkV
  dsimp only at HBG ⊢
  obtain ⟨N, hN⟩ : ∃ N, N = xr.length := ⟨_, rfl⟩
  have HN := hid hN
  obtain ⟨n, hn⟩ : ∃ n, n = ss.length := ⟨_, rfl⟩
  have HNN := hid hn
  have hn0 : 0 < n := by rw [hn]; exact List.length_pos_iff.2 hne
  rw [← hN] at HBG hl hcap ⊢
  rw [← hn] at hsl ⊢
  have HKD := hid hk
  obtain ⟨C, hmk, hmo⟩ := mkH2 n hsl
  have HMO := hid hmo
  clear hmo
  clear hv hs hin hord hpl hP hQ hN hn hne hk
  go_enter Tryz.func75, Tryz.ntmps75
  go_wp2_with fail
  obtain ⟨t1, t2, t3, t4⟩ := two' w (.cells #[.int .i64 xa, .int .i64 xn, .int .i64 xb, .int .i64 xm, .string xh, .slice av N cv] 29) (.cells C 29)
  have s1 : (w.alloc (.cells #[.int .i64 xa, .int .i64 xn, .int .i64 xb, .int .i64 xm, .string xh, .slice av N cv] 29)).heap.size = w.heap.size + 1 := alloc_one _ _
  have hO := HMO.out (w.alloc (.cells #[.int .i64 xa, .int .i64 xn, .int .i64 xb, .int .i64 xm, .string xh, .slice av N cv] 29))
  rw [s1] at hO
  generalize (w.alloc (.cells #[.int .i64 xa, .int .i64 xn, .int .i64 xb, .int .i64 xm, .string xh, .slice av N cv] 29)).alloc (.cells C 29) = w1 at t1 t2 t3 t4 hO ⊢
  obtain ⟨H, hH⟩ : ∃ H, H = w.heap.size := ⟨_, rfl⟩
  have HH := hid hH
  rw [← hH] at t2 t4 hO ⊢
  refine (HBG.out w1).mono ?_
  rintro e w2 ⟨rfl, hb2⟩
  have HB2 := hid (t1.trans (hb2.mono t1.size))
  have HK2 := hid ((hb2.block H (lt_of_heap t2)).trans t2)
  have HO2 := hid ((hO.stays hb2).mono (show H ≤ H + 1 by omega))
  have hz2 : H + 2 ≤ w2.heap.size := by have := hb2.size; omega
  clear t1 t2 t3 t4 hO hb2 hmk HBG s1 hH
  have hbA := (Below.refl w2.heap.size w2).alloc (Nat.le_refl _) (.cells #[.int .i64 P, .int .i64 Q] 82)
  have hkA := heap_alloc_new w2 (.cells #[.int .i64 P, .int .i64 Q] 82)
  go_wp2_with fail
  obtain ⟨A, hA⟩ : ∃ A, A = w2.heap.size := ⟨_, rfl⟩
  have hAH : H + 2 ≤ A := by omega
  have HB3 := hid (HB2.out.trans (hbA.mono HB2.out.size))
  have HK3 := hid ((hbA.block H (lt_of_heap HK2.out)).trans HK2.out)
  have HO3 := hid (HO2.out.stays hbA)
  have HA3 := hid hkA
  rw [← hA] at HA3 ⊢
  generalize w2.alloc (.cells #[.int .i64 P, .int .i64 Q] 82) = w3 at HB3 HK3 HO3 HA3 ⊢
  clear hbA hkA HB2 HK2 HO2 hz2 hA
  go_loopw [7, 17] (fun dd ii wr => ∃ (k d : Nat) (X : List Hk), k ≤ n ∧ d ≤ N ∧ dd = .int .i64 d ∧ ii = .int .i64 k ∧ Hid (∀ s, ss[k]? = some s → d ≤ s.1) ∧ Hid (wr.heap[A]? = some (.cells #[.int .i64 (P + (Hu.olds (xr.take d)).length), .int .i64 (Q + (Hu.fres (xr.take d)).length)] 82)) ∧ Hid (wr.heap[H]? = some (.cells #[.int .i64 xa, .int .i64 xn, .int .i64 xb, .int .i64 xm, .string xh, .slice av N cv] 29)) ∧ Hid (X = ((ss.take k).map fun s => cutP ⟨xa, xn, xb, xm, xh, xr⟩ s.1 s.2) ++ List.replicate (n - k) zH) ∧ Hid (OwnH wr H (.slice (some ⟨H + 1, 0, none⟩) n n) X) ∧ Hid (Below w.heap.size w wr)) (fun _ ii _ => n - (intOf ii).toNat)
  case atStart => exact ⟨0, 0, List.replicate n zH, Nat.zero_le _, Nat.zero_le _, rfl, rfl, hid (fun _ _ => Nat.zero_le _), hid (by rw [HA3.out]; simp [Hu.olds, Hu.fres]), HK3, hid rfl, HO3, HB3⟩
  case round =>
    obtain ⟨k, d, X, hk, hd, rfl, rfl, HD, HA, HK, HX, HO, HB⟩ := hrel
    by_cases hlt : k < n
    · obtain ⟨s, hs⟩ : ∃ s, ss[k]? = some s := ⟨_, List.getElem?_eq_getElem (by have := HNN.out; omega)⟩
      obtain ⟨b1, o1, e1, hb1, d0, d1⟩ := rdSp_at HS.out hs
      subst e1
      replace d0 := (HB.out.cell (p := ⟨b1, _, none⟩) hb1).trans d0
      replace d1 := (HB.out.cell (p := ⟨b1, _, none⟩) hb1).trans d1
      have hds := HD.out s hs
      have hsi := HIN.out s (List.mem_of_getElem? hs)
      rw [← HN.out] at hsi
      have HDN : Hid (∀ t, ss[k + 1]? = some t → s.1 ≤ t.1) := hid (fun t ht => HOR.out k s t hs ht)
      have HSG := hid hs
      obtain ⟨f, t⟩ := s
      dsimp only at d0 d1 hds hsi HDN
      have i1 : (0 : Int) ≤ (k : Int) := by omega
      have i2 : (k : Int) < (n : Int) := by omega
      clear hs hb1
      have hbG := (Below.refl wr.heap.size wr).alloc (Nat.le_refl _) (.cells #[.int .i64 f, .int .i64 t] 95)
      have hkG := heap_alloc_new wr (.cells #[.int .i64 f, .int .i64 t] 95)
      go_wp2_with fail
      obtain ⟨G, hG⟩ : ∃ G, G = wr.heap.size := ⟨_, rfl⟩
      have HB4 := hid (HB.out.trans (hbG.mono HB.out.size))
      have HK4 := hid ((hbG.block H (lt_of_heap HK.out)).trans HK.out)
      have HA4 := hid ((hbG.block A (lt_of_heap HA.out)).trans HA.out)
      have HO4 := hid (HO.out.stays hbG)
      have HG4 := hid hkG
      rw [← hG] at HG4 ⊢
      generalize wr.alloc (.cells #[.int .i64 f, .int .i64 t] 95) = w4 at HB4 HK4 HO4 HA4 HG4 ⊢
      clear hbG hkG HB HK HO HA d0 d1 hG
      obtain ⟨O1, hO1⟩ : ∃ O1 : Int, O1 = P + (Hu.olds (xr.take d)).length := ⟨_, rfl⟩
      obtain ⟨F1, hF1⟩ : ∃ F1 : Int, F1 = Q + (Hu.fres (xr.take d)).length := ⟨_, rfl⟩
      obtain ⟨O2, hO2⟩ : ∃ O2 : Int, O2 = P + (Hu.olds (xr.take f)).length := ⟨_, rfl⟩
      obtain ⟨F2, hF2⟩ : ∃ F2 : Int, F2 = Q + (Hu.fres (xr.take f)).length := ⟨_, rfl⟩
      rw [← hO1, ← hF1] at HA4
      obtain ⟨e1, e2⟩ := Hu.olds_take_sub (l := xr) hds
      have hol := Hu.olds_len (xr.take f)
      have hfl := Hu.fres_len (xr.take f)
      have htl : (xr.take f).length ≤ N := by rw [HN.out]; exact List.length_take_le' _ _
      have q1 : O1 + (Hu.olds ((xr.drop d).take (f - d))).length = O2 ∧ F1 + (Hu.fres ((xr.drop d).take (f - d))).length = F2 := by unfold Hu.sub at e1 e2; omega
      have HC1 := hid (fun w1 (hr1 : RdW w1 (.slice av xr.length cv) xr) => behind_any (x := O1) (y := F1) (rdW_sliced hr1 (x := d) (y := f) hds (by have := HN.out; omega)) (by rw [List.length_take, List.length_drop]; have := HN.out; omega) (fun r hr => HKD.out r (List.mem_of_mem_drop (List.mem_of_mem_take hr))) (by omega) (by omega) (by omega) (by omega))
      rw [q1.1, q1.2] at HC1
      unfold SpV at HC1
      rw [if_neg (show ¬ cv = d by omega)] at HC1
      have hO2b : 0 ≤ O2 ∧ O2 ≤ 5868357000000 ∧ 0 ≤ F2 ∧ F2 ≤ 5868357000000 := by omega
      have HO2 := hid hO2
      have HF2 := hid hF2
      clear q1 e1 e2 hol hfl htl hO1 hF1 hO2 hF2
      have nGA : G ≠ A := blk_ne HG4.out HA4.out (by decide)
      have nHA : H ≠ A := blk_ne HK4.out HA4.out (by decide)
      have a0 : w4.cell? ⟨A, 0, none⟩ = some (.int .i64 O1) := cell_of_blk HA4.out 0
      have a1 : w4.cell? ⟨A, 1, none⟩ = some (.int .i64 F1) := cell_of_blk HA4.out 1
      have b5 : w4.cell? ⟨H, 5, none⟩ = some (.slice av N cv) := cell_of_blk HK4.out 5
      have g0 : w4.cell? ⟨G, 0, none⟩ = some (.int .i64 f) := cell_of_blk HG4.out 0
      have g1 : w4.cell? ⟨G, 1, none⟩ = some (.int .i64 t) := cell_of_blk HG4.out 1
      have z1 : (0 : Int) ≤ (d : Int) := by omega
      have z2 : (d : Int) ≤ (f : Int) := by omega
      have z3 : (f : Int) ≤ (cv : Int) := by omega
      have z4 : (f : Int) ≤ (t : Int) := by omega
      have z5 : (t : Int) ≤ (cv : Int) := by omega
      have z6 : (0 : Int) ≤ (f : Int) := by omega
      have hcd : ¬ cv = d := by omega
      have HR4 : Hid (∀ w5, Below w4.heap.size w4 w5 → RdW w5 (.slice av xr.length cv) xr) := hid (fun w5 hb => HV.out.below (HB4.out.trans (hb.mono HB4.out.size)))
      have HBD := hid (below_drew (Below.refl w4.heap.size w4))
      rw [← HN.out] at HC1
      refine wp_region_noPanic ?_
      refine wp_region_held_drew (S := fun w' => w'.cell? ⟨H, 5, none⟩ = some (.slice av N cv) ∧ w'.cell? ⟨G, 0, none⟩ = some (.int .i64 f)) (by kernel_rfl) ?S (fun hHeld => ?M)
      case S => exact ⟨(HBD.out.cell (p := ⟨H, 5, none⟩) (lt_of_heap HK4.out)).trans b5, (HBD.out.cell (p := ⟨G, 0, none⟩) (lt_of_heap HG4.out)).trans g0⟩
      refine wpAnyH_take (i := 1) (v := ?v1) rfl (by kernel_rfl) (by kernel_rfl) (by kernel_rfl) (fun _ _ _ h => h) (Or.inl ⟨by rfl, fun ww hSw => ?y1⟩) hHeld ?r1
      case y1 => (dsimp only at hSw; go_simp; all_goals with_reducible rfl)
      try simp only [Act.put]
      try simp only [List.setIfInBounds_toArray]
      try simp only [List.set]
      refine wpAnyH_take (i := 2) (v := ?v2) rfl (by kernel_rfl) (by kernel_rfl) (by kernel_rfl) (fun _ _ _ h => h) (Or.inl ⟨by rfl, fun ww hSw => ?y2⟩) hHeld ?r2
      case y2 => (dsimp only at hSw; go_simp; all_goals with_reducible rfl)
      try simp only [Act.put]
      try simp only [List.setIfInBounds_toArray]
      try simp only [List.set]
      refine wpAnyH_take (i := 3) (v := ?v3) rfl (by kernel_rfl) (by kernel_rfl) (by kernel_rfl) (fun _ _ _ h => h) (Or.inl ⟨by rfl, fun ww hSw => ?y3⟩) hHeld ?r3
      case y3 => (dsimp only at hSw; go_simp; all_goals with_reducible rfl)
      try simp only [Act.put]
      try simp only [List.setIfInBounds_toArray]
      try simp only [List.set]
      refine wpAnyH_take (i := 4) (v := ?v4) rfl (by kernel_rfl) (by kernel_rfl) (by kernel_rfl) (fun _ _ _ h => h) (Or.inl ⟨by rfl, fun ww hSw => ?y4⟩) hHeld ?r4
      case y4 => (dsimp only at hSw; go_simp; all_goals with_reducible rfl)
      try simp only [Act.put]
      try simp only [List.setIfInBounds_toArray]
      try simp only [List.set]
      refine wpAnyH_take (i := 5) (v := ?v5) rfl (by kernel_rfl) (by kernel_rfl) (by kernel_rfl) (fun _ _ _ h => h) (Or.inl ⟨by rfl, fun ww hSw => ?y5⟩) hHeld ?r5
      case y5 => (dsimp only at hSw; go_simp; all_goals with_reducible rfl)
      try simp only [Act.put]
      try simp only [List.setIfInBounds_toArray]
      try simp only [List.set]
      refine wpAnyH_take (i := 6) (v := ?v6) rfl (by kernel_rfl) (by kernel_rfl) (by kernel_rfl) (fun _ _ _ h => h) (Or.inl ⟨by rfl, fun ww hSw => ?y6⟩) hHeld ?r6
      case y6 => (dsimp only at hSw; go_simp; all_goals with_reducible rfl)
      try simp only [Act.put]
      try simp only [List.setIfInBounds_toArray]
      try simp only [List.set]
      refine wpAnyH_take (i := 8) (v := ?v8) rfl (by kernel_rfl) (by kernel_rfl) (by kernel_rfl) (fun _ _ _ h => h) (Or.inl ⟨by rfl, fun ww hSw => ?y8⟩) hHeld ?r8
      case y8 => (dsimp only at hSw; go_simp; all_goals with_reducible rfl)
      try simp only [Act.put]
      try simp only [List.setIfInBounds_toArray]
      try simp only [List.set]
      refine wpAnyH_take (i := 9) (v := ?v9) rfl (by kernel_rfl) (by kernel_rfl) (by kernel_rfl) (fun _ _ _ h => h) (Or.inl ⟨by rfl, fun ww hSw => ?y9⟩) hHeld ?r9
      case y9 => (dsimp only at hSw; go_simp; all_goals with_reducible rfl)
      try simp only [Act.put]
      try simp only [List.setIfInBounds_toArray]
      try simp only [List.set]
      refine wpAnyH_ready (rs := [0]) (by kernel_rfl) (by simp) ?p0
      refine AllReadyH.cons rfl (fun K hK => ?_) AllReadyH.nil
      go_simp
      refine hK.out _ _ ?S0 (fun hHeld => ?M0)
      case S0 => exact hHeld
      clear hK K
      try simp only [Act.put]
      try simp only [List.setIfInBounds_toArray]
      try simp only [List.set]
      refine wpAnyH_ready (rs := [7]) (by kernel_rfl) (by simp) ?p7
      refine AllReadyH.cons rfl (fun K hK => ?_) AllReadyH.nil
      go_simp
      refine (HC1.out _ (by rw [← HN.out] at HR4; exact HR4.out _ (by with_reducible exact HBD.out))).mono ?_
      rintro e w5 ⟨rfl, hbk⟩
      have HBK : Hid (Below w4.heap.size w4 w5) := hid ((below_drew (Below.refl w4.heap.size w4)).trans hbk)
      have HA5 := hid ((HBK.out.block A (lt_of_heap HA4.out)).trans HA4.out)
      have HK5 := hid ((HBK.out.block H (lt_of_heap HK4.out)).trans HK4.out)
      have HG5 := hid ((HBK.out.block G (lt_of_heap HG4.out)).trans HG4.out)
      have y0 : w5.cell? ⟨A, 0, none⟩ = some (.int .i64 O1) := cell_of_blk HA5.out 0
      have y1 : w5.cell? ⟨A, 1, none⟩ = some (.int .i64 F1) := cell_of_blk HA5.out 1
      have yf : ∀ j, w5.frozen? ⟨A, j, none⟩ = false := fun j => frozen_of_blk HA5.out j
      clear hbk
      go_wp2_with fail
      refine hK.out _ _ ?S7 (fun hHeld => ?M7)
      case S7 => exact ⟨cell_of_blk HK5.out 5, cell_of_blk HG5.out 0⟩
      clear hK K
      try simp only [Act.put]
      try simp only [List.setIfInBounds_toArray]
      try simp only [List.set]
      refine wpAnyH_ready (rs := [10]) (by kernel_rfl) (by simp) ?p10
      refine AllReadyH.cons rfl (fun K hK => ?_) AllReadyH.nil
      go_wp2_with fail
      refine hK.out _ _ ?S10 (fun hHeld => ?M10)
      case S10 => exact ⟨(cell_set_far nHA).trans ((cell_set_far nHA).trans (cell_of_blk HK5.out 5)), (cell_set_far nGA).trans ((cell_set_far nGA).trans (cell_of_blk HG5.out 0))⟩
      clear hK K
      try simp only [Act.put]
      try simp only [List.setIfInBounds_toArray]
      try simp only [List.set]
      refine wpAnyH_ready (rs := [11]) (by kernel_rfl) (by simp) ?p11
      refine AllReadyH.cons rfl (fun K hK => ?_) AllReadyH.nil
      go_simp
      refine hK.out _ _ ?S11 (fun hHeld => ?M11)
      case S11 => exact hHeld
      clear hK K
      try simp only [Act.put]
      try simp only [List.setIfInBounds_toArray]
      try simp only [List.set]
      refine wpAnyH_done (by kernel_rfl) ?_ _
      refine NoPanic.normal ?_
      have HA6 := hid (set_heap _ A 1 _ _ (.int .i64 F2) (set_heap _ A 0 _ _ (.int .i64 O2) HA5.out))
      have HK6 := hid ((set_other (w5.setCell ⟨A, 0, none⟩ (.int .i64 O2)) (k := 1) (u := .int .i64 F2) nHA).trans ((set_other w5 (k := 0) (u := .int .i64 O2) nHA).trans HK5.out))
      have HG6 := hid ((set_other (w5.setCell ⟨A, 0, none⟩ (.int .i64 O2)) (k := 1) (u := .int .i64 F2) nGA).trans ((set_other w5 (k := 0) (u := .int .i64 O2) nGA).trans HG5.out))
      have HB6 := hid (below_set (k := 1) (u := .int .i64 F2) (below_set (k := 0) (u := .int .i64 O2) (HB4.out.trans (HBK.out.mono HB4.out.size)) (show w.heap.size ≤ A by have := HH.out; omega)) (show w.heap.size ≤ A by have := HH.out; omega))
      have HO6 : Hid (OwnH ((w5.setCell ⟨A, 0, none⟩ (.int .i64 O2)).setCell ⟨A, 1, none⟩ (.int .i64 F2)) H (.slice (some ⟨H + 1, 0, none⟩) n n) X) := hid (ownH_far (ownH_far (HO4.out.stays HBK.out) HA5.out (by decide) (by decide)) (set_heap _ A 0 _ _ (.int .i64 O2) HA5.out) (by decide) (by decide))
      generalize (w5.setCell ⟨A, 0, none⟩ (.int .i64 O2)).setCell ⟨A, 1, none⟩ (.int .i64 F2) = w6 at HA6 HK6 HG6 HB6 HO6 ⊢
      clear HA5 HK5 HG5 HBK y0 y1 yf hHeld
      clear a0 a1 b5 g0 g1 HR4 HBD HC1 hcd HB4 HK4 HA4 HO4 HG4 z1 z2
      have a0 : w6.cell? ⟨A, 0, none⟩ = some (.int .i64 O2) := cell_of_blk HA6.out 0
      have a1 : w6.cell? ⟨A, 1, none⟩ = some (.int .i64 F2) := cell_of_blk HA6.out 1
      have b5 : w6.cell? ⟨H, 5, none⟩ = some (.slice av N cv) := cell_of_blk HK6.out 5
      have g0 : w6.cell? ⟨G, 0, none⟩ = some (.int .i64 f) := cell_of_blk HG6.out 0
      have g1 : w6.cell? ⟨G, 1, none⟩ = some (.int .i64 t) := cell_of_blk HG6.out 1
      have HSB := hid (fun w1 (hr1 : RdW w1 (.slice av xr.length cv) xr) => clone_any (rdW_sliced hr1 (x := f) (y := t) (Nat.le_of_lt hsi.1) (by have := HN.out; omega)) (fun e => by have := congrArg List.length e; rw [List.length_take, List.length_drop, List.length_nil] at this; have := HN.out; omega) (by rw [List.length_take, List.length_drop]; have := HN.out; omega))
      rw [if_neg (show ¬ cv = f by omega), ← HN.out] at HSB
      obtain ⟨U, hU⟩ : ∃ U, U = (xr.drop f).take (t - f) := ⟨_, rfl⟩
      have HU := hid hU
      rw [← hU] at HSB
      have HUl : Hid (U.length < 5864062014800 ∧ Kd U) := hid ⟨by rw [hU, List.length_take, List.length_drop]; have := HN.out; omega, fun r hr => HKD.out r (by rw [hU] at hr; exact List.mem_of_mem_drop (List.mem_of_mem_take hr))⟩
      clear hU
      have HHK := hid (fun w1 v1 (hr1 : RdW w1 v1 U) => hunk_any (x := O2) (y := F2) hr1 HUl.out.1 HUl.out.2 (by omega) (by omega) (by omega) (by omega))
      obtain ⟨ka, kn, kb, km, kh, kr, hhk⟩ : ∃ ka kn kb km kh kr, Hu.hunkAt O2 F2 U = ⟨ka, kn, kb, km, kh, kr⟩ := ⟨_, _, _, _, _, _, rfl⟩
      have HKE := hid hhk
      rw [hhk] at HHK
      unfold HkV SpV at HHK
      dsimp only at HHK
      have HRU : Hid (kr = U) := hid (by have := congrArg Hk.rows hhk; exact this.symm)
      clear hhk
      have HR6 : Hid (∀ w7, Below w6.heap.size w6 w7 → RdW w7 (.slice av N cv) xr) := hid (fun w7 hb => HN.out ▸ HV.out.below (HB6.out.trans (hb.mono HB6.out.size)))
      have HBD := hid (below_drew (Below.refl w6.heap.size w6))
      have hcf : ¬ cv = f := by omega
      have hk6 : k * 6 + 6 ≤ n * 6 := by omega
      have nHA6 : H + 1 ≠ A := by omega
      have nAL : A ≠ H + 1 := by omega
      have nHL : H ≠ H + 1 := by omega
      have nGL : G ≠ H + 1 := by
        obtain ⟨cur, h1, _, _⟩ := ownH_cells HO6.out
        exact blk_ne HG6.out h1 (by decide)
      go_wp2_with fail
      refine wp_region_noPanic ?_
      refine wp_region_held_drew (S := fun w' => w'.cell? ⟨A, 0, none⟩ = some (.int .i64 O2) ∧ w'.cell? ⟨A, 1, none⟩ = some (.int .i64 F2) ∧ w'.cell? ⟨H, 5, none⟩ = some (.slice av N cv) ∧ w'.cell? ⟨G, 0, none⟩ = some (.int .i64 f) ∧ w'.cell? ⟨G, 1, none⟩ = some (.int .i64 t)) (by kernel_rfl) ?Sb (fun hHeld => ?Mb)
      case Sb => exact ⟨(HBD.out.cell (p := ⟨A, 0, none⟩) (lt_of_heap HA6.out)).trans a0, (HBD.out.cell (p := ⟨A, 1, none⟩) (lt_of_heap HA6.out)).trans a1, (HBD.out.cell (p := ⟨H, 5, none⟩) (lt_of_heap HK6.out)).trans b5, (HBD.out.cell (p := ⟨G, 0, none⟩) (lt_of_heap HG6.out)).trans g0, (HBD.out.cell (p := ⟨G, 1, none⟩) (lt_of_heap HG6.out)).trans g1⟩
      refine wpAnyH_take (i := 0) (v := ?vb0) rfl (by kernel_rfl) (by kernel_rfl) (by kernel_rfl) (fun _ _ _ h => h) (Or.inl ⟨by rfl, fun ww hSw => ?yb0⟩) hHeld ?rb0
      case yb0 => (dsimp only at hSw; go_simp; all_goals with_reducible rfl)
      try simp only [Act.put]
      try simp only [List.setIfInBounds_toArray]
      try simp only [List.set]
      refine wpAnyH_take (i := 1) (v := ?vb1) rfl (by kernel_rfl) (by kernel_rfl) (by kernel_rfl) (fun _ _ _ h => h) (Or.inl ⟨by rfl, fun ww hSw => ?yb1⟩) hHeld ?rb1
      case yb1 => (dsimp only at hSw; go_simp; all_goals with_reducible rfl)
      try simp only [Act.put]
      try simp only [List.setIfInBounds_toArray]
      try simp only [List.set]
      refine wpAnyH_take (i := 2) (v := ?vb2) rfl (by kernel_rfl) (by kernel_rfl) (by kernel_rfl) (fun _ _ _ h => h) (Or.inl ⟨by rfl, fun ww hSw => ?yb2⟩) hHeld ?rb2
      case yb2 => (dsimp only at hSw; go_simp; all_goals with_reducible rfl)
      try simp only [Act.put]
      try simp only [List.setIfInBounds_toArray]
      try simp only [List.set]
      refine wpAnyH_take (i := 3) (v := ?vb3) rfl (by kernel_rfl) (by kernel_rfl) (by kernel_rfl) (fun _ _ _ h => h) (Or.inl ⟨by rfl, fun ww hSw => ?yb3⟩) hHeld ?rb3
      case yb3 => (dsimp only at hSw; go_simp; all_goals with_reducible rfl)
      try simp only [Act.put]
      try simp only [List.setIfInBounds_toArray]
      try simp only [List.set]
      refine wpAnyH_take (i := 4) (v := ?vb4) rfl (by kernel_rfl) (by kernel_rfl) (by kernel_rfl) (fun _ _ _ h => h) (Or.inl ⟨by rfl, fun ww hSw => ?yb4⟩) hHeld ?rb4
      case yb4 => (dsimp only at hSw; go_simp; all_goals with_reducible rfl)
      try simp only [Act.put]
      try simp only [List.setIfInBounds_toArray]
      try simp only [List.set]
      refine wpAnyH_take (i := 5) (v := ?vb5) rfl (by kernel_rfl) (by kernel_rfl) (by kernel_rfl) (fun _ _ _ h => h) (Or.inl ⟨by rfl, fun ww hSw => ?yb5⟩) hHeld ?rb5
      case yb5 => (dsimp only at hSw; go_simp; all_goals with_reducible rfl)
      try simp only [Act.put]
      try simp only [List.setIfInBounds_toArray]
      try simp only [List.set]
      refine wpAnyH_take (i := 6) (v := ?vb6) rfl (by kernel_rfl) (by kernel_rfl) (by kernel_rfl) (fun _ _ _ h => h) (Or.inl ⟨by rfl, fun ww hSw => ?yb6⟩) hHeld ?rb6
      case yb6 => (dsimp only at hSw; go_simp; all_goals with_reducible rfl)
      try simp only [Act.put]
      try simp only [List.setIfInBounds_toArray]
      try simp only [List.set]
      refine wpAnyH_take (i := 7) (v := ?vb7) rfl (by kernel_rfl) (by kernel_rfl) (by kernel_rfl) (fun _ _ _ h => h) (Or.inl ⟨by rfl, fun ww hSw => ?yb7⟩) hHeld ?rb7
      case yb7 => (dsimp only at hSw; go_simp; all_goals with_reducible rfl)
      try simp only [Act.put]
      try simp only [List.setIfInBounds_toArray]
      try simp only [List.set]
      refine wpAnyH_take (i := 8) (v := ?vb8) rfl (by kernel_rfl) (by kernel_rfl) (by kernel_rfl) (fun _ _ _ h => h) (Or.inl ⟨by rfl, fun ww hSw => ?yb8⟩) hHeld ?rb8
      case yb8 => (dsimp only at hSw; go_simp; all_goals with_reducible rfl)
      try simp only [Act.put]
      try simp only [List.setIfInBounds_toArray]
      try simp only [List.set]
      refine wpAnyH_take (i := 9) (v := ?vb9) rfl (by kernel_rfl) (by kernel_rfl) (by kernel_rfl) (fun _ _ _ h => h) (Or.inl ⟨by rfl, fun ww hSw => ?yb9⟩) hHeld ?rb9
      case yb9 => (dsimp only at hSw; go_simp; all_goals with_reducible rfl)
      try simp only [Act.put]
      try simp only [List.setIfInBounds_toArray]
      try simp only [List.set]
      refine wpAnyH_ready (rs := [10]) (by kernel_rfl) (by simp) ?pb10
      refine AllReadyH.cons rfl (fun K hK => ?_) AllReadyH.nil
      go_simp
      refine (HSB.out _ (HR6.out _ (by with_reducible exact HBD.out))).mono ?_
      rintro e w7 ⟨v7, rfl, hO7, hbk⟩
      obtain ⟨a7, c7, e7⟩ := own_shape hO7
      subst e7
      have HB7 : Hid (Below w6.heap.size w6 w7) := hid ((below_drew (Below.refl w6.heap.size w6)).trans hbk)
      have HW7 := hid (own_mono hO7 HBD.out.size)
      clear hO7 hbk
      go_wp2_with fail
      refine hK.out _ _ ?Sb10 (fun hHeld => ?Mb10)
      case Sb10 => exact ⟨(HB7.out.cell (p := ⟨A, 0, none⟩) (lt_of_heap HA6.out)).trans a0, (HB7.out.cell (p := ⟨A, 1, none⟩) (lt_of_heap HA6.out)).trans a1, (HB7.out.cell (p := ⟨H, 5, none⟩) (lt_of_heap HK6.out)).trans b5, (HB7.out.cell (p := ⟨G, 0, none⟩) (lt_of_heap HG6.out)).trans g0, (HB7.out.cell (p := ⟨G, 1, none⟩) (lt_of_heap HG6.out)).trans g1⟩
      clear hK K
      try simp only [Act.put]
      try simp only [List.setIfInBounds_toArray]
      try simp only [List.set]
      refine wpAnyH_ready (rs := [11]) (by kernel_rfl) (by simp) ?pb11
      refine AllReadyH.cons rfl (fun K hK => ?_) AllReadyH.nil
      go_simp
      refine (HHK.out _ _ (own_rd HW7.out)).mono ?_
      rintro e w8 ⟨rfl, hbk2⟩
      have HB8 : Hid (Below w6.heap.size w6 w8) := hid (HB7.out.trans (hbk2.mono HB7.out.size))
      have HW8 := hid (own_stays HW7.out hbk2)
      have HO8 := hid (HO6.out.stays HB8.out)
      have HA8 := hid ((HB8.out.block A (lt_of_heap HA6.out)).trans HA6.out)
      have HK8 := hid ((HB8.out.block H (lt_of_heap HK6.out)).trans HK6.out)
      have HG8 := hid ((HB8.out.block G (lt_of_heap HG6.out)).trans HG6.out)
      obtain ⟨cur, hcur, hcs, hnX⟩ := ownH_cells HO8.out
      clear hnX
      have HCU := hid hcur
      have r0 := cell_there HCU.out (show k * 6 < cur.size by omega)
      have r1 := cell_there HCU.out (show k * 6 + 1 < cur.size by omega)
      have r2 := cell_there HCU.out (show k * 6 + 2 < cur.size by omega)
      have r3 := cell_there HCU.out (show k * 6 + 3 < cur.size by omega)
      have r4 := cell_there HCU.out (show k * 6 + 4 < cur.size by omega)
      have r5 := cell_there HCU.out (show k * 6 + 5 < cur.size by omega)
      have rf : ∀ j, w8.frozen? ⟨H + 1, j, none⟩ = false := fun j => frozen_of_blk HCU.out j
      clear hcur hbk2
      go_wp2_with fail
      refine hK.out _ _ ?Sb11 (fun hHeld => ?Mb11)
      case Sb11 => exact ⟨cell_of_blk HA8.out 0, cell_of_blk HA8.out 1, cell_of_blk HK8.out 5, cell_of_blk HG8.out 0, cell_of_blk HG8.out 1⟩
      clear hK K
      try simp only [Act.put]
      try simp only [List.setIfInBounds_toArray]
      try simp only [List.set]
      refine wpAnyH_ready (rs := [12]) (by kernel_rfl) (by simp) ?pb12
      refine AllReadyH.cons rfl (fun K hK => ?_) AllReadyH.nil
      go_simp
      refine hK.out _ _ ?Sb12 (fun hHeld => ?Mb12)
      case Sb12 => exact ⟨cell_of_blk HA8.out 0, cell_of_blk HA8.out 1, cell_of_blk HK8.out 5, cell_of_blk HG8.out 0, cell_of_blk HG8.out 1⟩
      clear hK K
      try simp only [Act.put]
      try simp only [List.setIfInBounds_toArray]
      try simp only [List.set]
      refine wpAnyH_ready (rs := [13]) (by kernel_rfl) (by simp) ?pb13
      refine AllReadyH.cons rfl (fun K hK => ?_) AllReadyH.nil
      go_simp
      refine hK.out _ _ ?Sb13 (fun hHeld => ?Mb13)
      case Sb13 => exact ⟨by rw [cell_set_far nAL, cell_set_far nAL, cell_set_far nAL, cell_set_far nAL, cell_set_far nAL, cell_set_far nAL]; exact cell_of_blk HA8.out 0, by rw [cell_set_far nAL, cell_set_far nAL, cell_set_far nAL, cell_set_far nAL, cell_set_far nAL, cell_set_far nAL]; exact cell_of_blk HA8.out 1, by rw [cell_set_far nHL, cell_set_far nHL, cell_set_far nHL, cell_set_far nHL, cell_set_far nHL, cell_set_far nHL]; exact cell_of_blk HK8.out 5, by rw [cell_set_far nGL, cell_set_far nGL, cell_set_far nGL, cell_set_far nGL, cell_set_far nGL, cell_set_far nGL]; exact cell_of_blk HG8.out 0, by rw [cell_set_far nGL, cell_set_far nGL, cell_set_far nGL, cell_set_far nGL, cell_set_far nGL, cell_set_far nGL]; exact cell_of_blk HG8.out 1⟩
      clear hK K
      try simp only [Act.put]
      try simp only [List.setIfInBounds_toArray]
      try simp only [List.set]
      refine wpAnyH_done (by kernel_rfl) ?_ _
      refine NoPanic.normal ?_
      have HXk : Hid (X[k]? = some zH) := hid (by
        rw [HX.out, List.getElem?_append_right (by rw [List.length_map, List.length_take]; have := HNN.out; omega), List.length_map, List.length_take, List.getElem?_replicate, if_pos (by have := HNN.out; omega)])
      have HKc : Hid ((⟨ka, kn, kb, km, kh, kr⟩ : Hk) = cutP ⟨xa, xn, xb, xm, xh, xr⟩ f t) := hid (by
        rw [← HKE.out]; unfold cutP Hu.sub; dsimp only; rw [← HP.out, ← HQ.out, ← HO2.out, ← HF2.out, ← HU.out])
      have HX9 : Hid (X.set k ⟨ka, kn, kb, km, kh, kr⟩ = ((ss.take (k + 1)).map fun s => cutP ⟨xa, xn, xb, xm, xh, xr⟩ s.1 s.2) ++ List.replicate (n - (k + 1)) zH) := hid (by
        have hlk : ((ss.take k).map fun s => cutP ⟨xa, xn, xb, xm, xh, xr⟩ s.1 s.2).length = k := by rw [List.length_map, List.length_take]; have := HNN.out; omega
        rw [HX.out, HKc.out, List.set_append_right _ _ (by omega), hlk, Nat.sub_self, show n - k = (n - (k + 1)) + 1 by omega, List.replicate_succ, List.set_cons_zero, List.take_add_one, HSG.out, List.map_append]
        simp)
      have HO9 := hid (ownH_put (k := ⟨ka, kn, kb, km, kh, kr⟩) (o := k * 6) HO8.out HXk.out rfl (show OwnW w8 H (.slice a7 U.length c7) kr by rw [HRU.out]; exact own_mono HW8.out (show H ≤ w6.heap.size by have := lt_of_heap HK6.out; omega)))
      have HB9 := hid (below_set (k := k * 6 + 5) (u := .slice a7 U.length c7) (below_set (k := k * 6 + 4) (u := .string kh) (below_set (k := k * 6 + 3) (u := .int .i64 km) (below_set (k := k * 6 + 2) (u := .int .i64 kb) (below_set (k := k * 6 + 1) (u := .int .i64 kn) (below_set (k := k * 6) (u := .int .i64 ka) (HB6.out.trans (HB8.out.mono HB6.out.size)) (show w.heap.size ≤ H + 1 by have := HH.out; omega)) (show w.heap.size ≤ H + 1 by have := HH.out; omega)) (show w.heap.size ≤ H + 1 by have := HH.out; omega)) (show w.heap.size ≤ H + 1 by have := HH.out; omega)) (show w.heap.size ≤ H + 1 by have := HH.out; omega)) (show w.heap.size ≤ H + 1 by have := HH.out; omega))
      have HF9 : Hid (∀ j, j ≠ H + 1 → ((((((w8.setCell ⟨H + 1, k * 6, none⟩ (.int .i64 ka)).setCell ⟨H + 1, k * 6 + 1, none⟩ (.int .i64 kn)).setCell ⟨H + 1, k * 6 + 2, none⟩ (.int .i64 kb)).setCell ⟨H + 1, k * 6 + 3, none⟩ (.int .i64 km)).setCell ⟨H + 1, k * 6 + 4, none⟩ (.string kh)).setCell ⟨H + 1, k * 6 + 5, none⟩ (.slice a7 U.length c7)).heap[j]? = w8.heap[j]?) := hid (fun j hj => by rw [set_other _ hj, set_other _ hj, set_other _ hj, set_other _ hj, set_other _ hj, set_other _ hj])
      dsimp only at HO9
      generalize ((((((w8.setCell ⟨H + 1, k * 6, none⟩ (.int .i64 ka)).setCell ⟨H + 1, k * 6 + 1, none⟩ (.int .i64 kn)).setCell ⟨H + 1, k * 6 + 2, none⟩ (.int .i64 kb)).setCell ⟨H + 1, k * 6 + 3, none⟩ (.int .i64 km)).setCell ⟨H + 1, k * 6 + 4, none⟩ (.string kh)).setCell ⟨H + 1, k * 6 + 5, none⟩ (.slice a7 U.length c7)) = w9 at HO9 HB9 HF9 ⊢
      have HA9 : Hid (w9.heap[A]? = some (.cells #[.int .i64 (P + (Hu.olds (xr.take f)).length), .int .i64 (Q + (Hu.fres (xr.take f)).length)] 82)) := hid (by rw [← HO2.out, ← HF2.out]; exact (HF9.out A nAL).trans HA8.out)
      have HK9 := hid ((HF9.out H nHL).trans HK8.out)
      clear r0 r1 r2 r3 r4 r5 rf hHeld a0 a1 b5 g0 g1
      go_wp2_with fail
      go_roundw
      case rel => exact ⟨k + 1, f, X.set k ⟨ka, kn, kb, km, kh, kr⟩, by omega, by omega, rfl, by go_num, HDN, HA9, HK9, HX9, HO9, HB9⟩
      case measure => simp [intOf]; omega
    · obtain rfl : k = n := by omega
      obtain ⟨s0, S', hs0⟩ : ∃ s0 S', ss = s0 :: S' := by
        cases ss with
        | nil => exact absurd HNN.out (by simp; omega)
        | cons a b => exact ⟨a, b, rfl⟩
      have HE : Hid (X = cutP ⟨xa, xn, xb, xm, xh, xr⟩ s0.1 s0.2 :: S'.map fun s => cutP ⟨xa, xn, xb, xm, xh, xr⟩ s.1 s.2) := hid (by
        rw [HX.out, List.take_of_length_le (by have := HNN.out; omega), Nat.sub_self, hs0]; simp)
      have HO2 := hid (HE.out ▸ HO.out)
      have HEE : Hid ((ss.map fun s => cutP ⟨xa, xn, xb, xm, xh, xr⟩ s.1 s.2) = cutP ⟨xa, xn, xb, xm, xh, xr⟩ s0.1 s0.2 :: S'.map fun s => cutP ⟨xa, xn, xb, xm, xh, xr⟩ s.1 s.2) := hid (by rw [hs0]; rfl)
      obtain ⟨cur, hcur, hcs, hnX⟩ := ownH_cells HO.out
      clear hnX
      have HCU := hid hcur
      have r4 := cell_there HCU.out (show 4 < cur.size by omega)
      have rf : ∀ j, wr.frozen? ⟨H + 1, j, none⟩ = false := fun j => frozen_of_blk HCU.out j
      have b4 : wr.cell? ⟨H, 4, none⟩ = some (.string xh) := cell_of_blk HK.out 4
      have i0 : (0 : Int) < (k : Int) := by omega
      clear hcur hs0
      go_wp2_with fail
      go_ret
      refine ⟨_, rfl, ?_, below_set HB.out (show w.heap.size ≤ H + 1 by have := HH.out; omega)⟩
      rw [HEE.out]
      exact (ownH_head HO2.out).mono (show w.heap.size ≤ H by have := HH.out; omega)
end Go.Proofs.YtnamioihapnefaaGreatDoor
