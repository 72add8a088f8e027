/-
  Unified diffs: the program's writeHunk, writeHeader (made by wip/genfv.py).
-/
import Derived.Test.YtkolgglllladfaaGreatDoorFu
import Derived.Test.YtkolgglllladfaaGreatDoorFn
namespace Go.Proofs.YtkolgglllladfaaGreatDoor
open Go.RowKit
open Hu (Rw Hk)

theorem row_len (r : Rw) : 1 + r.t.size ≤ (Un.rowT r).length := by
  unfold Un.rowT Un.tailT
  rw [← dsize]
  split
  · simp; omega
  · simp; omega
theorem rows_take {l : List Rw} {k : Nat} {r : Rw} (h : l[k]? = some r) : (l.take (k + 1)).flatMap Un.rowT = (l.take k).flatMap Un.rowT ++ Un.rowT r := by
  rw [List.take_add_one, h, List.flatMap_append]
  simp
theorem take_len (l : List Rw) (k : Nat) : ((l.take k).flatMap Un.rowT).length ≤ (l.flatMap Un.rowT).length := by
  conv => rhs; rw [← List.take_append_drop k l]
  rw [List.flatMap_append, List.length_append]
  omega
theorem take_row {l : List Rw} {k : Nat} {r : Rw} (h : l[k]? = some r) : ((l.take k).flatMap Un.rowT).length + (Un.rowT r).length ≤ (l.flatMap Un.rowT).length := by
  have := take_len l (k + 1)
  rw [rows_take h, List.length_append] at this
  exact this
set_option maxHeartbeats 4000000 in
set_option maxRecDepth 100000 in
theorem writeHunk_any {B b : Nat} {l : Un.Bs} {w : World} {h : Hk} {v : Value} (hb : BfAt B b l w) (hB : B ≤ w.heap.size) (h3 : 3 ≤ B) (hp : PowV w) (hr : ∀ w', Below B w w' → RdW w' v h.rows) (hs : SmH h) (hk : ∀ r ∈ h.rows, r.k = 1 ∨ r.k = 2 ∨ r.k = 3) (hrl : h.rows.length ≤ 5864062014800) (hl : l.length + (Un.hunkT h).length + 40 ≤ 140737488355328) :
    Calls Tryz.prog 19 #[.pointer (some ⟨b, 0, none⟩), HkV h v] w fun e w' => e = .returned (.tuple #[]) ∧ BfAt B b (l ++ Un.hunkT h) w' ∧ Frm B b w w' := by
  obtain ⟨va, vc, rfl⟩ := (hr w (Below.refl _ _)).shape
  obtain ⟨s1, s2, s3, s4, s5, s6, s7, s8⟩ := hs
  have HRG1 := hid (fun w1 (h1 : PowV w1) => rangeText_any h.a h.n w1 h1 ⟨s1, s2⟩ ⟨s3, s4⟩)
  have HRG2 := hid (fun w1 (h1 : PowV w1) => rangeText_any h.b h.m w1 h1 ⟨s5, s6⟩ ⟨s7, s8⟩)
  have HPW := hid (fun w1 (h1 : Below B w w1) => hp.below h1 h3)
  have HLT := hid hb.lt
  have HR := hid hr
  have HK := hid hk
  obtain ⟨R1, hR1⟩ : ∃ R1, R1 = Un.rngT h.a h.n := ⟨_, rfl⟩
  obtain ⟨R2, hR2⟩ : ∃ R2, R2 = Un.rngT h.b h.m := ⟨_, rfl⟩
  rw [← hR1] at HRG1
  rw [← hR2] at HRG2
  have hT : (Un.hunkT h).length = 4 + R1.length + 2 + R2.length + 3 + (Un.headT h.head.data.toList).length + 1 + (h.rows.flatMap Un.rowT).length := by
    unfold Un.hunkT Un.placeT
    rw [← hR1, ← hR2]
    simp [Un.mkB, Un.mkM, Un.mkC]
    omega
  have HTX : Hid (l ++ Un.hunkT h = l ++ Un.mkB ++ R1 ++ Un.mkM ++ R2 ++ Un.mkC ++ (Un.headT h.head.data.toList ++ [10]) ++ h.rows.flatMap Un.rowT) := hid (by
    unfold Un.hunkT Un.placeT
    rw [← hR1, ← hR2]
    simp)
  have hhd : h.head.size ≤ (Un.headT h.head.data.toList).length := by
    unfold Un.headT
    rw [← dsize]
    split
    · rename_i e; rw [e]; simp
    · simp
  rw [HTX.out]
  clear hr hp hR1 hR2 hk
  have hm1 : Un.mkB.length = 4 := rfl
  have hm2 : Un.mkM.length = 2 := rfl
  have hm3 : Un.mkC.length = 3 := rfl
  have hbb := hid hb
  clear hb
  unfold HkV
  have hbA := (Below.refl w.heap.size w).alloc (Nat.le_refl _) (.cells #[.int .i64 h.a, .int .i64 h.n, .int .i64 h.b, .int .i64 h.m, .string h.head, .slice va h.rows.length vc] 37)
  have hkA := heap_alloc_new w (.cells #[.int .i64 h.a, .int .i64 h.n, .int .i64 h.b, .int .i64 h.m, .string h.head, .slice va h.rows.length vc] 37)
  have H0 := hid (hbb.out.below hbA)
  have F0 : Hid (Frm B b w _) := hid (Frm.of hbA hB)
  have K0 := hid hkA
  obtain ⟨G, hG⟩ : ∃ G, G = w.heap.size := ⟨_, rfl⟩
  have HGB : Hid (G ≠ b) := hid (by have := HLT.out.1; omega)
  obtain ⟨xa, hxa⟩ : ∃ z, z = h.a := ⟨_, rfl⟩
  obtain ⟨xn, hxn⟩ : ∃ z, z = h.n := ⟨_, rfl⟩
  obtain ⟨xb, hxb⟩ : ∃ z, z = h.b := ⟨_, rfl⟩
  obtain ⟨xm, hxm⟩ : ∃ z, z = h.m := ⟨_, rfl⟩
  obtain ⟨xh, hxh⟩ : ∃ z, z = h.head := ⟨_, rfl⟩
  obtain ⟨rows, hrows⟩ : ∃ z, z = h.rows := ⟨_, rfl⟩
  rw [← hxa, ← hxn, ← hxb, ← hxm, ← hxh, ← hrows] at H0 F0 K0 ⊢
  rw [← hxa, ← hxn] at HRG1
  rw [← hxb, ← hxm] at HRG2
  rw [← hxh, ← hrows] at hT
  rw [← hxh] at hhd
  rw [← hrows] at HR HK hrl
  rw [hT] at hl
  obtain ⟨RL, hRL⟩ : ∃ RL, RL = rows.length := ⟨_, rfl⟩
  have HRL := hid hRL
  rw [← hRL] at H0 F0 K0 hrl ⊢
  clear hbA hkA hbb HTX hT hxa hxn hxb hxm hxh hrows hRL s1 s2 s3 s4 s5 s6 s7 s8
  obtain ⟨HT, hHT⟩ : ∃ HT, HT = Un.headT xh.data.toList ++ [10] := ⟨_, rfl⟩
  have hHTl : HT.length = (Un.headT xh.data.toList).length + 1 := by rw [hHT]; simp
  have HWH := hid (fun (l1 : Un.Bs) w1 (h1 : BfAt B b l1 w1) (h2 : B ≤ w1.heap.size) (h3' : l1.length + xh.size + 2 ≤ 140737488355328) => writeHead_any xh h1 h2 h3')
  rw [← hHT] at HWH ⊢
  clear hHT
  go_enter Tryz.func19, Tryz.ntmps19
  go_wp2_with fail
  rw [← hG] at K0 ⊢
  clear hG
  generalize w.alloc (.cells #[.int .i64 xa, .int .i64 xn, .int .i64 xb, .int .i64 xm, .string xh, .slice va RL vc] 37) = w0 at H0 F0 K0 ⊢
  refine (ws_any ⟨#[64, 64, 32, 45]⟩ H0.out (by show l.length + 4 ≤ _; omega) (Nat.le_trans hB F0.out.below.size)).mono ?_
  rintro e w1 ⟨rfl, hb1, hf1⟩
  have H1 := hid hb1
  have F1 := hid (F0.out.trans hf1)
  have K1 := hid (hf1.box K0.out HGB.out (by decide))
  clear hb1 hf1 H0 F0 K0
  rw [show (ByteArray.mk #[64, 64, 32, 45]).data.toList = Un.mkB from rfl] at H1
  have c0 : w1.cell? ⟨G, 0, none⟩ = some (.int .i64 xa) := cell_of_blk K1.out 0
  have c1 : w1.cell? ⟨G, 1, none⟩ = some (.int .i64 xn) := cell_of_blk K1.out 1
  go_wp2_with fail
  refine (HRG1.out w1 (HPW.out w1 F1.out.below)).mono ?_
  rintro e w2 ⟨rfl, hq2⟩
  have H2 := hid (H1.out.below hq2)
  have F2 := hid (F1.out.trans (Frm.of hq2 (Nat.le_trans hB F1.out.below.size)))
  have K2 := hid ((hq2.block G (lt_of_heap K1.out)).trans K1.out)
  clear hq2 H1 F1 K1
  go_wp2_with fail
  refine (ws_any (bB R1) H2.out (by rw [← dsize, bB_data]; simp only [List.length_append]; omega) (Nat.le_trans hB F2.out.below.size)).mono ?_
  rintro e w3 ⟨rfl, hb3, hf3⟩
  have H3 := hid hb3
  have F3 := hid (F2.out.trans hf3)
  have K3 := hid (hf3.box K2.out HGB.out (by decide))
  clear hb3 hf3 H2 F2 K2
  rw [bB_data] at H3
  go_wp2_with fail
  refine (ws_any ⟨#[32, 43]⟩ H3.out (by show _ + 2 ≤ _; simp only [List.length_append]; omega) (Nat.le_trans hB F3.out.below.size)).mono ?_
  rintro e w4 ⟨rfl, hb4, hf4⟩
  have H4 := hid hb4
  have F4 := hid (F3.out.trans hf4)
  have K4 := hid (hf4.box K3.out HGB.out (by decide))
  clear hb4 hf4 H3 F3 K3
  rw [show (ByteArray.mk #[32, 43]).data.toList = Un.mkM from rfl] at H4
  have c2 : w4.cell? ⟨G, 2, none⟩ = some (.int .i64 xb) := cell_of_blk K4.out 2
  have c3 : w4.cell? ⟨G, 3, none⟩ = some (.int .i64 xm) := cell_of_blk K4.out 3
  go_wp2_with fail
  refine (HRG2.out w4 (HPW.out w4 F4.out.below)).mono ?_
  rintro e w5 ⟨rfl, hq5⟩
  have H5 := hid (H4.out.below hq5)
  have F5 := hid (F4.out.trans (Frm.of hq5 (Nat.le_trans hB F4.out.below.size)))
  have K5 := hid ((hq5.block G (lt_of_heap K4.out)).trans K4.out)
  clear hq5 H4 F4 K4
  go_wp2_with fail
  refine (ws_any (bB R2) H5.out (by rw [← dsize, bB_data]; simp only [List.length_append]; omega) (Nat.le_trans hB F5.out.below.size)).mono ?_
  rintro e w6 ⟨rfl, hb6, hf6⟩
  have H6 := hid hb6
  have F6 := hid (F5.out.trans hf6)
  have K6 := hid (hf6.box K5.out HGB.out (by decide))
  clear hb6 hf6 H5 F5 K5
  rw [bB_data] at H6
  go_wp2_with fail
  refine (ws_any ⟨#[32, 64, 64]⟩ H6.out (by show _ + 3 ≤ _; simp only [List.length_append]; omega) (Nat.le_trans hB F6.out.below.size)).mono ?_
  rintro e w7 ⟨rfl, hb7, hf7⟩
  have H7 := hid hb7
  have F7 := hid (F6.out.trans hf7)
  have K7 := hid (hf7.box K6.out HGB.out (by decide))
  clear hb7 hf7 H6 F6 K6
  rw [show (ByteArray.mk #[32, 64, 64]).data.toList = Un.mkC from rfl] at H7
  have c4 : w7.cell? ⟨G, 4, none⟩ = some (.string xh) := cell_of_blk K7.out 4
  go_wp2_with fail
  refine (HWH.out _ w7 H7.out (Nat.le_trans hB F7.out.below.size) (by simp only [List.length_append]; omega)).mono ?_
  rintro e w8 ⟨rfl, hb8, hf8⟩
  have H8 := hid hb8
  have F8 := hid (F7.out.trans hf8)
  have K8 := hid (hf8.box K7.out HGB.out (by decide))
  clear hb8 hf8 H7 F7 K7
  have c5 : w8.cell? ⟨G, 5, none⟩ = some (.slice va RL vc) := cell_of_blk K8.out 5
  go_wp2_with fail
  obtain ⟨P, hP⟩ : ∃ P, P = l ++ Un.mkB ++ R1 ++ Un.mkM ++ R2 ++ Un.mkC ++ HT := ⟨_, rfl⟩
  have hPl : P.length = l.length + 4 + R1.length + 2 + R2.length + 3 + HT.length := by rw [hP]; simp only [List.length_append]; omega
  have HPQ := hid hP
  rw [← hP] at H8
  clear hP
  go_loopw [34] (fun ii wr => ∃ k : Nat, k ≤ RL ∧ ii = .int .i64 k ∧ Hid (BfAt B b (P ++ (rows.take k).flatMap Un.rowT) wr) ∧ Hid (Frm B b w wr)) (fun ii _ => RL - (intOf ii).toNat)
  case atStart => exact ⟨0, Nat.zero_le _, rfl, hid (by simpa using H8.out), F8⟩
  case round =>
    obtain ⟨k, hk, rfl, HI, HF⟩ := hrel
    clear H8 F8 K8
    by_cases hlt : k < RL
    · obtain ⟨r, hx⟩ : ∃ r, rows[k]? = some r := ⟨_, List.getElem?_eq_getElem (by have := HRL.out; omega)⟩
      have hrd := HR.out wr HF.out.below
      rw [← HRL.out] at hrd
      obtain ⟨b2, o2, rfl, hb2, d0, d1⟩ := rdW_at hrd hx
      have HX := hid (rows_take hx)
      have htl := take_row hx
      have hrl2 := row_len r
      have hkr := HK.out r (List.mem_of_getElem? hx)
      obtain ⟨rk, rt⟩ := r
      dsimp only at d0 d1 hrl2 hkr
      have i1 : (0 : Int) ≤ (k : Int) := by omega
      have i2 : (k : Int) < (RL : Int) := by omega
      have i3 : IntKind.i64.wrap ((k : Int) + 1) = (k : Int) + 1 := wrapOk (by omega) (by omega)
      have hbN := (Below.refl wr.heap.size wr).alloc (Nat.le_refl _) (.cells #[.int .i64 rk, .string rt] 57)
      have hkN := heap_alloc_new wr (.cells #[.int .i64 rk, .string rt] 57)
      have HI1 := hid (HI.out.below hbN)
      have HF1 := hid (HF.out.trans (Frm.of hbN (Nat.le_trans hB HF.out.below.size)))
      have HN1 := hid hkN
      have hwr : wr.heap.size < (wr.alloc (.cells #[.int .i64 rk, .string rt] 57)).heap.size := lt_of_heap hkN
      clear hx hb2 hbN hkN HI HF hrd
      rcases hkr with rfl | rfl | rfl
      · have HWR := hid (fun (l1 : Un.Bs) w1 (h1 : BfAt B b l1 w1) (h2 : B ≤ w1.heap.size) (h3' : l1.length + 1 + rt.size + 29 ≤ 140737488355328) => writeRow_any ((ByteArray.mk #[32, 45, 43]).extract 0 1) rt h1 h2 h3')
        have HMK : Hid (((ByteArray.mk #[32, 45, 43]).extract 0 1).data.toList ++ Un.tailT rt.data.toList = Un.rowT ⟨1, rt⟩) := hid (by rfl)
        go_wp2_with fail
        obtain ⟨V, hV⟩ : ∃ V, V = wr.heap.size := ⟨_, rfl⟩
        rw [← hV] at HN1 ⊢
        generalize wr.alloc (.cells #[.int .i64 1, .string rt] 57) = w9 at HI1 HF1 HN1 ⊢
        have c1 : w9.cell? ⟨V, 1, none⟩ = some (.string rt) := cell_of_blk HN1.out 1
        clear hV
        refine wp_region_qtail 7 (by kernel_rfl) (by kernel_rfl) ?_
        simp only [List.take_succ_cons, List.take_zero, List.drop_succ_cons, List.drop_zero]
        repeat go_big_quiet_step (fail)
        refine wpQuiet_nil ?_
        have HI2 := hid (HI1.out.below (below_drewN (Below.refl w9.heap.size w9) 1))
        have HF2 := hid (HF1.out.trans (Frm.of (below_drewN (Below.refl w9.heap.size w9) 1) (Nat.le_trans hB HF1.out.below.size)))
        generalize w9.drewN 1 = wd at HI2 HF2 ⊢
        clear HI1 HF1 HN1 c1
        go_wp2_with fail
        refine (HWR.out _ wd HI2.out (Nat.le_trans hB HF2.out.below.size) (by simp only [List.length_append]; omega)).mono ?_
        rintro e w5 ⟨rfl, hb5, hf5⟩
        rw [HMK.out] at hb5
        have HI5 := hid hb5
        have HF5 := hid (HF2.out.trans hf5)
        clear hb5 hf5 HI2 HF2
        go_wp2_with fail
        go_roundw
        case rel => exact ⟨k + 1, by omega, by go_num, hid (by rw [HX.out, ← List.append_assoc]; exact HI5.out), HF5⟩
        case measure => simp [intOf]; omega
      · have HWR := hid (fun (l1 : Un.Bs) w1 (h1 : BfAt B b l1 w1) (h2 : B ≤ w1.heap.size) (h3' : l1.length + 1 + rt.size + 29 ≤ 140737488355328) => writeRow_any ((ByteArray.mk #[32, 45, 43]).extract 1 2) rt h1 h2 h3')
        have HMK : Hid (((ByteArray.mk #[32, 45, 43]).extract 1 2).data.toList ++ Un.tailT rt.data.toList = Un.rowT ⟨2, rt⟩) := hid (by rfl)
        go_wp2_with fail
        obtain ⟨V, hV⟩ : ∃ V, V = wr.heap.size := ⟨_, rfl⟩
        rw [← hV] at HN1 ⊢
        generalize wr.alloc (.cells #[.int .i64 2, .string rt] 57) = w9 at HI1 HF1 HN1 ⊢
        have c1 : w9.cell? ⟨V, 1, none⟩ = some (.string rt) := cell_of_blk HN1.out 1
        clear hV
        refine wp_region_qtail 7 (by kernel_rfl) (by kernel_rfl) ?_
        simp only [List.take_succ_cons, List.take_zero, List.drop_succ_cons, List.drop_zero]
        repeat go_big_quiet_step (fail)
        refine wpQuiet_nil ?_
        have HI2 := hid (HI1.out.below (below_drewN (Below.refl w9.heap.size w9) 1))
        have HF2 := hid (HF1.out.trans (Frm.of (below_drewN (Below.refl w9.heap.size w9) 1) (Nat.le_trans hB HF1.out.below.size)))
        generalize w9.drewN 1 = wd at HI2 HF2 ⊢
        clear HI1 HF1 HN1 c1
        go_wp2_with fail
        refine (HWR.out _ wd HI2.out (Nat.le_trans hB HF2.out.below.size) (by simp only [List.length_append]; omega)).mono ?_
        rintro e w5 ⟨rfl, hb5, hf5⟩
        rw [HMK.out] at hb5
        have HI5 := hid hb5
        have HF5 := hid (HF2.out.trans hf5)
        clear hb5 hf5 HI2 HF2
        go_wp2_with fail
        go_roundw
        case rel => exact ⟨k + 1, by omega, by go_num, hid (by rw [HX.out, ← List.append_assoc]; exact HI5.out), HF5⟩
        case measure => simp [intOf]; omega
      · have HWR := hid (fun (l1 : Un.Bs) w1 (h1 : BfAt B b l1 w1) (h2 : B ≤ w1.heap.size) (h3' : l1.length + 1 + rt.size + 29 ≤ 140737488355328) => writeRow_any ((ByteArray.mk #[32, 45, 43]).extract 2 3) rt h1 h2 h3')
        have HMK : Hid (((ByteArray.mk #[32, 45, 43]).extract 2 3).data.toList ++ Un.tailT rt.data.toList = Un.rowT ⟨3, rt⟩) := hid (by rfl)
        go_wp2_with fail
        obtain ⟨V, hV⟩ : ∃ V, V = wr.heap.size := ⟨_, rfl⟩
        rw [← hV] at HN1 ⊢
        generalize wr.alloc (.cells #[.int .i64 3, .string rt] 57) = w9 at HI1 HF1 HN1 ⊢
        have c1 : w9.cell? ⟨V, 1, none⟩ = some (.string rt) := cell_of_blk HN1.out 1
        clear hV
        refine wp_region_qtail 7 (by kernel_rfl) (by kernel_rfl) ?_
        simp only [List.take_succ_cons, List.take_zero, List.drop_succ_cons, List.drop_zero]
        repeat go_big_quiet_step (fail)
        refine wpQuiet_nil ?_
        have HI2 := hid (HI1.out.below (below_drewN (Below.refl w9.heap.size w9) 1))
        have HF2 := hid (HF1.out.trans (Frm.of (below_drewN (Below.refl w9.heap.size w9) 1) (Nat.le_trans hB HF1.out.below.size)))
        generalize w9.drewN 1 = wd at HI2 HF2 ⊢
        clear HI1 HF1 HN1 c1
        go_wp2_with fail
        refine (HWR.out _ wd HI2.out (Nat.le_trans hB HF2.out.below.size) (by simp only [List.length_append]; omega)).mono ?_
        rintro e w5 ⟨rfl, hb5, hf5⟩
        rw [HMK.out] at hb5
        have HI5 := hid hb5
        have HF5 := hid (HF2.out.trans hf5)
        clear hb5 hf5 HI2 HF2
        go_wp2_with fail
        go_roundw
        case rel => exact ⟨k + 1, by omega, by go_num, hid (by rw [HX.out, ← List.append_assoc]; exact HI5.out), HF5⟩
        case measure => simp [intOf]; omega
    · obtain rfl : k = RL := by omega
      have HE : Hid (rows.take k = rows) := hid (List.take_of_length_le (by have := HRL.out; omega))
      rw [HE.out] at HI
      go_wp2_with fail
      exact bodyPost_end (v := .tuple #[]) (by simp [results, Tryz.results19, go_sem]) rfl ⟨rfl, by rw [← HPQ.out]; exact HI.out, HF.out⟩
end Go.Proofs.YtkolgglllladfaaGreatDoor
