/-
  More context: the document's Wide (wip/genoa.py).
-/
import Derived.Test.YtddmfdjkkikapaaGreatDoorGrUx
import Derived.Test.YtddmfdjkkikapaaGreatDoorGrKc
import Derived.Test.YtddmfdjkkikapaaGreatDoorGrMa
import Derived.Test.YtddmfdjkkikapaaGreatDoorGrJw
namespace Go.Proofs.YtddmfdjkkikapaaGreatDoor
open Go.RowKit
open Hu (Rw Hk)

set_option maxHeartbeats 8000000 in
set_option maxRecDepth 100000 in
theorem rwide_6t {w : World} {h : Hk} {v va : Value} {a : List ByteArray} {ctx : Int} (hv : RdW w v h.rows) (ha : RdT w va a) (hz : SzH h) (hla : a.length < 8796093022200) (hsa : ∀ x ∈ a, x.size ≤ maxLen) (hc : 0 ≤ ctx ∧ ctx ≤ 2147483647) (hvl : Hu.vld h = true) (hvs : Hu.valS a = true) (hst : stdB a (Hu.olds h.rows) (Hu.plc h.a h.n).toNat = true) (hov : Hu.lack (Hu.fres h.rows) = true) (hq4 : ¬ (Hu.plc h.a h.n).toNat + (Hu.olds h.rows).length < a.length) (hq : ¬ Hu.plc h.b h.m < (Hu.wBf h.rows ctx (Hu.plc h.a h.n).toNat : Int)) (hvw : Hu.vld (Hu.wideH h a ctx) = false) :
    Calls Tryz.prog 17 #[HkV h v, va, .int .i64 ctx] w fun e w' => ∃ v', e = .returned (.tuple #[HkV zH v', .int .i64 100]) ∧ OwnW w' w.heap.size v' [] ∧ Below w.heap.size w w' := by
  obtain ⟨C, rfl⟩ := Int.eq_ofNat_of_zero_le hc.1
  have hC : C ≤ 2147483647 := by omega
  have n1 : ¬ (C : Int) < 0 := by omega
  have n2 : ¬ (2147483647 : Int) < (C : Int) := by omega
  have HVA := hid (fun w1 (hb : Below w.heap.size w w1) => rValid_any (h := h) (hv.below hb) hz)
  rw [show vldN h = 0 by unfold vldN; rw [hvl]; rfl] at HVA
  have HLV := hid (fun w1 (hb : Below w.heap.size w w1) => rLinesValid_two (ha.below hb) (by omega) hsa)
  rw [hvs] at HLV
  obtain ⟨p0, p1, p2, p3, p4, p5, p6, p7, p8⟩ := Hu.vld_parts hvl
  have hpl := vld_pl hvl
  have HP1 := hid (fun w1 => rPlace_any h.a h.n w1 (by omega) (by omega))
  have HP2 := hid (fun w1 => rPlace_any h.b h.m w1 (by omega) (by omega))
  have HSD := hid (fun w1 (hb : Below w.heap.size w w1) => rSides_two (h := h) (hv.below hb) hz.1)
  have HPT := hid (fun w1 (hb : Below w.heap.size w w1) => rPartial_any (h := h) (hv.below hb) hz.1 hz.2.1)
  rw [show Hu.part Hu.isF h.rows = Hu.lack (Hu.fres h.rows) by rw [Hu.part_fres, Hu.lack_any p8.1], hov] at HPT
  generalize Hu.part Hu.isO h.rows = ovo at HPT
  obtain ⟨P, hP⟩ : ∃ P : Nat, Hu.plc h.a h.n = (P : Int) := ⟨(Hu.plc h.a h.n).toNat, by unfold Hu.plc; split <;> omega⟩
  obtain ⟨Q, hQ⟩ : ∃ Q : Nat, Hu.plc h.b h.m = (Q : Int) := ⟨(Hu.plc h.b h.m).toNat, by unfold Hu.plc; split <;> omega⟩
  have hPle : P ≤ 4294967296 := by
    have : Hu.plc h.a h.n ≤ 4294967296 := by unfold Hu.plc; split <;> omega
    omega
  have hQle : Q ≤ 4294967296 := by
    have : Hu.plc h.b h.m ≤ 4294967296 := by unfold Hu.plc; split <;> omega
    omega
  rw [hP] at HP1 hst
  rw [hQ] at HP2
  have hol : (Hu.olds h.rows).length < 8796093022200 := by have := Hu.olds_len h.rows; have := hz.1; omega
  rw [Int.toNat_natCast] at hst
  have HST := hid (fun w1 v1 (hb : Below w.heap.size w w1) (hr : RdT w1 v1 (Hu.olds h.rows)) => rStands_any hr (ha.below hb) hol hla hPle)
  rw [hst] at HST
  have HCT := hid (fun w1 (hb : Below w.heap.size w w1) => rContexts_any (hv.below hb) hz.1 p0)
  have hnl0 : h.rows.length ≤ 4294967296 := by have := (vld_small hvl).1; omega
  have hle1 := Hu.fstC_le h.rows
  have hle2 := Hu.lstC_le h.rows
  obtain ⟨A, hA⟩ : ∃ A, A = Hu.fstC h.rows := ⟨_, rfl⟩
  obtain ⟨D, hD⟩ : ∃ D, D = h.rows.length - Hu.lstC h.rows := ⟨_, rfl⟩
  have hDle : D ≤ h.rows.length := by omega
  rw [← hA, ← hD] at HCT
  have hBF : Hu.wBf h.rows (C : Nat) P = min (C - A) P := by unfold Hu.wBf; rw [Hu.arF_eq p0, hA]; rfl
  have hAF : ∀ R, Hu.wAf h.rows (C : Nat) R = min (C - D) R := fun R => by unfold Hu.wAf; rw [Hu.arF_eq p0, hD]; rfl
  rw [← hA] at hle1
  have hfit : P + (Hu.olds h.rows).length ≤ a.length := by unfold stdB at hst; simp only [Bool.and_eq_true, decide_eq_true_eq] at hst; exact hst.1
  rw [hP, hQ, Int.toNat_natCast, hBF] at hq
  have HNE : Hid (h.rows ≠ []) := hid (fun e => by rw [e] at p0; cases p0)
  have hsz := wideH_sz (a := a) hz hvl hsa hc.1 hc.2
  have HVW := hid (fun w1 v1 (hr : RdW w1 v1 (Hu.wideH h a (C : Nat)).rows) => rValid_any (h := Hu.wideH h a (C : Nat)) hr hsz)
  rw [show vldN (Hu.wideH h a (C : Nat)) = 100 by unfold vldN; rw [show Hu.vld (Hu.wideH h a (C : Nat)) = false from hvw]; rfl] at HVW
  clear hsz hvw
  have HA0 := hid ha
  have HV0 := hid hv
  obtain ⟨av, cv, rfl⟩ := hv.shape
  obtain ⟨aa, ca, rfl⟩ := ha.shape
  have hcap := rd_cap ha
  obtain ⟨xa, xn, xb, xm, xh, xr⟩ := h
  dsimp only at *
  obtain ⟨N, hN⟩ : ∃ N, N = xr.length := ⟨_, rfl⟩
  obtain ⟨L, hL⟩ : ∃ L, L = a.length := ⟨_, rfl⟩
  unfold HkV at HVA HSD HPT
  unfold HkV zH
  dsimp only at *
  rw [← hN] at HVA HSD HPT HCT hDle hnl0 hle1 ⊢
  rw [← hL] at HLV HST hfit hcap hla ⊢
  have hxn : xn = ((Hu.olds xr).length : Int) := p1
  obtain ⟨M, hM⟩ : ∃ M, M = (Hu.olds xr).length := ⟨_, rfl⟩
  rw [← hM] at hxn hol hfit
  subst hxn
  obtain ⟨BF, hBF2⟩ : ∃ BF, BF = min (C - A) P := ⟨_, rfl⟩
  rw [← hBF2] at hBF hq
  obtain ⟨E, hE⟩ : ∃ E, E = P + M := ⟨_, rfl⟩
  obtain ⟨G, hG⟩ : ∃ G, G = L - E := ⟨_, rfl⟩
  obtain ⟨AF, hAF2⟩ : ∃ AF, AF = min (C - D) G := ⟨_, rfl⟩
  obtain ⟨X0, hX0⟩ : ∃ X0, X0 = P - BF := ⟨_, rfl⟩
  obtain ⟨E2, hE2⟩ : ∃ E2, E2 = E + AF := ⟨_, rfl⟩
  obtain ⟨M1, hM1⟩ : ∃ M1, M1 = C - A := ⟨_, rfl⟩
  obtain ⟨M2, hM2⟩ : ∃ M2, M2 = C - D := ⟨_, rfl⟩
  obtain ⟨G1, hG1⟩ : ∃ G1, G1 = L - P := ⟨_, rfl⟩
  rw [← hM1] at hBF2
  rw [← hM2] at hAF2
  have i1 : IntKind.i64.wrap ((C : Int) - (A : Int)) = (C : Int) - (A : Int) := wrapOk (by omega) (by omega)
  have i2 : max ((C : Int) - (A : Int)) 0 = (M1 : Int) := by rw [hM1]; exact nmax _ _
  have i3 : min (M1 : Int) (P : Int) = (BF : Int) := by rw [hBF2]; exact nmin _ _
  have b1 : BF ≤ P := by rw [hBF2]; exact Nat.min_le_right _ _
  have b2 : BF ≤ C := by rw [hBF2, hM1]; exact Nat.le_trans (Nat.min_le_left _ _) (Nat.sub_le _ _)
  have b3 : AF ≤ G := by rw [hAF2]; exact Nat.min_le_right _ _
  have b4 : AF ≤ C := by rw [hAF2, hM2]; exact Nat.le_trans (Nat.min_le_left _ _) (Nat.sub_le _ _)
  have b5 : G1 + P = L := by rw [hG1]; exact Nat.sub_add_cancel (by omega)
  have b6 : X0 + BF = P := by rw [hX0]; exact Nat.sub_add_cancel b1
  have b7 : G + E = L := by rw [hG]; exact Nat.sub_add_cancel (by rw [hE]; omega)
  have i4 : IntKind.i64.wrap ((P : Int) - (BF : Int)) = (X0 : Int) := (wrapOk (by omega) (by omega)).trans (by omega)
  have i5 : IntKind.i64.wrap ((P : Int) + (M : Int)) = (E : Int) := (wrapOk (by omega) (by omega)).trans (by omega)
  have i6 : IntKind.i64.wrap ((C : Int) - (D : Int)) = (C : Int) - (D : Int) := wrapOk (by omega) (by omega)
  have i7 : max ((C : Int) - (D : Int)) 0 = (M2 : Int) := by rw [hM2]; exact nmax _ _
  have i8 : IntKind.i64.wrap ((L : Int) - (P : Int)) = (G1 : Int) := (wrapOk (by omega) (by omega)).trans (by omega)
  have i9 : IntKind.i64.wrap ((G1 : Int) - (M : Int)) = (G : Int) := (wrapOk (by omega) (by omega)).trans (by omega)
  have i10 : min (M2 : Int) (G : Int) = (AF : Int) := by rw [hAF2]; exact nmin _ _
  have i11 : IntKind.i64.wrap ((E : Int) + (AF : Int)) = (E2 : Int) := (wrapOk (by omega) (by omega)).trans (by omega)
  have i12 : IntKind.i64.wrap ((P : Int) - (X0 : Int)) = (BF : Int) := (wrapOk (by omega) (by omega)).trans (by omega)
  have hq2 : ¬ (Q : Int) < (BF : Int) := by omega
  have hEL : ¬ (E : Int) < (L : Int) := by omega
  obtain ⟨Y0, hY0⟩ : ∃ Y0 : Int, Y0 = (Q : Int) - (BF : Int) := ⟨_, rfl⟩
  obtain ⟨T1, hT1⟩ : ∃ T1, T1 = (a.drop X0).take (P - X0) := ⟨_, rfl⟩
  obtain ⟨T2, hT2⟩ : ∃ T2, T2 = (a.drop E).take (E2 - E) := ⟨_, rfl⟩
  have HWH : Hid (Hu.wideH ⟨xa, (M : Nat), xb, xm, xh, xr⟩ a (C : Nat) = { Hu.hunkAt (X0 : Nat) Y0 (Hu.mk 1 T1 ++ xr ++ Hu.mk 1 T2) with head := xh }) := hid (by
    unfold Hu.wideH Hu.wRows
    dsimp only
    rw [hP, hQ, Int.toNat_natCast, hBF, ← hM, ← hE, ← hL, ← hG, hAF, ← hM2, ← hAF2, hT1, hT2, hX0, hE2, hY0]
    rw [show ((P - BF : Nat) : Int) = (P : Int) - (BF : Int) by omega, show P - (P - BF) = BF by omega, show E + AF - E = AF by omega])
  rw [HWH.out] at HVW
  
  obtain ⟨W1, hW1⟩ : ∃ W1, W1 = Hu.mk 1 T1 ++ xr := ⟨_, rfl⟩
  obtain ⟨W2, hW2⟩ : ∃ W2, W2 = W1 ++ Hu.mk 1 T2 := ⟨_, rfl⟩
  rw [← hW1, ← hW2] at HVW
  have HW1 := hid hW1
  have HW2 := hid hW2
  have HT1 := hid hT1
  have HT2 := hid hT2
  have i13 : IntKind.i64.wrap ((Q : Int) - (BF : Int)) = Y0 := (wrapOk (by omega) (by omega)).trans (by omega)
  have hT1l : T1.length ≤ 2147483648 := by rw [hT1, hX0]; exact Nat.le_trans (List.length_take_le _ _) (by rw [← hX0]; omega)
  have hT2l : T2.length ≤ 2147483648 := by rw [hT2]; exact Nat.le_trans (List.length_take_le _ _) (by rw [hE2]; omega)
  have hW1l : W1.length ≤ 9000000000 := by rw [hW1, List.length_append, ← hN]; unfold Hu.mk; rw [List.length_map]; omega
  have hW2l : W2.length ≤ 12000000000 := by rw [hW2, List.length_append]; unfold Hu.mk; rw [List.length_map]; omega
  clear hW1 hW2
  have j1 : (0 : Int) ≤ (X0 : Int) := by omega
  have j2 : (X0 : Int) ≤ (P : Int) := by omega
  have j3 : (P : Int) ≤ (ca : Int) := by omega
  have j4 : (0 : Int) ≤ (E : Int) := by omega
  have j5 : (E : Int) ≤ (E2 : Int) := by omega
  have j6 : (E2 : Int) ≤ (ca : Int) := by omega
  have hY0b : -4611686018427387904 ≤ Y0 ∧ Y0 ≤ 4611686018427387904 := by omega
  have k1 : X0 ≤ P ∧ P ≤ L ∧ E ≤ E2 ∧ E2 ≤ L ∧ P ≤ 4294967296 := by omega
  obtain ⟨A1, hA1⟩ : ∃ A1, (if ca = X0 then aa else aa.map (·.add X0)) = A1 := ⟨_, rfl⟩
  obtain ⟨A2, hA2⟩ : ∃ A2, (if ca = E then aa else aa.map (·.add E)) = A2 := ⟨_, rfl⟩
  have HSX := hid (fun w1 => rStated_any (X0 : Nat) (Hu.olds W2).length w1 (by omega) (by omega))
  have HSY := hid (fun w1 => rStated_any Y0 (Hu.fres W2).length w1 (by omega) (by omega))
  have HCO := hid (fun w1 v1 (hr : RdW w1 v1 W2) => rCounts_any hr (by omega))
  unfold HkV Hu.hunkAt at HVW
  dsimp only at HVW
  generalize Hu.told (X0 : Nat) (Hu.olds W2).length = TX at HVW HSX
  generalize Hu.told Y0 (Hu.fres W2).length = TY at HVW HSY
  generalize (Hu.olds W2).length = ON at HVW HSX HCO
  generalize (Hu.fres W2).length = FN at HVW HSY HCO
  have HN := hid hN
  have HL := hid hL
  clear hv ha hN hL hz hvl hc hvs hsa p0 p1 p2 p3 p4 p5 p6 p7 p8 hpl hP hQ hst hM hov hle1 hle2 hA hD hDle hBF hAF hfit hq hBF2 hE hG hAF2 hX0 hE2 hM1 hM2 hG1 b1 b2 b3 b4 b5 b6 b7 hT1 hT2 hY0 HWH
  have h3 := three w (.cells #[.int .i64 xa, .int .i64 (M : Nat), .int .i64 xb, .int .i64 xm, .string xh, .slice av N cv] 37) (.cells #[.int .i64 0, .int .i64 0, .int .i64 0, .int .i64 0, .string ⟨#[]⟩, .slice none 0 0] 37) (.cells #[.int .i64 0, .int .i64 0, .int .i64 0, .int .i64 0, .string ⟨#[]⟩, .slice none 0 0] 37)
  obtain ⟨t1, t2, t3, t4⟩ := h3
  go_enter Tryz.func17, Tryz.ntmps17
  have q0 := cell_of_blk t2 0
  have q1 := cell_of_blk t2 1
  have q2 := cell_of_blk t2 2
  have q3 := cell_of_blk t2 3
  have q4 := cell_of_blk t2 4
  have q5 := cell_of_blk t2 5
  go_wp2_with fail
  clear q0 q1 q2 q3 q4 q5
  generalize (((w.alloc (.cells #[.int .i64 xa, .int .i64 (M : Nat), .int .i64 xb, .int .i64 xm, .string xh, .slice av N cv] 37)).alloc (.cells #[.int .i64 0, .int .i64 0, .int .i64 0, .int .i64 0, .string ⟨#[]⟩, .slice none 0 0] 37)).alloc (.cells #[.int .i64 0, .int .i64 0, .int .i64 0, .int .i64 0, .string ⟨#[]⟩, .slice none 0 0] 37)) = w0 at t1 t2 t3 t4 ⊢
  obtain ⟨R, hR⟩ : ∃ R, R = w.heap.size + 1 := ⟨_, rfl⟩
  obtain ⟨Z, hZ⟩ : ∃ Z, Z = w.heap.size + 1 + 1 := ⟨_, rfl⟩
  obtain ⟨H, hH⟩ : ∃ H, H = w.heap.size := ⟨_, rfl⟩
  have HWR : Hid (w.heap.size ≤ R) := hid (by omega)
  rw [← hZ] at t4
  rw [← hR] at t3
  rw [← hH] at t2
  have HB0 := hid t1
  have HK0 := hid t2
  have HR0 := hid t3
  have HZ0 := hid t4
  rw [← hZ, ← hR, ← hH]
  have HH := hid hH
  have HRR := hid hR
  clear t1 t2 t3 t4 hR hZ hH
  refine (HVA.out w0 HB0.out).mono ?_
  rintro e w1 ⟨rfl, hb⟩
  have HB1 := hid (HB0.out.trans (hb.mono HB0.out.size))
  have HK1 := hid ((hb.block H (lt_of_heap HK0.out)).trans HK0.out)
  have HR1 := hid ((hb.block R (lt_of_heap HR0.out)).trans HR0.out)
  have HZ1 := hid ((hb.block Z (lt_of_heap HZ0.out)).trans HZ0.out)
  clear hb
  go_wp2_with fail
  refine (HLV.out w1 HB1.out).mono ?_
  rintro e w1' ⟨rfl, h1⟩
  rw [h1]
  clear h1
  have q0 : w1.cell? ⟨H, 0, none⟩ = some (.int .i64 xa) := cell_of_blk HK1.out 0
  have q1 : w1.cell? ⟨H, 1, none⟩ = some (.int .i64 (M : Nat)) := cell_of_blk HK1.out 1
  have q2 : w1.cell? ⟨H, 2, none⟩ = some (.int .i64 xb) := cell_of_blk HK1.out 2
  have q3 : w1.cell? ⟨H, 3, none⟩ = some (.int .i64 xm) := cell_of_blk HK1.out 3
  have q4 : w1.cell? ⟨H, 4, none⟩ = some (.string xh) := cell_of_blk HK1.out 4
  have q5 : w1.cell? ⟨H, 5, none⟩ = some (.slice av N cv) := cell_of_blk HK1.out 5
  go_wp2_with fail
  refine (HP1.out w1).mono ?_
  rintro e w1' ⟨rfl, h1⟩
  rw [h1]
  clear h1
  go_wp2_with fail
  refine (HP2.out w1).mono ?_
  rintro e w1' ⟨rfl, h1⟩
  rw [h1]
  clear h1
  go_wp2_with fail
  refine (HSD.out w1 HB1.out).mono ?_
  rintro e w2 ⟨vo, vf, rfl, hO, hb⟩
  have HB2 := hid (HB1.out.trans (hb.mono HB1.out.size))
  have HK2 := hid ((hb.block H (lt_of_heap HK1.out)).trans HK1.out)
  have HR2 := hid ((hb.block R (lt_of_heap HR1.out)).trans HR1.out)
  have HZ2 := hid ((hb.block Z (lt_of_heap HZ1.out)).trans HZ1.out)
  have hro := own_rd hO.1
  obtain ⟨oa, oc, eo⟩ := RdX.shape hro
  obtain ⟨fa, fc, ef⟩ := own_shape hO.2.1
  obtain ⟨Lf, hLf⟩ : ∃ Lf, Lf = (Hu.fres xr).length := ⟨_, rfl⟩
  obtain ⟨Lo, hLo⟩ : ∃ Lo, Lo = (Hu.olds xr).length := ⟨_, rfl⟩
  rw [← hLf] at ef
  rw [← hLo] at eo
  subst eo ef
  have HLO := hid hLo
  have HRO := hid hro
  clear hb hO hro hLf hLo
  clear q0 q1 q2 q3 q4 q5
  have q0 : w2.cell? ⟨H, 0, none⟩ = some (.int .i64 xa) := cell_of_blk HK2.out 0
  have q1 : w2.cell? ⟨H, 1, none⟩ = some (.int .i64 (M : Nat)) := cell_of_blk HK2.out 1
  have q2 : w2.cell? ⟨H, 2, none⟩ = some (.int .i64 xb) := cell_of_blk HK2.out 2
  have q3 : w2.cell? ⟨H, 3, none⟩ = some (.int .i64 xm) := cell_of_blk HK2.out 3
  have q4 : w2.cell? ⟨H, 4, none⟩ = some (.string xh) := cell_of_blk HK2.out 4
  have q5 : w2.cell? ⟨H, 5, none⟩ = some (.slice av N cv) := cell_of_blk HK2.out 5
  go_wp2_with fail
  refine (HPT.out w2 HB2.out).mono ?_
  rintro e w3 ⟨rfl, hb⟩
  have HB3 := hid (HB2.out.trans (hb.mono HB2.out.size))
  have HK3 := hid ((hb.block H (lt_of_heap HK2.out)).trans HK2.out)
  have HR3 := hid ((hb.block R (lt_of_heap HR2.out)).trans HR2.out)
  have HZ3 := hid ((hb.block Z (lt_of_heap HZ2.out)).trans HZ2.out)
  have HRO3 := hid (HRO.out.below hb)
  clear hb HRO
  clear q0 q1 q2 q3 q4 q5
  have q0 : w3.cell? ⟨H, 0, none⟩ = some (.int .i64 xa) := cell_of_blk HK3.out 0
  have q1 : w3.cell? ⟨H, 1, none⟩ = some (.int .i64 (M : Nat)) := cell_of_blk HK3.out 1
  have q2 : w3.cell? ⟨H, 2, none⟩ = some (.int .i64 xb) := cell_of_blk HK3.out 2
  have q3 : w3.cell? ⟨H, 3, none⟩ = some (.int .i64 xm) := cell_of_blk HK3.out 3
  have q4 : w3.cell? ⟨H, 4, none⟩ = some (.string xh) := cell_of_blk HK3.out 4
  have q5 : w3.cell? ⟨H, 5, none⟩ = some (.slice av N cv) := cell_of_blk HK3.out 5
  go_wp2_with fail
  refine (HST.out w3 _ HB3.out HRO3.out).mono ?_
  rintro e w4 ⟨rfl, hb⟩
  have HB4 := hid (HB3.out.trans (hb.mono HB3.out.size))
  have HK4 := hid ((hb.block H (lt_of_heap HK3.out)).trans HK3.out)
  have HR4 := hid ((hb.block R (lt_of_heap HR3.out)).trans HR3.out)
  have HZ4 := hid ((hb.block Z (lt_of_heap HZ3.out)).trans HZ3.out)
  clear hb HRO3
  clear q0 q1 q2 q3 q4 q5
  have q0 : w4.cell? ⟨H, 0, none⟩ = some (.int .i64 xa) := cell_of_blk HK4.out 0
  have q1 : w4.cell? ⟨H, 1, none⟩ = some (.int .i64 (M : Nat)) := cell_of_blk HK4.out 1
  have q2 : w4.cell? ⟨H, 2, none⟩ = some (.int .i64 xb) := cell_of_blk HK4.out 2
  have q3 : w4.cell? ⟨H, 3, none⟩ = some (.int .i64 xm) := cell_of_blk HK4.out 3
  have q4 : w4.cell? ⟨H, 4, none⟩ = some (.string xh) := cell_of_blk HK4.out 4
  have q5 : w4.cell? ⟨H, 5, none⟩ = some (.slice av N cv) := cell_of_blk HK4.out 5
  go_wp2_with fail
  refine (HCT.out w4 HB4.out).mono ?_
  rintro e w4' ⟨rfl, h1⟩
  rw [h1]
  clear h1
  obtain ⟨BS, hBS⟩ : ∃ BS, BS = w4.heap.size := ⟨_, rfl⟩
  have HBS := hid hBS
  have HAU : Hid (Under BS (.slice aa L ca)) := hid (by rw [HL.out, hBS]; exact HA0.out.under.mono HB4.out.size)
  have HP3 : Hid (∀ (w5 : World) (v5 : Value) (Y : List Rw), OwnW w5 BS v5 Y → Below BS w4 w5 → Y.length ≤ 5000000000 → Calls Tryz.prog 50 #[v5, .int .i64 1, .slice A1 (P - X0) (ca - X0)] w5 fun e w' => ∃ v', e = .returned v' ∧ OwnW w' BS v' (Y ++ Hu.mk 1 T1) ∧ Below BS w5 w') := hid (fun w5 v5 Y ho hb5 hY => by
    have h1 := rdT_sliced (x := X0) (y := P) ((HA0.out.below HB4.out).keep (by rw [← HL.out]; exact HAU.out) (by exact hb5)) k1.1 (by rw [← HL.out]; exact k1.2.1)
    have h2 := under_sliced (x := X0) (n' := P - X0) (c' := ca - X0) HA0.out (B := BS) (by rw [← HL.out]; exact HAU.out) (by rw [← HL.out]; omega)
    rw [hA1] at h1 h2
    rw [← HT1.out] at h1
    exact (rPut_any (kd := 1) ho (by rw [HBS.out]; exact hb5.size) h1 h2 (by omega)).mono (fun e w' ⟨v', q1, q2, q3, _⟩ => ⟨v', q1, q2, q3⟩))
  have HP4 : Hid (∀ (w5 : World) (v5 : Value) (Y : List Rw), OwnW w5 BS v5 Y → Below BS w4 w5 → Y.length ≤ 9000000000 → Calls Tryz.prog 50 #[v5, .int .i64 1, .slice A2 (E2 - E) (ca - E)] w5 fun e w' => ∃ v', e = .returned v' ∧ OwnW w' BS v' (Y ++ Hu.mk 1 T2) ∧ Below BS w5 w') := hid (fun w5 v5 Y ho hb5 hY => by
    have h1 := rdT_sliced (x := E) (y := E2) ((HA0.out.below HB4.out).keep (by rw [← HL.out]; exact HAU.out) (by exact hb5)) k1.2.2.1 (by rw [← HL.out]; exact k1.2.2.2.1)
    have h2 := under_sliced (x := E) (n' := E2 - E) (c' := ca - E) HA0.out (B := BS) (by rw [← HL.out]; exact HAU.out) (by rw [← HL.out]; omega)
    rw [hA2] at h1 h2
    rw [← HT2.out] at h1
    exact (rPut_any (kd := 1) ho (by rw [HBS.out]; exact hb5.size) h1 h2 (by omega)).mono (fun e w' ⟨v', q1, q2, q3, _⟩ => ⟨v', q1, q2, q3⟩))
  have HCE : Hid (∀ w5, Below BS w4 w5 → w5.heap[H]? = some (.cells #[.int .i64 xa, .int .i64 (M : Nat), .int .i64 xb, .int .i64 xm, .string xh, .slice av N cv] 37) ∧ w5.heap[R]? = some (.cells #[.int .i64 0, .int .i64 0, .int .i64 0, .int .i64 0, .string ⟨#[]⟩, .slice none 0 0] 37) ∧ w5.heap[Z]? = some (.cells #[.int .i64 0, .int .i64 0, .int .i64 0, .int .i64 0, .string ⟨#[]⟩, .slice none 0 0] 37) ∧ Below w.heap.size w w5) := hid (fun w5 hb => by
    rw [HBS.out] at hb
    exact ⟨(hb.block H (lt_of_heap HK4.out)).trans HK4.out, (hb.block R (lt_of_heap HR4.out)).trans HR4.out, (hb.block Z (lt_of_heap HZ4.out)).trans HZ4.out, HB4.out.trans (hb.mono HB4.out.size)⟩)
  have HRl : Hid (R < BS) := hid (by rw [hBS]; exact lt_of_heap HR4.out)
  have HSZ : Hid (w.heap.size ≤ BS) := hid (by rw [hBS]; exact HB4.out.size)
  clear hBS
  go_wp2_with fail
  clear q0 q1 q2 q3 q4 q5
  refine (HP3.out w4 _ [] (World.ownsRow_nil _ _ _ _) (by rw [HBS.out]; exact Below.refl _ _) (by simp)).mono ?_
  rintro e w5 ⟨v5, rfl, hO5, hb5⟩
  rw [List.nil_append] at hO5
  obtain ⟨a5, q5, rfl⟩ := own_shape hO5
  have HO5 := hid hO5
  have HB5 := hid hb5
  have HR5 : Hid (RdW w5 (.slice av N cv) xr) := hid (by
    have h1 := (HCE.out w5 hb5).2.2.2
    exact HV0.out.below h1 |> fun h => by rw [← HN.out] at h; show RdX _ _ xr.length _; rw [← HN.out]; exact h)
  have HT1l : Hid ((Hu.mk 1 T1).length ≤ 2147483648) := hid (by unfold Hu.mk; rw [List.length_map]; exact hT1l)
  have c5 : w5.cell? ⟨H, 5, none⟩ = some (.slice av N cv) := cell_of_blk (HCE.out w5 hb5).1 5
  clear hO5 hb5
  go_wp2_with (at_builtin; refine wpList_append_rdw rfl _ _ rfl BS _ (Hu.mk 1 T1) rfl HO5.out _ xr rfl HR5.out HNE.out (by have := HT1l.out; have := HN.out; omega) (by rw [HBS.out]; exact HB5.out.size) ?_; intro v6 w6 hO6 hb6; rw [← HW1.out] at hO6; obtain ⟨a6, q6, e6⟩ := own_shape hO6; subst e6; have HO6 := hid hO6; have HB6 := hid (HB5.out.trans hb6); clear hO6 hb6; have d1 := cell_of_blk (HCE.out w6 HB6.out).1 1)
  clear c5 d1
  refine (HP4.out w6 _ W1 HO6.out HB6.out hW1l).mono ?_
  rintro e w7 ⟨v7, rfl, hO7, hb7⟩
  rw [← HW2.out] at hO7
  obtain ⟨a7, q7, e7⟩ := own_shape hO7
  obtain ⟨wl, hwl⟩ : ∃ wl, wl = W2.length := ⟨_, rfl⟩
  rw [← hwl] at e7
  subst e7
  have HO7 := hid hO7
  have HB7 := hid (HB6.out.trans hb7)
  have HWL := hid hwl
  clear hO7 hb7 hwl HO6 HO5 HB6 HB5 HP3 HP4
  go_wp2_with fail
  refine (HCO.out w7 _ (own_rd HO7.out)).mono ?_
  rintro e w8 ⟨rfl, hb8⟩
  have HO8 := hid (own_stays HO7.out hb8)
  have HB8 := hid (HB7.out.trans (hb8.mono (by rw [HBS.out]; exact HB7.out.size)))
  have c4 : w8.cell? ⟨H, 4, none⟩ = some (.string xh) := cell_of_blk (HCE.out w8 HB8.out).1 4
  clear hb8 HO7 HB7
  have hHl : H < w8.heap.size := lt_of_heap (HCE.out w8 HB8.out).1
  have hHn : H ≠ w8.heap.size := Nat.ne_of_lt hHl
  go_wp2_with fail
  go_region_held3 (fun w' => w'.cell? ⟨H, 4, none⟩ = some (.string xh))
    (first
      | go_keep
      | (go_split_ands
         exact (cell_set_far hHn).trans (by assumption)))
    (first
      | (go_at_call 52; with_reducible refine (HSX.out _).mono ?_; rintro e w9 ⟨rfl, h9⟩; rw [h9]; clear h9)
      | (go_at_call 52; with_reducible refine (HSY.out _).mono ?_; rintro e w9 ⟨rfl, h9⟩; rw [h9]; clear h9))
  all_goals
    have hbW := (Below.refl w8.heap.size w8).alloc (Nat.le_refl _) (.cells #[.int .i64 TX, .int .i64 (ON : Nat), .int .i64 TY, .int .i64 (FN : Nat), .string xh, .slice a7 wl q7] 37)
    have hkW := heap_alloc_new w8 (.cells #[.int .i64 TX, .int .i64 (ON : Nat), .int .i64 TY, .int .i64 (FN : Nat), .string xh, .slice a7 wl q7] 37)
    have hbD : Below w8.heap.size w8 (w8.alloc (.cells #[.int .i64 TX, .int .i64 (ON : Nat), .int .i64 TY, .int .i64 (FN : Nat), .string xh, .slice a7 wl q7] 37)).drew := ⟨hbW.os, hbW.tape, hbW.output, hbW.size, hbW.block⟩
    have hkD : (w8.alloc (.cells #[.int .i64 TX, .int .i64 (ON : Nat), .int .i64 TY, .int .i64 (FN : Nat), .string xh, .slice a7 wl q7] 37)).drew.heap[w8.heap.size]? = some (.cells #[.int .i64 TX, .int .i64 (ON : Nat), .int .i64 TY, .int .i64 (FN : Nat), .string xh, .slice a7 wl q7] 37) := hkW
    have HB9 := hid (HB8.out.trans (hbD.mono (by rw [HBS.out]; exact HB8.out.size)))
    have HO9 := hid (own_stays HO8.out hbD)
    obtain ⟨V, hV⟩ : ∃ V, V = w8.heap.size := ⟨_, rfl⟩
    rw [← hV] at hkD ⊢
    have HV9 := hid hkD
    clear hbW hkW hbD hkD hV hHn hHl c4
    generalize (w8.alloc (.cells #[.int .i64 TX, .int .i64 (ON : Nat), .int .i64 TY, .int .i64 (FN : Nat), .string xh, .slice a7 wl q7] 37)).drew = w9 at HB9 HO9 HV9 ⊢
    have k0 : w9.cell? ⟨V, 0, none⟩ = some (.int .i64 TX) := cell_of_blk HV9.out 0
    have k1 : w9.cell? ⟨V, 1, none⟩ = some (.int .i64 (ON : Nat)) := cell_of_blk HV9.out 1
    have k2 : w9.cell? ⟨V, 2, none⟩ = some (.int .i64 TY) := cell_of_blk HV9.out 2
    have k3 : w9.cell? ⟨V, 3, none⟩ = some (.int .i64 (FN : Nat)) := cell_of_blk HV9.out 3
    have k4 : w9.cell? ⟨V, 4, none⟩ = some (.string xh) := cell_of_blk HV9.out 4
    have k5 : w9.cell? ⟨V, 5, none⟩ = some (.slice a7 wl q7) := cell_of_blk HV9.out 5
    go_wp2_with fail
    refine (HVW.out w9 (.slice a7 wl q7) (by rw [HWL.out] at HO9 ⊢; exact own_rd HO9.out)).mono ?_
    rintro e w10 ⟨rfl, hb⟩
    have HO10 := hid (own_stays HO9.out hb)
    have HBX := hid (HB9.out.trans (hb.mono (by rw [HBS.out]; exact HB9.out.size)))
    have HV10 := hid ((hb.block V (lt_of_heap HV9.out)).trans HV9.out)
    obtain ⟨_, hr10, hz10, hb10⟩ := HCE.out w10 HBX.out
    have HR10 := hid hr10
    have HZ10 := hid hz10
    have HB10 := hid hb10
    clear hb hr10 hz10 hb10 k0 k1 k2 k3 k4 k5
    have z0 : w10.cell? ⟨R, 0, none⟩ = some (.int .i64 0) := cell_of_blk HR10.out 0
    have z1 : w10.cell? ⟨R, 1, none⟩ = some (.int .i64 0) := cell_of_blk HR10.out 1
    have z2 : w10.cell? ⟨R, 2, none⟩ = some (.int .i64 0) := cell_of_blk HR10.out 2
    have z3 : w10.cell? ⟨R, 3, none⟩ = some (.int .i64 0) := cell_of_blk HR10.out 3
    have z4 : w10.cell? ⟨R, 4, none⟩ = some (.string ⟨#[]⟩) := cell_of_blk HR10.out 4
    have z5 : w10.cell? ⟨R, 5, none⟩ = some (.slice none 0 0) := cell_of_blk HR10.out 5
    have zf : ∀ j, w10.frozen? ⟨R, j, none⟩ = false := fun j => frozen_of_blk HR10.out j
    have n0 : w10.cell? ⟨Z, 0, none⟩ = some (.int .i64 0) := cell_of_blk HZ10.out 0
    have n1 : w10.cell? ⟨Z, 1, none⟩ = some (.int .i64 0) := cell_of_blk HZ10.out 1
    have n2 : w10.cell? ⟨Z, 2, none⟩ = some (.int .i64 0) := cell_of_blk HZ10.out 2
    have n3 : w10.cell? ⟨Z, 3, none⟩ = some (.int .i64 0) := cell_of_blk HZ10.out 3
    have n4 : w10.cell? ⟨Z, 4, none⟩ = some (.string ⟨#[]⟩) := cell_of_blk HZ10.out 4
    have n5 : w10.cell? ⟨Z, 5, none⟩ = some (.slice none 0 0) := cell_of_blk HZ10.out 5
    go_wp2_with fail
    have hk6 := (set_heap _ R 5 _ _ (.slice none 0 0) (set_heap _ R 4 _ _ (.string ⟨#[]⟩) (set_heap _ R 3 _ _ (.int .i64 0) (set_heap _ R 2 _ _ (.int .i64 0) (set_heap _ R 1 _ _ (.int .i64 0) (set_heap _ R 0 _ _ (.int .i64 0) HR10.out))))))
    have HBF := hid (below_set (k := 5) (u := .slice none 0 0) (below_set (k := 4) (u := .string ⟨#[]⟩) (below_set (k := 3) (u := .int .i64 0) (below_set (k := 2) (u := .int .i64 0) (below_set (k := 1) (u := .int .i64 0) (below_set (k := 0) (u := .int .i64 0) HB10.out HWR.out) HWR.out) HWR.out) HWR.out) HWR.out) HWR.out)
    generalize ((((((w10.setCell ⟨R, 0, none⟩ (.int .i64 0)).setCell ⟨R, 1, none⟩ (.int .i64 0)).setCell ⟨R, 2, none⟩ (.int .i64 0)).setCell ⟨R, 3, none⟩ (.int .i64 0)).setCell ⟨R, 4, none⟩ (.string ⟨#[]⟩)).setCell ⟨R, 5, none⟩ (.slice none 0 0)) = w11 at hk6 HBF ⊢
    have y0 : w11.cell? ⟨R, 0, none⟩ = some (.int .i64 0) := cell_of_blk hk6 0
    have y1 : w11.cell? ⟨R, 1, none⟩ = some (.int .i64 0) := cell_of_blk hk6 1
    have y2 : w11.cell? ⟨R, 2, none⟩ = some (.int .i64 0) := cell_of_blk hk6 2
    have y3 : w11.cell? ⟨R, 3, none⟩ = some (.int .i64 0) := cell_of_blk hk6 3
    have y4 : w11.cell? ⟨R, 4, none⟩ = some (.string ⟨#[]⟩) := cell_of_blk hk6 4
    have y5 : w11.cell? ⟨R, 5, none⟩ = some (.slice none 0 0) := cell_of_blk hk6 5
    exact bodyPost_ret (v := .tuple #[.agg #[.int .i64 0, .int .i64 0, .int .i64 0, .int .i64 0, .string ⟨#[]⟩, .slice none 0 0], .int .i64 100]) (by simp [results, Tryz.results17, go_sem, y0, y1, y2, y3, y4, y5]) rfl ⟨.slice none 0 0, rfl, World.ownsRow_nil _ _ _ _, HBF.out⟩
set_option maxHeartbeats 8000000 in
set_option maxRecDepth 100000 in
theorem rwide_7t {w : World} {h : Hk} {v va : Value} {a : List ByteArray} {ctx : Int} (hv : RdW w v h.rows) (ha : RdT w va a) (hz : SzH h) (hla : a.length < 8796093022200) (hsa : ∀ x ∈ a, x.size ≤ maxLen) (hc : 0 ≤ ctx ∧ ctx ≤ 2147483647) (hvl : Hu.vld h = true) (hvs : Hu.valS a = true) (hst : stdB a (Hu.olds h.rows) (Hu.plc h.a h.n).toNat = true) (hov : Hu.lack (Hu.fres h.rows) = true) (hq4 : ¬ (Hu.plc h.a h.n).toNat + (Hu.olds h.rows).length < a.length) (hq : ¬ Hu.plc h.b h.m < (Hu.wBf h.rows ctx (Hu.plc h.a h.n).toNat : Int)) (hvw : Hu.vld (Hu.wideH h a ctx) = true) :
    Calls Tryz.prog 17 #[HkV h v, va, .int .i64 ctx] w fun e w' => ∃ v', e = .returned (.tuple #[HkV (Hu.wideH h a ctx) v', .int .i64 0]) ∧ OwnW w' w.heap.size v' (Hu.wideH h a ctx).rows ∧ Below w.heap.size w w' := by
  obtain ⟨C, rfl⟩ := Int.eq_ofNat_of_zero_le hc.1
  have hC : C ≤ 2147483647 := by omega
  have n1 : ¬ (C : Int) < 0 := by omega
  have n2 : ¬ (2147483647 : Int) < (C : Int) := by omega
  have HVA := hid (fun w1 (hb : Below w.heap.size w w1) => rValid_any (h := h) (hv.below hb) hz)
  rw [show vldN h = 0 by unfold vldN; rw [hvl]; rfl] at HVA
  have HLV := hid (fun w1 (hb : Below w.heap.size w w1) => rLinesValid_two (ha.below hb) (by omega) hsa)
  rw [hvs] at HLV
  obtain ⟨p0, p1, p2, p3, p4, p5, p6, p7, p8⟩ := Hu.vld_parts hvl
  have hpl := vld_pl hvl
  have HP1 := hid (fun w1 => rPlace_any h.a h.n w1 (by omega) (by omega))
  have HP2 := hid (fun w1 => rPlace_any h.b h.m w1 (by omega) (by omega))
  have HSD := hid (fun w1 (hb : Below w.heap.size w w1) => rSides_two (h := h) (hv.below hb) hz.1)
  have HPT := hid (fun w1 (hb : Below w.heap.size w w1) => rPartial_any (h := h) (hv.below hb) hz.1 hz.2.1)
  rw [show Hu.part Hu.isF h.rows = Hu.lack (Hu.fres h.rows) by rw [Hu.part_fres, Hu.lack_any p8.1], hov] at HPT
  generalize Hu.part Hu.isO h.rows = ovo at HPT
  obtain ⟨P, hP⟩ : ∃ P : Nat, Hu.plc h.a h.n = (P : Int) := ⟨(Hu.plc h.a h.n).toNat, by unfold Hu.plc; split <;> omega⟩
  obtain ⟨Q, hQ⟩ : ∃ Q : Nat, Hu.plc h.b h.m = (Q : Int) := ⟨(Hu.plc h.b h.m).toNat, by unfold Hu.plc; split <;> omega⟩
  have hPle : P ≤ 4294967296 := by
    have : Hu.plc h.a h.n ≤ 4294967296 := by unfold Hu.plc; split <;> omega
    omega
  have hQle : Q ≤ 4294967296 := by
    have : Hu.plc h.b h.m ≤ 4294967296 := by unfold Hu.plc; split <;> omega
    omega
  rw [hP] at HP1 hst
  rw [hQ] at HP2
  have hol : (Hu.olds h.rows).length < 8796093022200 := by have := Hu.olds_len h.rows; have := hz.1; omega
  rw [Int.toNat_natCast] at hst
  have HST := hid (fun w1 v1 (hb : Below w.heap.size w w1) (hr : RdT w1 v1 (Hu.olds h.rows)) => rStands_any hr (ha.below hb) hol hla hPle)
  rw [hst] at HST
  have HCT := hid (fun w1 (hb : Below w.heap.size w w1) => rContexts_any (hv.below hb) hz.1 p0)
  have hnl0 : h.rows.length ≤ 4294967296 := by have := (vld_small hvl).1; omega
  have hle1 := Hu.fstC_le h.rows
  have hle2 := Hu.lstC_le h.rows
  obtain ⟨A, hA⟩ : ∃ A, A = Hu.fstC h.rows := ⟨_, rfl⟩
  obtain ⟨D, hD⟩ : ∃ D, D = h.rows.length - Hu.lstC h.rows := ⟨_, rfl⟩
  have hDle : D ≤ h.rows.length := by omega
  rw [← hA, ← hD] at HCT
  have hBF : Hu.wBf h.rows (C : Nat) P = min (C - A) P := by unfold Hu.wBf; rw [Hu.arF_eq p0, hA]; rfl
  have hAF : ∀ R, Hu.wAf h.rows (C : Nat) R = min (C - D) R := fun R => by unfold Hu.wAf; rw [Hu.arF_eq p0, hD]; rfl
  rw [← hA] at hle1
  have hfit : P + (Hu.olds h.rows).length ≤ a.length := by unfold stdB at hst; simp only [Bool.and_eq_true, decide_eq_true_eq] at hst; exact hst.1
  rw [hP, hQ, Int.toNat_natCast, hBF] at hq
  have HNE : Hid (h.rows ≠ []) := hid (fun e => by rw [e] at p0; cases p0)
  have hsz := wideH_sz (a := a) hz hvl hsa hc.1 hc.2
  have HVW := hid (fun w1 v1 (hr : RdW w1 v1 (Hu.wideH h a (C : Nat)).rows) => rValid_any (h := Hu.wideH h a (C : Nat)) hr hsz)
  rw [show vldN (Hu.wideH h a (C : Nat)) = 0 by unfold vldN; rw [show Hu.vld (Hu.wideH h a (C : Nat)) = true from hvw]; rfl] at HVW
  clear hsz hvw
  have HA0 := hid ha
  have HV0 := hid hv
  obtain ⟨av, cv, rfl⟩ := hv.shape
  obtain ⟨aa, ca, rfl⟩ := ha.shape
  have hcap := rd_cap ha
  obtain ⟨xa, xn, xb, xm, xh, xr⟩ := h
  dsimp only at *
  obtain ⟨N, hN⟩ : ∃ N, N = xr.length := ⟨_, rfl⟩
  obtain ⟨L, hL⟩ : ∃ L, L = a.length := ⟨_, rfl⟩
  unfold HkV at HVA HSD HPT
  unfold HkV
  dsimp only at *
  rw [← hN] at HVA HSD HPT HCT hDle hnl0 hle1 ⊢
  rw [← hL] at HLV HST hfit hcap hla ⊢
  have hxn : xn = ((Hu.olds xr).length : Int) := p1
  obtain ⟨M, hM⟩ : ∃ M, M = (Hu.olds xr).length := ⟨_, rfl⟩
  rw [← hM] at hxn hol hfit
  subst hxn
  obtain ⟨BF, hBF2⟩ : ∃ BF, BF = min (C - A) P := ⟨_, rfl⟩
  rw [← hBF2] at hBF hq
  obtain ⟨E, hE⟩ : ∃ E, E = P + M := ⟨_, rfl⟩
  obtain ⟨G, hG⟩ : ∃ G, G = L - E := ⟨_, rfl⟩
  obtain ⟨AF, hAF2⟩ : ∃ AF, AF = min (C - D) G := ⟨_, rfl⟩
  obtain ⟨X0, hX0⟩ : ∃ X0, X0 = P - BF := ⟨_, rfl⟩
  obtain ⟨E2, hE2⟩ : ∃ E2, E2 = E + AF := ⟨_, rfl⟩
  obtain ⟨M1, hM1⟩ : ∃ M1, M1 = C - A := ⟨_, rfl⟩
  obtain ⟨M2, hM2⟩ : ∃ M2, M2 = C - D := ⟨_, rfl⟩
  obtain ⟨G1, hG1⟩ : ∃ G1, G1 = L - P := ⟨_, rfl⟩
  rw [← hM1] at hBF2
  rw [← hM2] at hAF2
  have i1 : IntKind.i64.wrap ((C : Int) - (A : Int)) = (C : Int) - (A : Int) := wrapOk (by omega) (by omega)
  have i2 : max ((C : Int) - (A : Int)) 0 = (M1 : Int) := by rw [hM1]; exact nmax _ _
  have i3 : min (M1 : Int) (P : Int) = (BF : Int) := by rw [hBF2]; exact nmin _ _
  have b1 : BF ≤ P := by rw [hBF2]; exact Nat.min_le_right _ _
  have b2 : BF ≤ C := by rw [hBF2, hM1]; exact Nat.le_trans (Nat.min_le_left _ _) (Nat.sub_le _ _)
  have b3 : AF ≤ G := by rw [hAF2]; exact Nat.min_le_right _ _
  have b4 : AF ≤ C := by rw [hAF2, hM2]; exact Nat.le_trans (Nat.min_le_left _ _) (Nat.sub_le _ _)
  have b5 : G1 + P = L := by rw [hG1]; exact Nat.sub_add_cancel (by omega)
  have b6 : X0 + BF = P := by rw [hX0]; exact Nat.sub_add_cancel b1
  have b7 : G + E = L := by rw [hG]; exact Nat.sub_add_cancel (by rw [hE]; omega)
  have i4 : IntKind.i64.wrap ((P : Int) - (BF : Int)) = (X0 : Int) := (wrapOk (by omega) (by omega)).trans (by omega)
  have i5 : IntKind.i64.wrap ((P : Int) + (M : Int)) = (E : Int) := (wrapOk (by omega) (by omega)).trans (by omega)
  have i6 : IntKind.i64.wrap ((C : Int) - (D : Int)) = (C : Int) - (D : Int) := wrapOk (by omega) (by omega)
  have i7 : max ((C : Int) - (D : Int)) 0 = (M2 : Int) := by rw [hM2]; exact nmax _ _
  have i8 : IntKind.i64.wrap ((L : Int) - (P : Int)) = (G1 : Int) := (wrapOk (by omega) (by omega)).trans (by omega)
  have i9 : IntKind.i64.wrap ((G1 : Int) - (M : Int)) = (G : Int) := (wrapOk (by omega) (by omega)).trans (by omega)
  have i10 : min (M2 : Int) (G : Int) = (AF : Int) := by rw [hAF2]; exact nmin _ _
  have i11 : IntKind.i64.wrap ((E : Int) + (AF : Int)) = (E2 : Int) := (wrapOk (by omega) (by omega)).trans (by omega)
  have i12 : IntKind.i64.wrap ((P : Int) - (X0 : Int)) = (BF : Int) := (wrapOk (by omega) (by omega)).trans (by omega)
  have hq2 : ¬ (Q : Int) < (BF : Int) := by omega
  have hEL : ¬ (E : Int) < (L : Int) := by omega
  obtain ⟨Y0, hY0⟩ : ∃ Y0 : Int, Y0 = (Q : Int) - (BF : Int) := ⟨_, rfl⟩
  obtain ⟨T1, hT1⟩ : ∃ T1, T1 = (a.drop X0).take (P - X0) := ⟨_, rfl⟩
  obtain ⟨T2, hT2⟩ : ∃ T2, T2 = (a.drop E).take (E2 - E) := ⟨_, rfl⟩
  have HWH : Hid (Hu.wideH ⟨xa, (M : Nat), xb, xm, xh, xr⟩ a (C : Nat) = { Hu.hunkAt (X0 : Nat) Y0 (Hu.mk 1 T1 ++ xr ++ Hu.mk 1 T2) with head := xh }) := hid (by
    unfold Hu.wideH Hu.wRows
    dsimp only
    rw [hP, hQ, Int.toNat_natCast, hBF, ← hM, ← hE, ← hL, ← hG, hAF, ← hM2, ← hAF2, hT1, hT2, hX0, hE2, hY0]
    rw [show ((P - BF : Nat) : Int) = (P : Int) - (BF : Int) by omega, show P - (P - BF) = BF by omega, show E + AF - E = AF by omega])
  rw [HWH.out] at HVW
  rw [HWH.out]
  obtain ⟨W1, hW1⟩ : ∃ W1, W1 = Hu.mk 1 T1 ++ xr := ⟨_, rfl⟩
  obtain ⟨W2, hW2⟩ : ∃ W2, W2 = W1 ++ Hu.mk 1 T2 := ⟨_, rfl⟩
  rw [← hW1, ← hW2] at HVW ⊢
  have HW1 := hid hW1
  have HW2 := hid hW2
  have HT1 := hid hT1
  have HT2 := hid hT2
  have i13 : IntKind.i64.wrap ((Q : Int) - (BF : Int)) = Y0 := (wrapOk (by omega) (by omega)).trans (by omega)
  have hT1l : T1.length ≤ 2147483648 := by rw [hT1, hX0]; exact Nat.le_trans (List.length_take_le _ _) (by rw [← hX0]; omega)
  have hT2l : T2.length ≤ 2147483648 := by rw [hT2]; exact Nat.le_trans (List.length_take_le _ _) (by rw [hE2]; omega)
  have hW1l : W1.length ≤ 9000000000 := by rw [hW1, List.length_append, ← hN]; unfold Hu.mk; rw [List.length_map]; omega
  have hW2l : W2.length ≤ 12000000000 := by rw [hW2, List.length_append]; unfold Hu.mk; rw [List.length_map]; omega
  clear hW1 hW2
  have j1 : (0 : Int) ≤ (X0 : Int) := by omega
  have j2 : (X0 : Int) ≤ (P : Int) := by omega
  have j3 : (P : Int) ≤ (ca : Int) := by omega
  have j4 : (0 : Int) ≤ (E : Int) := by omega
  have j5 : (E : Int) ≤ (E2 : Int) := by omega
  have j6 : (E2 : Int) ≤ (ca : Int) := by omega
  have hY0b : -4611686018427387904 ≤ Y0 ∧ Y0 ≤ 4611686018427387904 := by omega
  have k1 : X0 ≤ P ∧ P ≤ L ∧ E ≤ E2 ∧ E2 ≤ L ∧ P ≤ 4294967296 := by omega
  obtain ⟨A1, hA1⟩ : ∃ A1, (if ca = X0 then aa else aa.map (·.add X0)) = A1 := ⟨_, rfl⟩
  obtain ⟨A2, hA2⟩ : ∃ A2, (if ca = E then aa else aa.map (·.add E)) = A2 := ⟨_, rfl⟩
  have HSX := hid (fun w1 => rStated_any (X0 : Nat) (Hu.olds W2).length w1 (by omega) (by omega))
  have HSY := hid (fun w1 => rStated_any Y0 (Hu.fres W2).length w1 (by omega) (by omega))
  have HCO := hid (fun w1 v1 (hr : RdW w1 v1 W2) => rCounts_any hr (by omega))
  unfold HkV Hu.hunkAt at HVW
  dsimp only at HVW
  unfold Hu.hunkAt
  dsimp only
  generalize Hu.told (X0 : Nat) (Hu.olds W2).length = TX at HVW HSX ⊢
  generalize Hu.told Y0 (Hu.fres W2).length = TY at HVW HSY ⊢
  generalize (Hu.olds W2).length = ON at HVW HSX HCO ⊢
  generalize (Hu.fres W2).length = FN at HVW HSY HCO ⊢
  have HN := hid hN
  have HL := hid hL
  clear hv ha hN hL hz hvl hc hvs hsa p0 p1 p2 p3 p4 p5 p6 p7 p8 hpl hP hQ hst hM hov hle1 hle2 hA hD hDle hBF hAF hfit hq hBF2 hE hG hAF2 hX0 hE2 hM1 hM2 hG1 b1 b2 b3 b4 b5 b6 b7 hT1 hT2 hY0 HWH
  have h3 := three w (.cells #[.int .i64 xa, .int .i64 (M : Nat), .int .i64 xb, .int .i64 xm, .string xh, .slice av N cv] 37) (.cells #[.int .i64 0, .int .i64 0, .int .i64 0, .int .i64 0, .string ⟨#[]⟩, .slice none 0 0] 37) (.cells #[.int .i64 0, .int .i64 0, .int .i64 0, .int .i64 0, .string ⟨#[]⟩, .slice none 0 0] 37)
  obtain ⟨t1, t2, t3, t4⟩ := h3
  go_enter Tryz.func17, Tryz.ntmps17
  have q0 := cell_of_blk t2 0
  have q1 := cell_of_blk t2 1
  have q2 := cell_of_blk t2 2
  have q3 := cell_of_blk t2 3
  have q4 := cell_of_blk t2 4
  have q5 := cell_of_blk t2 5
  go_wp2_with fail
  clear q0 q1 q2 q3 q4 q5
  generalize (((w.alloc (.cells #[.int .i64 xa, .int .i64 (M : Nat), .int .i64 xb, .int .i64 xm, .string xh, .slice av N cv] 37)).alloc (.cells #[.int .i64 0, .int .i64 0, .int .i64 0, .int .i64 0, .string ⟨#[]⟩, .slice none 0 0] 37)).alloc (.cells #[.int .i64 0, .int .i64 0, .int .i64 0, .int .i64 0, .string ⟨#[]⟩, .slice none 0 0] 37)) = w0 at t1 t2 t3 t4 ⊢
  obtain ⟨R, hR⟩ : ∃ R, R = w.heap.size + 1 := ⟨_, rfl⟩
  obtain ⟨Z, hZ⟩ : ∃ Z, Z = w.heap.size + 1 + 1 := ⟨_, rfl⟩
  obtain ⟨H, hH⟩ : ∃ H, H = w.heap.size := ⟨_, rfl⟩
  have HWR : Hid (w.heap.size ≤ R) := hid (by omega)
  rw [← hZ] at t4
  rw [← hR] at t3
  rw [← hH] at t2
  have HB0 := hid t1
  have HK0 := hid t2
  have HR0 := hid t3
  have HZ0 := hid t4
  rw [← hZ, ← hR, ← hH]
  have HH := hid hH
  have HRR := hid hR
  clear t1 t2 t3 t4 hR hZ hH
  refine (HVA.out w0 HB0.out).mono ?_
  rintro e w1 ⟨rfl, hb⟩
  have HB1 := hid (HB0.out.trans (hb.mono HB0.out.size))
  have HK1 := hid ((hb.block H (lt_of_heap HK0.out)).trans HK0.out)
  have HR1 := hid ((hb.block R (lt_of_heap HR0.out)).trans HR0.out)
  have HZ1 := hid ((hb.block Z (lt_of_heap HZ0.out)).trans HZ0.out)
  clear hb
  go_wp2_with fail
  refine (HLV.out w1 HB1.out).mono ?_
  rintro e w1' ⟨rfl, h1⟩
  rw [h1]
  clear h1
  have q0 : w1.cell? ⟨H, 0, none⟩ = some (.int .i64 xa) := cell_of_blk HK1.out 0
  have q1 : w1.cell? ⟨H, 1, none⟩ = some (.int .i64 (M : Nat)) := cell_of_blk HK1.out 1
  have q2 : w1.cell? ⟨H, 2, none⟩ = some (.int .i64 xb) := cell_of_blk HK1.out 2
  have q3 : w1.cell? ⟨H, 3, none⟩ = some (.int .i64 xm) := cell_of_blk HK1.out 3
  have q4 : w1.cell? ⟨H, 4, none⟩ = some (.string xh) := cell_of_blk HK1.out 4
  have q5 : w1.cell? ⟨H, 5, none⟩ = some (.slice av N cv) := cell_of_blk HK1.out 5
  go_wp2_with fail
  refine (HP1.out w1).mono ?_
  rintro e w1' ⟨rfl, h1⟩
  rw [h1]
  clear h1
  go_wp2_with fail
  refine (HP2.out w1).mono ?_
  rintro e w1' ⟨rfl, h1⟩
  rw [h1]
  clear h1
  go_wp2_with fail
  refine (HSD.out w1 HB1.out).mono ?_
  rintro e w2 ⟨vo, vf, rfl, hO, hb⟩
  have HB2 := hid (HB1.out.trans (hb.mono HB1.out.size))
  have HK2 := hid ((hb.block H (lt_of_heap HK1.out)).trans HK1.out)
  have HR2 := hid ((hb.block R (lt_of_heap HR1.out)).trans HR1.out)
  have HZ2 := hid ((hb.block Z (lt_of_heap HZ1.out)).trans HZ1.out)
  have hro := own_rd hO.1
  obtain ⟨oa, oc, eo⟩ := RdX.shape hro
  obtain ⟨fa, fc, ef⟩ := own_shape hO.2.1
  obtain ⟨Lf, hLf⟩ : ∃ Lf, Lf = (Hu.fres xr).length := ⟨_, rfl⟩
  obtain ⟨Lo, hLo⟩ : ∃ Lo, Lo = (Hu.olds xr).length := ⟨_, rfl⟩
  rw [← hLf] at ef
  rw [← hLo] at eo
  subst eo ef
  have HLO := hid hLo
  have HRO := hid hro
  clear hb hO hro hLf hLo
  clear q0 q1 q2 q3 q4 q5
  have q0 : w2.cell? ⟨H, 0, none⟩ = some (.int .i64 xa) := cell_of_blk HK2.out 0
  have q1 : w2.cell? ⟨H, 1, none⟩ = some (.int .i64 (M : Nat)) := cell_of_blk HK2.out 1
  have q2 : w2.cell? ⟨H, 2, none⟩ = some (.int .i64 xb) := cell_of_blk HK2.out 2
  have q3 : w2.cell? ⟨H, 3, none⟩ = some (.int .i64 xm) := cell_of_blk HK2.out 3
  have q4 : w2.cell? ⟨H, 4, none⟩ = some (.string xh) := cell_of_blk HK2.out 4
  have q5 : w2.cell? ⟨H, 5, none⟩ = some (.slice av N cv) := cell_of_blk HK2.out 5
  go_wp2_with fail
  refine (HPT.out w2 HB2.out).mono ?_
  rintro e w3 ⟨rfl, hb⟩
  have HB3 := hid (HB2.out.trans (hb.mono HB2.out.size))
  have HK3 := hid ((hb.block H (lt_of_heap HK2.out)).trans HK2.out)
  have HR3 := hid ((hb.block R (lt_of_heap HR2.out)).trans HR2.out)
  have HZ3 := hid ((hb.block Z (lt_of_heap HZ2.out)).trans HZ2.out)
  have HRO3 := hid (HRO.out.below hb)
  clear hb HRO
  clear q0 q1 q2 q3 q4 q5
  have q0 : w3.cell? ⟨H, 0, none⟩ = some (.int .i64 xa) := cell_of_blk HK3.out 0
  have q1 : w3.cell? ⟨H, 1, none⟩ = some (.int .i64 (M : Nat)) := cell_of_blk HK3.out 1
  have q2 : w3.cell? ⟨H, 2, none⟩ = some (.int .i64 xb) := cell_of_blk HK3.out 2
  have q3 : w3.cell? ⟨H, 3, none⟩ = some (.int .i64 xm) := cell_of_blk HK3.out 3
  have q4 : w3.cell? ⟨H, 4, none⟩ = some (.string xh) := cell_of_blk HK3.out 4
  have q5 : w3.cell? ⟨H, 5, none⟩ = some (.slice av N cv) := cell_of_blk HK3.out 5
  go_wp2_with fail
  refine (HST.out w3 _ HB3.out HRO3.out).mono ?_
  rintro e w4 ⟨rfl, hb⟩
  have HB4 := hid (HB3.out.trans (hb.mono HB3.out.size))
  have HK4 := hid ((hb.block H (lt_of_heap HK3.out)).trans HK3.out)
  have HR4 := hid ((hb.block R (lt_of_heap HR3.out)).trans HR3.out)
  have HZ4 := hid ((hb.block Z (lt_of_heap HZ3.out)).trans HZ3.out)
  clear hb HRO3
  clear q0 q1 q2 q3 q4 q5
  have q0 : w4.cell? ⟨H, 0, none⟩ = some (.int .i64 xa) := cell_of_blk HK4.out 0
  have q1 : w4.cell? ⟨H, 1, none⟩ = some (.int .i64 (M : Nat)) := cell_of_blk HK4.out 1
  have q2 : w4.cell? ⟨H, 2, none⟩ = some (.int .i64 xb) := cell_of_blk HK4.out 2
  have q3 : w4.cell? ⟨H, 3, none⟩ = some (.int .i64 xm) := cell_of_blk HK4.out 3
  have q4 : w4.cell? ⟨H, 4, none⟩ = some (.string xh) := cell_of_blk HK4.out 4
  have q5 : w4.cell? ⟨H, 5, none⟩ = some (.slice av N cv) := cell_of_blk HK4.out 5
  go_wp2_with fail
  refine (HCT.out w4 HB4.out).mono ?_
  rintro e w4' ⟨rfl, h1⟩
  rw [h1]
  clear h1
  obtain ⟨BS, hBS⟩ : ∃ BS, BS = w4.heap.size := ⟨_, rfl⟩
  have HBS := hid hBS
  have HAU : Hid (Under BS (.slice aa L ca)) := hid (by rw [HL.out, hBS]; exact HA0.out.under.mono HB4.out.size)
  have HP3 : Hid (∀ (w5 : World) (v5 : Value) (Y : List Rw), OwnW w5 BS v5 Y → Below BS w4 w5 → Y.length ≤ 5000000000 → Calls Tryz.prog 50 #[v5, .int .i64 1, .slice A1 (P - X0) (ca - X0)] w5 fun e w' => ∃ v', e = .returned v' ∧ OwnW w' BS v' (Y ++ Hu.mk 1 T1) ∧ Below BS w5 w') := hid (fun w5 v5 Y ho hb5 hY => by
    have h1 := rdT_sliced (x := X0) (y := P) ((HA0.out.below HB4.out).keep (by rw [← HL.out]; exact HAU.out) (by exact hb5)) k1.1 (by rw [← HL.out]; exact k1.2.1)
    have h2 := under_sliced (x := X0) (n' := P - X0) (c' := ca - X0) HA0.out (B := BS) (by rw [← HL.out]; exact HAU.out) (by rw [← HL.out]; omega)
    rw [hA1] at h1 h2
    rw [← HT1.out] at h1
    exact (rPut_any (kd := 1) ho (by rw [HBS.out]; exact hb5.size) h1 h2 (by omega)).mono (fun e w' ⟨v', q1, q2, q3, _⟩ => ⟨v', q1, q2, q3⟩))
  have HP4 : Hid (∀ (w5 : World) (v5 : Value) (Y : List Rw), OwnW w5 BS v5 Y → Below BS w4 w5 → Y.length ≤ 9000000000 → Calls Tryz.prog 50 #[v5, .int .i64 1, .slice A2 (E2 - E) (ca - E)] w5 fun e w' => ∃ v', e = .returned v' ∧ OwnW w' BS v' (Y ++ Hu.mk 1 T2) ∧ Below BS w5 w') := hid (fun w5 v5 Y ho hb5 hY => by
    have h1 := rdT_sliced (x := E) (y := E2) ((HA0.out.below HB4.out).keep (by rw [← HL.out]; exact HAU.out) (by exact hb5)) k1.2.2.1 (by rw [← HL.out]; exact k1.2.2.2.1)
    have h2 := under_sliced (x := E) (n' := E2 - E) (c' := ca - E) HA0.out (B := BS) (by rw [← HL.out]; exact HAU.out) (by rw [← HL.out]; omega)
    rw [hA2] at h1 h2
    rw [← HT2.out] at h1
    exact (rPut_any (kd := 1) ho (by rw [HBS.out]; exact hb5.size) h1 h2 (by omega)).mono (fun e w' ⟨v', q1, q2, q3, _⟩ => ⟨v', q1, q2, q3⟩))
  have HCE : Hid (∀ w5, Below BS w4 w5 → w5.heap[H]? = some (.cells #[.int .i64 xa, .int .i64 (M : Nat), .int .i64 xb, .int .i64 xm, .string xh, .slice av N cv] 37) ∧ w5.heap[R]? = some (.cells #[.int .i64 0, .int .i64 0, .int .i64 0, .int .i64 0, .string ⟨#[]⟩, .slice none 0 0] 37) ∧ w5.heap[Z]? = some (.cells #[.int .i64 0, .int .i64 0, .int .i64 0, .int .i64 0, .string ⟨#[]⟩, .slice none 0 0] 37) ∧ Below w.heap.size w w5) := hid (fun w5 hb => by
    rw [HBS.out] at hb
    exact ⟨(hb.block H (lt_of_heap HK4.out)).trans HK4.out, (hb.block R (lt_of_heap HR4.out)).trans HR4.out, (hb.block Z (lt_of_heap HZ4.out)).trans HZ4.out, HB4.out.trans (hb.mono HB4.out.size)⟩)
  have HRl : Hid (R < BS) := hid (by rw [hBS]; exact lt_of_heap HR4.out)
  have HSZ : Hid (w.heap.size ≤ BS) := hid (by rw [hBS]; exact HB4.out.size)
  clear hBS
  go_wp2_with fail
  clear q0 q1 q2 q3 q4 q5
  refine (HP3.out w4 _ [] (World.ownsRow_nil _ _ _ _) (by rw [HBS.out]; exact Below.refl _ _) (by simp)).mono ?_
  rintro e w5 ⟨v5, rfl, hO5, hb5⟩
  rw [List.nil_append] at hO5
  obtain ⟨a5, q5, rfl⟩ := own_shape hO5
  have HO5 := hid hO5
  have HB5 := hid hb5
  have HR5 : Hid (RdW w5 (.slice av N cv) xr) := hid (by
    have h1 := (HCE.out w5 hb5).2.2.2
    exact HV0.out.below h1 |> fun h => by rw [← HN.out] at h; show RdX _ _ xr.length _; rw [← HN.out]; exact h)
  have HT1l : Hid ((Hu.mk 1 T1).length ≤ 2147483648) := hid (by unfold Hu.mk; rw [List.length_map]; exact hT1l)
  have c5 : w5.cell? ⟨H, 5, none⟩ = some (.slice av N cv) := cell_of_blk (HCE.out w5 hb5).1 5
  clear hO5 hb5
  go_wp2_with (at_builtin; refine wpList_append_rdw rfl _ _ rfl BS _ (Hu.mk 1 T1) rfl HO5.out _ xr rfl HR5.out HNE.out (by have := HT1l.out; have := HN.out; omega) (by rw [HBS.out]; exact HB5.out.size) ?_; intro v6 w6 hO6 hb6; rw [← HW1.out] at hO6; obtain ⟨a6, q6, e6⟩ := own_shape hO6; subst e6; have HO6 := hid hO6; have HB6 := hid (HB5.out.trans hb6); clear hO6 hb6; have d1 := cell_of_blk (HCE.out w6 HB6.out).1 1)
  clear c5 d1
  refine (HP4.out w6 _ W1 HO6.out HB6.out hW1l).mono ?_
  rintro e w7 ⟨v7, rfl, hO7, hb7⟩
  rw [← HW2.out] at hO7
  obtain ⟨a7, q7, e7⟩ := own_shape hO7
  obtain ⟨wl, hwl⟩ : ∃ wl, wl = W2.length := ⟨_, rfl⟩
  rw [← hwl] at e7
  subst e7
  have HO7 := hid hO7
  have HB7 := hid (HB6.out.trans hb7)
  have HWL := hid hwl
  clear hO7 hb7 hwl HO6 HO5 HB6 HB5 HP3 HP4
  go_wp2_with fail
  refine (HCO.out w7 _ (own_rd HO7.out)).mono ?_
  rintro e w8 ⟨rfl, hb8⟩
  have HO8 := hid (own_stays HO7.out hb8)
  have HB8 := hid (HB7.out.trans (hb8.mono (by rw [HBS.out]; exact HB7.out.size)))
  have c4 : w8.cell? ⟨H, 4, none⟩ = some (.string xh) := cell_of_blk (HCE.out w8 HB8.out).1 4
  clear hb8 HO7 HB7
  have hHl : H < w8.heap.size := lt_of_heap (HCE.out w8 HB8.out).1
  have hHn : H ≠ w8.heap.size := Nat.ne_of_lt hHl
  go_wp2_with fail
  go_region_held3 (fun w' => w'.cell? ⟨H, 4, none⟩ = some (.string xh))
    (first
      | go_keep
      | (go_split_ands
         exact (cell_set_far hHn).trans (by assumption)))
    (first
      | (go_at_call 52; with_reducible refine (HSX.out _).mono ?_; rintro e w9 ⟨rfl, h9⟩; rw [h9]; clear h9)
      | (go_at_call 52; with_reducible refine (HSY.out _).mono ?_; rintro e w9 ⟨rfl, h9⟩; rw [h9]; clear h9))
  all_goals
    have hbW := (Below.refl w8.heap.size w8).alloc (Nat.le_refl _) (.cells #[.int .i64 TX, .int .i64 (ON : Nat), .int .i64 TY, .int .i64 (FN : Nat), .string xh, .slice a7 wl q7] 37)
    have hkW := heap_alloc_new w8 (.cells #[.int .i64 TX, .int .i64 (ON : Nat), .int .i64 TY, .int .i64 (FN : Nat), .string xh, .slice a7 wl q7] 37)
    have hbD : Below w8.heap.size w8 (w8.alloc (.cells #[.int .i64 TX, .int .i64 (ON : Nat), .int .i64 TY, .int .i64 (FN : Nat), .string xh, .slice a7 wl q7] 37)).drew := ⟨hbW.os, hbW.tape, hbW.output, hbW.size, hbW.block⟩
    have hkD : (w8.alloc (.cells #[.int .i64 TX, .int .i64 (ON : Nat), .int .i64 TY, .int .i64 (FN : Nat), .string xh, .slice a7 wl q7] 37)).drew.heap[w8.heap.size]? = some (.cells #[.int .i64 TX, .int .i64 (ON : Nat), .int .i64 TY, .int .i64 (FN : Nat), .string xh, .slice a7 wl q7] 37) := hkW
    have HB9 := hid (HB8.out.trans (hbD.mono (by rw [HBS.out]; exact HB8.out.size)))
    have HO9 := hid (own_stays HO8.out hbD)
    obtain ⟨V, hV⟩ : ∃ V, V = w8.heap.size := ⟨_, rfl⟩
    rw [← hV] at hkD ⊢
    have HV9 := hid hkD
    clear hbW hkW hbD hkD hV hHn hHl c4
    generalize (w8.alloc (.cells #[.int .i64 TX, .int .i64 (ON : Nat), .int .i64 TY, .int .i64 (FN : Nat), .string xh, .slice a7 wl q7] 37)).drew = w9 at HB9 HO9 HV9 ⊢
    have k0 : w9.cell? ⟨V, 0, none⟩ = some (.int .i64 TX) := cell_of_blk HV9.out 0
    have k1 : w9.cell? ⟨V, 1, none⟩ = some (.int .i64 (ON : Nat)) := cell_of_blk HV9.out 1
    have k2 : w9.cell? ⟨V, 2, none⟩ = some (.int .i64 TY) := cell_of_blk HV9.out 2
    have k3 : w9.cell? ⟨V, 3, none⟩ = some (.int .i64 (FN : Nat)) := cell_of_blk HV9.out 3
    have k4 : w9.cell? ⟨V, 4, none⟩ = some (.string xh) := cell_of_blk HV9.out 4
    have k5 : w9.cell? ⟨V, 5, none⟩ = some (.slice a7 wl q7) := cell_of_blk HV9.out 5
    go_wp2_with fail
    refine (HVW.out w9 (.slice a7 wl q7) (by rw [HWL.out] at HO9 ⊢; exact own_rd HO9.out)).mono ?_
    rintro e w10 ⟨rfl, hb⟩
    have HO10 := hid (own_stays HO9.out hb)
    have HBX := hid (HB9.out.trans (hb.mono (by rw [HBS.out]; exact HB9.out.size)))
    have HV10 := hid ((hb.block V (lt_of_heap HV9.out)).trans HV9.out)
    obtain ⟨_, hr10, hz10, hb10⟩ := HCE.out w10 HBX.out
    have HR10 := hid hr10
    have HZ10 := hid hz10
    have HB10 := hid hb10
    clear hb hr10 hz10 hb10 k0 k1 k2 k3 k4 k5
    have k0 : w10.cell? ⟨V, 0, none⟩ = some (.int .i64 TX) := cell_of_blk HV10.out 0
    have k1 : w10.cell? ⟨V, 1, none⟩ = some (.int .i64 (ON : Nat)) := cell_of_blk HV10.out 1
    have k2 : w10.cell? ⟨V, 2, none⟩ = some (.int .i64 TY) := cell_of_blk HV10.out 2
    have k3 : w10.cell? ⟨V, 3, none⟩ = some (.int .i64 (FN : Nat)) := cell_of_blk HV10.out 3
    have k4 : w10.cell? ⟨V, 4, none⟩ = some (.string xh) := cell_of_blk HV10.out 4
    have k5 : w10.cell? ⟨V, 5, none⟩ = some (.slice a7 wl q7) := cell_of_blk HV10.out 5
    have z0 : w10.cell? ⟨R, 0, none⟩ = some (.int .i64 0) := cell_of_blk HR10.out 0
    have z1 : w10.cell? ⟨R, 1, none⟩ = some (.int .i64 0) := cell_of_blk HR10.out 1
    have z2 : w10.cell? ⟨R, 2, none⟩ = some (.int .i64 0) := cell_of_blk HR10.out 2
    have z3 : w10.cell? ⟨R, 3, none⟩ = some (.int .i64 0) := cell_of_blk HR10.out 3
    have z4 : w10.cell? ⟨R, 4, none⟩ = some (.string ⟨#[]⟩) := cell_of_blk HR10.out 4
    have z5 : w10.cell? ⟨R, 5, none⟩ = some (.slice none 0 0) := cell_of_blk HR10.out 5
    have zf : ∀ j, w10.frozen? ⟨R, j, none⟩ = false := fun j => frozen_of_blk HR10.out j
    go_wp2_with fail
    have hk6 := (set_heap _ R 5 _ _ (.slice a7 wl q7) (set_heap _ R 4 _ _ (.string xh) (set_heap _ R 3 _ _ (.int .i64 (FN : Nat)) (set_heap _ R 2 _ _ (.int .i64 TY) (set_heap _ R 1 _ _ (.int .i64 (ON : Nat)) (set_heap _ R 0 _ _ (.int .i64 TX) HR10.out))))))
    have HBF := hid (below_set (k := 5) (u := .slice a7 wl q7) (below_set (k := 4) (u := .string xh) (below_set (k := 3) (u := .int .i64 (FN : Nat)) (below_set (k := 2) (u := .int .i64 TY) (below_set (k := 1) (u := .int .i64 (ON : Nat)) (below_set (k := 0) (u := .int .i64 TX) HB10.out HWR.out) HWR.out) HWR.out) HWR.out) HWR.out) HWR.out)
    have HO11 : Hid (BS ≤ BS ∧ (((((((w10.setCell ⟨R, 0, none⟩ (.int .i64 TX)).setCell ⟨R, 1, none⟩ (.int .i64 (ON : Nat))).setCell ⟨R, 2, none⟩ (.int .i64 TY)).setCell ⟨R, 3, none⟩ (.int .i64 (FN : Nat))).setCell ⟨R, 4, none⟩ (.string xh)).setCell ⟨R, 5, none⟩ (.slice a7 wl q7))).ownsRow BS 59 2 (.slice a7 wl q7) W2.length (rwsC W2)) := hid ⟨Nat.le_refl _, own_far HO10.out (fun q hq => by
      have hne : q ≠ R := by have := own_ge HO10.out q hq; have := HRl.out; omega
      exact (set_other _ hne).trans ((set_other _ hne).trans ((set_other _ hne).trans ((set_other _ hne).trans ((set_other _ hne).trans (set_other _ hne))))))⟩
    generalize ((((((w10.setCell ⟨R, 0, none⟩ (.int .i64 TX)).setCell ⟨R, 1, none⟩ (.int .i64 (ON : Nat))).setCell ⟨R, 2, none⟩ (.int .i64 TY)).setCell ⟨R, 3, none⟩ (.int .i64 (FN : Nat))).setCell ⟨R, 4, none⟩ (.string xh)).setCell ⟨R, 5, none⟩ (.slice a7 wl q7)) = w11 at hk6 HBF HO11 ⊢
    have y0 : w11.cell? ⟨R, 0, none⟩ = some (.int .i64 TX) := cell_of_blk hk6 0
    have y1 : w11.cell? ⟨R, 1, none⟩ = some (.int .i64 (ON : Nat)) := cell_of_blk hk6 1
    have y2 : w11.cell? ⟨R, 2, none⟩ = some (.int .i64 TY) := cell_of_blk hk6 2
    have y3 : w11.cell? ⟨R, 3, none⟩ = some (.int .i64 (FN : Nat)) := cell_of_blk hk6 3
    have y4 : w11.cell? ⟨R, 4, none⟩ = some (.string xh) := cell_of_blk hk6 4
    have y5 : w11.cell? ⟨R, 5, none⟩ = some (.slice a7 wl q7) := cell_of_blk hk6 5
    exact bodyPost_ret (v := .tuple #[.agg #[.int .i64 TX, .int .i64 (ON : Nat), .int .i64 TY, .int .i64 (FN : Nat), .string xh, .slice a7 wl q7], .int .i64 0]) (by simp [results, Tryz.results17, go_sem, y0, y1, y2, y3, y4, y5]) rfl ⟨.slice a7 wl q7, rfl, own_mono HO11.out.2 HSZ.out, HBF.out⟩
end Go.Proofs.YtddmfdjkkikapaaGreatDoor
