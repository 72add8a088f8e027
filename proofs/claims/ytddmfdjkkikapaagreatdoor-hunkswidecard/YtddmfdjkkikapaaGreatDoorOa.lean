/-
  More context: the document's Wide (wip/genoa.py).
-/
import Derived.Test.YtddmfdjkkikapaaGreatDoorGrUx
import Derived.Test.YtddmfdjkkikapaaGreatDoorGrKc
import Derived.Test.YtddmfdjkkikapaaGreatDoorGrMa
import Derived.Test.YtddmfdjkkikapaaGreatDoorGrJw
namespace Go.Proofs.YtddmfdjkkikapaaGreatDoor
open Go.RowKit
open Hu (Rw Hk)

set_option maxHeartbeats 8000000 in
set_option maxRecDepth 100000 in
theorem rwide_1a {w : World} {h : Hk} {v va : Value} {a : List ByteArray} {ctx : Int} (hv : RdW w v h.rows) (ha : RdT w va a) (_ : SzH h) (_ : a.length < 8796093022200) (_ : ∀ x ∈ a, x.size ≤ maxLen) (hc : ctx < 0) :
    Calls Tryz.prog 17 #[HkV h v, va, .int .i64 ctx] w fun e w' => ∃ v', e = .returned (.tuple #[HkV zH v', .int .i64 1]) ∧ OwnW w' w.heap.size v' [] ∧ Below w.heap.size w w' := by
  have HA0 := hid ha
  have HV0 := hid hv
  obtain ⟨av, cv, rfl⟩ := hv.shape
  obtain ⟨aa, ca, rfl⟩ := ha.shape
  obtain ⟨xa, xn, xb, xm, xh, xr⟩ := h
  dsimp only at *
  obtain ⟨N, hN⟩ : ∃ N, N = xr.length := ⟨_, rfl⟩
  obtain ⟨L, hL⟩ : ∃ L, L = a.length := ⟨_, rfl⟩
  unfold HkV zH
  dsimp only at *
  rw [← hN]
  rw [← hL]
  clear hv ha hN hL 
  have h3 := three w (.cells #[.int .i64 xa, .int .i64 xn, .int .i64 xb, .int .i64 xm, .string xh, .slice av N cv] 37) (.cells #[.int .i64 0, .int .i64 0, .int .i64 0, .int .i64 0, .string ⟨#[]⟩, .slice none 0 0] 37) (.cells #[.int .i64 0, .int .i64 0, .int .i64 0, .int .i64 0, .string ⟨#[]⟩, .slice none 0 0] 37)
  obtain ⟨t1, t2, t3, t4⟩ := h3
  go_enter Tryz.func17, Tryz.ntmps17
  have z0 := cell_of_blk t3 0
  have z1 := cell_of_blk t3 1
  have z2 := cell_of_blk t3 2
  have z3 := cell_of_blk t3 3
  have z4 := cell_of_blk t3 4
  have z5 := cell_of_blk t3 5
  have zf : ∀ j, (((w.alloc (.cells #[.int .i64 xa, .int .i64 xn, .int .i64 xb, .int .i64 xm, .string xh, .slice av N cv] 37)).alloc (.cells #[.int .i64 0, .int .i64 0, .int .i64 0, .int .i64 0, .string ⟨#[]⟩, .slice none 0 0] 37)).alloc (.cells #[.int .i64 0, .int .i64 0, .int .i64 0, .int .i64 0, .string ⟨#[]⟩, .slice none 0 0] 37)).frozen? ⟨w.heap.size + 1, j, none⟩ = false := fun j => frozen_of_blk t3 j
  have n0 := cell_of_blk t4 0
  have n1 := cell_of_blk t4 1
  have n2 := cell_of_blk t4 2
  have n3 := cell_of_blk t4 3
  have n4 := cell_of_blk t4 4
  have n5 := cell_of_blk t4 5
  go_wp2_with fail
  clear z0 z1 z2 z3 z4 z5 n0 n1 n2 n3 n4 n5 zf
  generalize (((w.alloc (.cells #[.int .i64 xa, .int .i64 xn, .int .i64 xb, .int .i64 xm, .string xh, .slice av N cv] 37)).alloc (.cells #[.int .i64 0, .int .i64 0, .int .i64 0, .int .i64 0, .string ⟨#[]⟩, .slice none 0 0] 37)).alloc (.cells #[.int .i64 0, .int .i64 0, .int .i64 0, .int .i64 0, .string ⟨#[]⟩, .slice none 0 0] 37)) = w0 at t1 t2 t3 t4 ⊢
  obtain ⟨R, hR⟩ : ∃ R, R = w.heap.size + 1 := ⟨_, rfl⟩
  obtain ⟨Z, hZ⟩ : ∃ Z, Z = w.heap.size + 1 + 1 := ⟨_, rfl⟩
  obtain ⟨H, hH⟩ : ∃ H, H = w.heap.size := ⟨_, rfl⟩
  have HWR : Hid (w.heap.size ≤ R) := hid (by omega)
  rw [← hZ] at t4
  rw [← hR] at t3
  rw [← hH] at t2
  have HB0 := hid t1
  have HK0 := hid t2
  have HR0 := hid t3
  have HZ0 := hid t4
  rw [← hR]
  have y0 : w0.cell? ⟨R, 0, none⟩ = some (.int .i64 0) := cell_of_blk HR0.out 0
  have y1 : w0.cell? ⟨R, 1, none⟩ = some (.int .i64 0) := cell_of_blk HR0.out 1
  have y2 : w0.cell? ⟨R, 2, none⟩ = some (.int .i64 0) := cell_of_blk HR0.out 2
  have y3 : w0.cell? ⟨R, 3, none⟩ = some (.int .i64 0) := cell_of_blk HR0.out 3
  have y4 : w0.cell? ⟨R, 4, none⟩ = some (.string ⟨#[]⟩) := cell_of_blk HR0.out 4
  have y5 : w0.cell? ⟨R, 5, none⟩ = some (.slice none 0 0) := cell_of_blk HR0.out 5
  exact bodyPost_ret (v := .tuple #[.agg #[.int .i64 0, .int .i64 0, .int .i64 0, .int .i64 0, .string ⟨#[]⟩, .slice none 0 0], .int .i64 1]) (by simp [results, Tryz.results17, go_sem, y0, y1, y2, y3, y4, y5]) rfl ⟨.slice none 0 0, rfl, World.ownsRow_nil _ _ _ _, HB0.out⟩
set_option maxHeartbeats 8000000 in
set_option maxRecDepth 100000 in
theorem rwide_1b {w : World} {h : Hk} {v va : Value} {a : List ByteArray} {ctx : Int} (hv : RdW w v h.rows) (ha : RdT w va a) (_ : SzH h) (_ : a.length < 8796093022200) (_ : ∀ x ∈ a, x.size ≤ maxLen) (hc0 : ¬ ctx < 0) (hc : 2147483647 < ctx) :
    Calls Tryz.prog 17 #[HkV h v, va, .int .i64 ctx] w fun e w' => ∃ v', e = .returned (.tuple #[HkV zH v', .int .i64 1]) ∧ OwnW w' w.heap.size v' [] ∧ Below w.heap.size w w' := by
  have HA0 := hid ha
  have HV0 := hid hv
  obtain ⟨av, cv, rfl⟩ := hv.shape
  obtain ⟨aa, ca, rfl⟩ := ha.shape
  obtain ⟨xa, xn, xb, xm, xh, xr⟩ := h
  dsimp only at *
  obtain ⟨N, hN⟩ : ∃ N, N = xr.length := ⟨_, rfl⟩
  obtain ⟨L, hL⟩ : ∃ L, L = a.length := ⟨_, rfl⟩
  unfold HkV zH
  dsimp only at *
  rw [← hN]
  rw [← hL]
  clear hv ha hN hL 
  have h3 := three w (.cells #[.int .i64 xa, .int .i64 xn, .int .i64 xb, .int .i64 xm, .string xh, .slice av N cv] 37) (.cells #[.int .i64 0, .int .i64 0, .int .i64 0, .int .i64 0, .string ⟨#[]⟩, .slice none 0 0] 37) (.cells #[.int .i64 0, .int .i64 0, .int .i64 0, .int .i64 0, .string ⟨#[]⟩, .slice none 0 0] 37)
  obtain ⟨t1, t2, t3, t4⟩ := h3
  go_enter Tryz.func17, Tryz.ntmps17
  have z0 := cell_of_blk t3 0
  have z1 := cell_of_blk t3 1
  have z2 := cell_of_blk t3 2
  have z3 := cell_of_blk t3 3
  have z4 := cell_of_blk t3 4
  have z5 := cell_of_blk t3 5
  have zf : ∀ j, (((w.alloc (.cells #[.int .i64 xa, .int .i64 xn, .int .i64 xb, .int .i64 xm, .string xh, .slice av N cv] 37)).alloc (.cells #[.int .i64 0, .int .i64 0, .int .i64 0, .int .i64 0, .string ⟨#[]⟩, .slice none 0 0] 37)).alloc (.cells #[.int .i64 0, .int .i64 0, .int .i64 0, .int .i64 0, .string ⟨#[]⟩, .slice none 0 0] 37)).frozen? ⟨w.heap.size + 1, j, none⟩ = false := fun j => frozen_of_blk t3 j
  have n0 := cell_of_blk t4 0
  have n1 := cell_of_blk t4 1
  have n2 := cell_of_blk t4 2
  have n3 := cell_of_blk t4 3
  have n4 := cell_of_blk t4 4
  have n5 := cell_of_blk t4 5
  go_wp2_with fail
  clear z0 z1 z2 z3 z4 z5 n0 n1 n2 n3 n4 n5 zf
  generalize (((w.alloc (.cells #[.int .i64 xa, .int .i64 xn, .int .i64 xb, .int .i64 xm, .string xh, .slice av N cv] 37)).alloc (.cells #[.int .i64 0, .int .i64 0, .int .i64 0, .int .i64 0, .string ⟨#[]⟩, .slice none 0 0] 37)).alloc (.cells #[.int .i64 0, .int .i64 0, .int .i64 0, .int .i64 0, .string ⟨#[]⟩, .slice none 0 0] 37)) = w0 at t1 t2 t3 t4 ⊢
  obtain ⟨R, hR⟩ : ∃ R, R = w.heap.size + 1 := ⟨_, rfl⟩
  obtain ⟨Z, hZ⟩ : ∃ Z, Z = w.heap.size + 1 + 1 := ⟨_, rfl⟩
  obtain ⟨H, hH⟩ : ∃ H, H = w.heap.size := ⟨_, rfl⟩
  have HWR : Hid (w.heap.size ≤ R) := hid (by omega)
  rw [← hZ] at t4
  rw [← hR] at t3
  rw [← hH] at t2
  have HB0 := hid t1
  have HK0 := hid t2
  have HR0 := hid t3
  have HZ0 := hid t4
  rw [← hR]
  have y0 : w0.cell? ⟨R, 0, none⟩ = some (.int .i64 0) := cell_of_blk HR0.out 0
  have y1 : w0.cell? ⟨R, 1, none⟩ = some (.int .i64 0) := cell_of_blk HR0.out 1
  have y2 : w0.cell? ⟨R, 2, none⟩ = some (.int .i64 0) := cell_of_blk HR0.out 2
  have y3 : w0.cell? ⟨R, 3, none⟩ = some (.int .i64 0) := cell_of_blk HR0.out 3
  have y4 : w0.cell? ⟨R, 4, none⟩ = some (.string ⟨#[]⟩) := cell_of_blk HR0.out 4
  have y5 : w0.cell? ⟨R, 5, none⟩ = some (.slice none 0 0) := cell_of_blk HR0.out 5
  exact bodyPost_ret (v := .tuple #[.agg #[.int .i64 0, .int .i64 0, .int .i64 0, .int .i64 0, .string ⟨#[]⟩, .slice none 0 0], .int .i64 1]) (by simp [results, Tryz.results17, go_sem, y0, y1, y2, y3, y4, y5]) rfl ⟨.slice none 0 0, rfl, World.ownsRow_nil _ _ _ _, HB0.out⟩
set_option maxHeartbeats 8000000 in
set_option maxRecDepth 100000 in
theorem rwide_2 {w : World} {h : Hk} {v va : Value} {a : List ByteArray} {ctx : Int} (hv : RdW w v h.rows) (ha : RdT w va a) (hz : SzH h) (_ : a.length < 8796093022200) (_ : ∀ x ∈ a, x.size ≤ maxLen) (hc : 0 ≤ ctx ∧ ctx ≤ 2147483647) (hvl : Hu.vld h = false) :
    Calls Tryz.prog 17 #[HkV h v, va, .int .i64 ctx] w fun e w' => ∃ v', e = .returned (.tuple #[HkV zH v', .int .i64 100]) ∧ OwnW w' w.heap.size v' [] ∧ Below w.heap.size w w' := by
  obtain ⟨C, rfl⟩ := Int.eq_ofNat_of_zero_le hc.1
  have hC : C ≤ 2147483647 := by omega
  have n1 : ¬ (C : Int) < 0 := by omega
  have n2 : ¬ (2147483647 : Int) < (C : Int) := by omega
  have HVA := hid (fun w1 (hb : Below w.heap.size w w1) => rValid_any (h := h) (hv.below hb) hz)
  rw [show vldN h = 100 by unfold vldN; rw [hvl]; rfl] at HVA
  have HA0 := hid ha
  have HV0 := hid hv
  obtain ⟨av, cv, rfl⟩ := hv.shape
  obtain ⟨aa, ca, rfl⟩ := ha.shape
  obtain ⟨xa, xn, xb, xm, xh, xr⟩ := h
  dsimp only at *
  obtain ⟨N, hN⟩ : ∃ N, N = xr.length := ⟨_, rfl⟩
  obtain ⟨L, hL⟩ : ∃ L, L = a.length := ⟨_, rfl⟩
  unfold HkV at HVA
  unfold HkV zH
  dsimp only at *
  rw [← hN] at HVA ⊢
  rw [← hL]
  clear hv ha hN hL hz hvl hc
  have h3 := three w (.cells #[.int .i64 xa, .int .i64 xn, .int .i64 xb, .int .i64 xm, .string xh, .slice av N cv] 37) (.cells #[.int .i64 0, .int .i64 0, .int .i64 0, .int .i64 0, .string ⟨#[]⟩, .slice none 0 0] 37) (.cells #[.int .i64 0, .int .i64 0, .int .i64 0, .int .i64 0, .string ⟨#[]⟩, .slice none 0 0] 37)
  obtain ⟨t1, t2, t3, t4⟩ := h3
  go_enter Tryz.func17, Tryz.ntmps17
  have q0 := cell_of_blk t2 0
  have q1 := cell_of_blk t2 1
  have q2 := cell_of_blk t2 2
  have q3 := cell_of_blk t2 3
  have q4 := cell_of_blk t2 4
  have q5 := cell_of_blk t2 5
  go_wp2_with fail
  clear q0 q1 q2 q3 q4 q5
  generalize (((w.alloc (.cells #[.int .i64 xa, .int .i64 xn, .int .i64 xb, .int .i64 xm, .string xh, .slice av N cv] 37)).alloc (.cells #[.int .i64 0, .int .i64 0, .int .i64 0, .int .i64 0, .string ⟨#[]⟩, .slice none 0 0] 37)).alloc (.cells #[.int .i64 0, .int .i64 0, .int .i64 0, .int .i64 0, .string ⟨#[]⟩, .slice none 0 0] 37)) = w0 at t1 t2 t3 t4 ⊢
  obtain ⟨R, hR⟩ : ∃ R, R = w.heap.size + 1 := ⟨_, rfl⟩
  obtain ⟨Z, hZ⟩ : ∃ Z, Z = w.heap.size + 1 + 1 := ⟨_, rfl⟩
  obtain ⟨H, hH⟩ : ∃ H, H = w.heap.size := ⟨_, rfl⟩
  have HWR : Hid (w.heap.size ≤ R) := hid (by omega)
  rw [← hZ] at t4
  rw [← hR] at t3
  rw [← hH] at t2
  have HB0 := hid t1
  have HK0 := hid t2
  have HR0 := hid t3
  have HZ0 := hid t4
  rw [← hZ, ← hR, ← hH]
  have HH := hid hH
  have HRR := hid hR
  clear t1 t2 t3 t4 hR hZ hH
  refine (HVA.out w0 HB0.out).mono ?_
  rintro e w1 ⟨rfl, hb⟩
  have HB1 := hid (HB0.out.trans (hb.mono HB0.out.size))
  have HK1 := hid ((hb.block H (lt_of_heap HK0.out)).trans HK0.out)
  have HR1 := hid ((hb.block R (lt_of_heap HR0.out)).trans HR0.out)
  have HZ1 := hid ((hb.block Z (lt_of_heap HZ0.out)).trans HZ0.out)
  clear hb
  have z0 : w1.cell? ⟨R, 0, none⟩ = some (.int .i64 0) := cell_of_blk HR1.out 0
  have z1 : w1.cell? ⟨R, 1, none⟩ = some (.int .i64 0) := cell_of_blk HR1.out 1
  have z2 : w1.cell? ⟨R, 2, none⟩ = some (.int .i64 0) := cell_of_blk HR1.out 2
  have z3 : w1.cell? ⟨R, 3, none⟩ = some (.int .i64 0) := cell_of_blk HR1.out 3
  have z4 : w1.cell? ⟨R, 4, none⟩ = some (.string ⟨#[]⟩) := cell_of_blk HR1.out 4
  have z5 : w1.cell? ⟨R, 5, none⟩ = some (.slice none 0 0) := cell_of_blk HR1.out 5
  have zf : ∀ j, w1.frozen? ⟨R, j, none⟩ = false := fun j => frozen_of_blk HR1.out j
  have n0 : w1.cell? ⟨Z, 0, none⟩ = some (.int .i64 0) := cell_of_blk HZ1.out 0
  have n1 : w1.cell? ⟨Z, 1, none⟩ = some (.int .i64 0) := cell_of_blk HZ1.out 1
  have n2 : w1.cell? ⟨Z, 2, none⟩ = some (.int .i64 0) := cell_of_blk HZ1.out 2
  have n3 : w1.cell? ⟨Z, 3, none⟩ = some (.int .i64 0) := cell_of_blk HZ1.out 3
  have n4 : w1.cell? ⟨Z, 4, none⟩ = some (.string ⟨#[]⟩) := cell_of_blk HZ1.out 4
  have n5 : w1.cell? ⟨Z, 5, none⟩ = some (.slice none 0 0) := cell_of_blk HZ1.out 5
  go_wp2_with fail
  have hk6 := (set_heap _ R 5 _ _ (.slice none 0 0) (set_heap _ R 4 _ _ (.string ⟨#[]⟩) (set_heap _ R 3 _ _ (.int .i64 0) (set_heap _ R 2 _ _ (.int .i64 0) (set_heap _ R 1 _ _ (.int .i64 0) (set_heap _ R 0 _ _ (.int .i64 0) HR1.out))))))
  have HBF := hid (below_set (k := 5) (u := .slice none 0 0) (below_set (k := 4) (u := .string ⟨#[]⟩) (below_set (k := 3) (u := .int .i64 0) (below_set (k := 2) (u := .int .i64 0) (below_set (k := 1) (u := .int .i64 0) (below_set (k := 0) (u := .int .i64 0) HB1.out HWR.out) HWR.out) HWR.out) HWR.out) HWR.out) HWR.out)
  generalize ((((((w1.setCell ⟨R, 0, none⟩ (.int .i64 0)).setCell ⟨R, 1, none⟩ (.int .i64 0)).setCell ⟨R, 2, none⟩ (.int .i64 0)).setCell ⟨R, 3, none⟩ (.int .i64 0)).setCell ⟨R, 4, none⟩ (.string ⟨#[]⟩)).setCell ⟨R, 5, none⟩ (.slice none 0 0)) = w11 at hk6 HBF ⊢
  have y0 : w11.cell? ⟨R, 0, none⟩ = some (.int .i64 0) := cell_of_blk hk6 0
  have y1 : w11.cell? ⟨R, 1, none⟩ = some (.int .i64 0) := cell_of_blk hk6 1
  have y2 : w11.cell? ⟨R, 2, none⟩ = some (.int .i64 0) := cell_of_blk hk6 2
  have y3 : w11.cell? ⟨R, 3, none⟩ = some (.int .i64 0) := cell_of_blk hk6 3
  have y4 : w11.cell? ⟨R, 4, none⟩ = some (.string ⟨#[]⟩) := cell_of_blk hk6 4
  have y5 : w11.cell? ⟨R, 5, none⟩ = some (.slice none 0 0) := cell_of_blk hk6 5
  exact bodyPost_ret (v := .tuple #[.agg #[.int .i64 0, .int .i64 0, .int .i64 0, .int .i64 0, .string ⟨#[]⟩, .slice none 0 0], .int .i64 100]) (by simp [results, Tryz.results17, go_sem, y0, y1, y2, y3, y4, y5]) rfl ⟨.slice none 0 0, rfl, World.ownsRow_nil _ _ _ _, HBF.out⟩
set_option maxHeartbeats 8000000 in
set_option maxRecDepth 100000 in
theorem rwide_3 {w : World} {h : Hk} {v va : Value} {a : List ByteArray} {ctx : Int} (hv : RdW w v h.rows) (ha : RdT w va a) (hz : SzH h) (hla : a.length < 8796093022200) (hsa : ∀ x ∈ a, x.size ≤ maxLen) (hc : 0 ≤ ctx ∧ ctx ≤ 2147483647) (hvl : Hu.vld h = true) (hvs : Hu.valS a = false) :
    Calls Tryz.prog 17 #[HkV h v, va, .int .i64 ctx] w fun e w' => ∃ v', e = .returned (.tuple #[HkV zH v', .int .i64 3]) ∧ OwnW w' w.heap.size v' [] ∧ Below w.heap.size w w' := by
  obtain ⟨C, rfl⟩ := Int.eq_ofNat_of_zero_le hc.1
  have hC : C ≤ 2147483647 := by omega
  have n1 : ¬ (C : Int) < 0 := by omega
  have n2 : ¬ (2147483647 : Int) < (C : Int) := by omega
  have HVA := hid (fun w1 (hb : Below w.heap.size w w1) => rValid_any (h := h) (hv.below hb) hz)
  rw [show vldN h = 0 by unfold vldN; rw [hvl]; rfl] at HVA
  have HLV := hid (fun w1 (hb : Below w.heap.size w w1) => rLinesValid_two (ha.below hb) (by omega) hsa)
  rw [hvs] at HLV
  have HA0 := hid ha
  have HV0 := hid hv
  obtain ⟨av, cv, rfl⟩ := hv.shape
  obtain ⟨aa, ca, rfl⟩ := ha.shape
  obtain ⟨xa, xn, xb, xm, xh, xr⟩ := h
  dsimp only at *
  obtain ⟨N, hN⟩ : ∃ N, N = xr.length := ⟨_, rfl⟩
  obtain ⟨L, hL⟩ : ∃ L, L = a.length := ⟨_, rfl⟩
  unfold HkV at HVA
  unfold HkV zH
  dsimp only at *
  rw [← hN] at HVA ⊢
  rw [← hL] at HLV hla ⊢
  clear hv ha hN hL hz hvl hc hvs hsa
  have h3 := three w (.cells #[.int .i64 xa, .int .i64 xn, .int .i64 xb, .int .i64 xm, .string xh, .slice av N cv] 37) (.cells #[.int .i64 0, .int .i64 0, .int .i64 0, .int .i64 0, .string ⟨#[]⟩, .slice none 0 0] 37) (.cells #[.int .i64 0, .int .i64 0, .int .i64 0, .int .i64 0, .string ⟨#[]⟩, .slice none 0 0] 37)
  obtain ⟨t1, t2, t3, t4⟩ := h3
  go_enter Tryz.func17, Tryz.ntmps17
  have q0 := cell_of_blk t2 0
  have q1 := cell_of_blk t2 1
  have q2 := cell_of_blk t2 2
  have q3 := cell_of_blk t2 3
  have q4 := cell_of_blk t2 4
  have q5 := cell_of_blk t2 5
  go_wp2_with fail
  clear q0 q1 q2 q3 q4 q5
  generalize (((w.alloc (.cells #[.int .i64 xa, .int .i64 xn, .int .i64 xb, .int .i64 xm, .string xh, .slice av N cv] 37)).alloc (.cells #[.int .i64 0, .int .i64 0, .int .i64 0, .int .i64 0, .string ⟨#[]⟩, .slice none 0 0] 37)).alloc (.cells #[.int .i64 0, .int .i64 0, .int .i64 0, .int .i64 0, .string ⟨#[]⟩, .slice none 0 0] 37)) = w0 at t1 t2 t3 t4 ⊢
  obtain ⟨R, hR⟩ : ∃ R, R = w.heap.size + 1 := ⟨_, rfl⟩
  obtain ⟨Z, hZ⟩ : ∃ Z, Z = w.heap.size + 1 + 1 := ⟨_, rfl⟩
  obtain ⟨H, hH⟩ : ∃ H, H = w.heap.size := ⟨_, rfl⟩
  have HWR : Hid (w.heap.size ≤ R) := hid (by omega)
  rw [← hZ] at t4
  rw [← hR] at t3
  rw [← hH] at t2
  have HB0 := hid t1
  have HK0 := hid t2
  have HR0 := hid t3
  have HZ0 := hid t4
  rw [← hZ, ← hR, ← hH]
  have HH := hid hH
  have HRR := hid hR
  clear t1 t2 t3 t4 hR hZ hH
  refine (HVA.out w0 HB0.out).mono ?_
  rintro e w1 ⟨rfl, hb⟩
  have HB1 := hid (HB0.out.trans (hb.mono HB0.out.size))
  have HK1 := hid ((hb.block H (lt_of_heap HK0.out)).trans HK0.out)
  have HR1 := hid ((hb.block R (lt_of_heap HR0.out)).trans HR0.out)
  have HZ1 := hid ((hb.block Z (lt_of_heap HZ0.out)).trans HZ0.out)
  clear hb
  go_wp2_with fail
  refine (HLV.out w1 HB1.out).mono ?_
  rintro e w1' ⟨rfl, h1⟩
  rw [h1]
  clear h1
  have z0 : w1.cell? ⟨R, 0, none⟩ = some (.int .i64 0) := cell_of_blk HR1.out 0
  have z1 : w1.cell? ⟨R, 1, none⟩ = some (.int .i64 0) := cell_of_blk HR1.out 1
  have z2 : w1.cell? ⟨R, 2, none⟩ = some (.int .i64 0) := cell_of_blk HR1.out 2
  have z3 : w1.cell? ⟨R, 3, none⟩ = some (.int .i64 0) := cell_of_blk HR1.out 3
  have z4 : w1.cell? ⟨R, 4, none⟩ = some (.string ⟨#[]⟩) := cell_of_blk HR1.out 4
  have z5 : w1.cell? ⟨R, 5, none⟩ = some (.slice none 0 0) := cell_of_blk HR1.out 5
  have zf : ∀ j, w1.frozen? ⟨R, j, none⟩ = false := fun j => frozen_of_blk HR1.out j
  have n0 : w1.cell? ⟨Z, 0, none⟩ = some (.int .i64 0) := cell_of_blk HZ1.out 0
  have n1 : w1.cell? ⟨Z, 1, none⟩ = some (.int .i64 0) := cell_of_blk HZ1.out 1
  have n2 : w1.cell? ⟨Z, 2, none⟩ = some (.int .i64 0) := cell_of_blk HZ1.out 2
  have n3 : w1.cell? ⟨Z, 3, none⟩ = some (.int .i64 0) := cell_of_blk HZ1.out 3
  have n4 : w1.cell? ⟨Z, 4, none⟩ = some (.string ⟨#[]⟩) := cell_of_blk HZ1.out 4
  have n5 : w1.cell? ⟨Z, 5, none⟩ = some (.slice none 0 0) := cell_of_blk HZ1.out 5
  go_wp2_with fail
  have hk6 := (set_heap _ R 5 _ _ (.slice none 0 0) (set_heap _ R 4 _ _ (.string ⟨#[]⟩) (set_heap _ R 3 _ _ (.int .i64 0) (set_heap _ R 2 _ _ (.int .i64 0) (set_heap _ R 1 _ _ (.int .i64 0) (set_heap _ R 0 _ _ (.int .i64 0) HR1.out))))))
  have HBF := hid (below_set (k := 5) (u := .slice none 0 0) (below_set (k := 4) (u := .string ⟨#[]⟩) (below_set (k := 3) (u := .int .i64 0) (below_set (k := 2) (u := .int .i64 0) (below_set (k := 1) (u := .int .i64 0) (below_set (k := 0) (u := .int .i64 0) HB1.out HWR.out) HWR.out) HWR.out) HWR.out) HWR.out) HWR.out)
  generalize ((((((w1.setCell ⟨R, 0, none⟩ (.int .i64 0)).setCell ⟨R, 1, none⟩ (.int .i64 0)).setCell ⟨R, 2, none⟩ (.int .i64 0)).setCell ⟨R, 3, none⟩ (.int .i64 0)).setCell ⟨R, 4, none⟩ (.string ⟨#[]⟩)).setCell ⟨R, 5, none⟩ (.slice none 0 0)) = w11 at hk6 HBF ⊢
  have y0 : w11.cell? ⟨R, 0, none⟩ = some (.int .i64 0) := cell_of_blk hk6 0
  have y1 : w11.cell? ⟨R, 1, none⟩ = some (.int .i64 0) := cell_of_blk hk6 1
  have y2 : w11.cell? ⟨R, 2, none⟩ = some (.int .i64 0) := cell_of_blk hk6 2
  have y3 : w11.cell? ⟨R, 3, none⟩ = some (.int .i64 0) := cell_of_blk hk6 3
  have y4 : w11.cell? ⟨R, 4, none⟩ = some (.string ⟨#[]⟩) := cell_of_blk hk6 4
  have y5 : w11.cell? ⟨R, 5, none⟩ = some (.slice none 0 0) := cell_of_blk hk6 5
  exact bodyPost_ret (v := .tuple #[.agg #[.int .i64 0, .int .i64 0, .int .i64 0, .int .i64 0, .string ⟨#[]⟩, .slice none 0 0], .int .i64 3]) (by simp [results, Tryz.results17, go_sem, y0, y1, y2, y3, y4, y5]) rfl ⟨.slice none 0 0, rfl, World.ownsRow_nil _ _ _ _, HBF.out⟩
set_option maxHeartbeats 8000000 in
set_option maxRecDepth 100000 in
theorem rwide_4a {w : World} {h : Hk} {v va : Value} {a : List ByteArray} {ctx : Int} (hv : RdW w v h.rows) (ha : RdT w va a) (hz : SzH h) (hla : a.length < 8796093022200) (hsa : ∀ x ∈ a, x.size ≤ maxLen) (hc : 0 ≤ ctx ∧ ctx ≤ 2147483647) (hvl : Hu.vld h = true) (hvs : Hu.valS a = true) (hst : stdB a (Hu.olds h.rows) (Hu.plc h.a h.n).toNat = false) :
    Calls Tryz.prog 17 #[HkV h v, va, .int .i64 ctx] w fun e w' => ∃ v', e = .returned (.tuple #[HkV zH v', .int .i64 61]) ∧ OwnW w' w.heap.size v' [] ∧ Below w.heap.size w w' := by
  obtain ⟨C, rfl⟩ := Int.eq_ofNat_of_zero_le hc.1
  have hC : C ≤ 2147483647 := by omega
  have n1 : ¬ (C : Int) < 0 := by omega
  have n2 : ¬ (2147483647 : Int) < (C : Int) := by omega
  have HVA := hid (fun w1 (hb : Below w.heap.size w w1) => rValid_any (h := h) (hv.below hb) hz)
  rw [show vldN h = 0 by unfold vldN; rw [hvl]; rfl] at HVA
  have HLV := hid (fun w1 (hb : Below w.heap.size w w1) => rLinesValid_two (ha.below hb) (by omega) hsa)
  rw [hvs] at HLV
  obtain ⟨p0, p1, p2, p3, p4, p5, p6, p7, p8⟩ := Hu.vld_parts hvl
  have hpl := vld_pl hvl
  have HP1 := hid (fun w1 => rPlace_any h.a h.n w1 (by omega) (by omega))
  have HP2 := hid (fun w1 => rPlace_any h.b h.m w1 (by omega) (by omega))
  have HSD := hid (fun w1 (hb : Below w.heap.size w w1) => rSides_two (h := h) (hv.below hb) hz.1)
  have HPT := hid (fun w1 (hb : Below w.heap.size w w1) => rPartial_any (h := h) (hv.below hb) hz.1 hz.2.1)
  rw [show Hu.part Hu.isF h.rows = Hu.lack (Hu.fres h.rows) by rw [Hu.part_fres, Hu.lack_any p8.1]] at HPT
  generalize Hu.part Hu.isO h.rows = ovo at HPT
  obtain ⟨P, hP⟩ : ∃ P : Nat, Hu.plc h.a h.n = (P : Int) := ⟨(Hu.plc h.a h.n).toNat, by unfold Hu.plc; split <;> omega⟩
  obtain ⟨Q, hQ⟩ : ∃ Q : Nat, Hu.plc h.b h.m = (Q : Int) := ⟨(Hu.plc h.b h.m).toNat, by unfold Hu.plc; split <;> omega⟩
  have hPle : P ≤ 4294967296 := by
    have : Hu.plc h.a h.n ≤ 4294967296 := by unfold Hu.plc; split <;> omega
    omega
  have hQle : Q ≤ 4294967296 := by
    have : Hu.plc h.b h.m ≤ 4294967296 := by unfold Hu.plc; split <;> omega
    omega
  rw [hP] at HP1 hst
  rw [hQ] at HP2
  have hol : (Hu.olds h.rows).length < 8796093022200 := by have := Hu.olds_len h.rows; have := hz.1; omega
  rw [Int.toNat_natCast] at hst
  have HST := hid (fun w1 v1 (hb : Below w.heap.size w w1) (hr : RdT w1 v1 (Hu.olds h.rows)) => rStands_any hr (ha.below hb) hol hla hPle)
  rw [hst] at HST
  generalize Hu.lack (Hu.fres h.rows) = ovf at HPT
  have HA0 := hid ha
  have HV0 := hid hv
  obtain ⟨av, cv, rfl⟩ := hv.shape
  obtain ⟨aa, ca, rfl⟩ := ha.shape
  obtain ⟨xa, xn, xb, xm, xh, xr⟩ := h
  dsimp only at *
  obtain ⟨N, hN⟩ : ∃ N, N = xr.length := ⟨_, rfl⟩
  obtain ⟨L, hL⟩ : ∃ L, L = a.length := ⟨_, rfl⟩
  unfold HkV at HVA HSD HPT
  unfold HkV zH
  dsimp only at *
  rw [← hN] at HVA HSD HPT ⊢
  rw [← hL] at HLV HST hla ⊢
  have hxn : xn = ((Hu.olds xr).length : Int) := p1
  obtain ⟨M, hM⟩ : ∃ M, M = (Hu.olds xr).length := ⟨_, rfl⟩
  rw [← hM] at hxn hol
  subst hxn
  clear hv ha hN hL hz hvl hc hvs hsa p0 p1 p2 p3 p4 p5 p6 p7 p8 hpl hP hQ hst hM hQle
  have h3 := three w (.cells #[.int .i64 xa, .int .i64 (M : Nat), .int .i64 xb, .int .i64 xm, .string xh, .slice av N cv] 37) (.cells #[.int .i64 0, .int .i64 0, .int .i64 0, .int .i64 0, .string ⟨#[]⟩, .slice none 0 0] 37) (.cells #[.int .i64 0, .int .i64 0, .int .i64 0, .int .i64 0, .string ⟨#[]⟩, .slice none 0 0] 37)
  obtain ⟨t1, t2, t3, t4⟩ := h3
  go_enter Tryz.func17, Tryz.ntmps17
  have q0 := cell_of_blk t2 0
  have q1 := cell_of_blk t2 1
  have q2 := cell_of_blk t2 2
  have q3 := cell_of_blk t2 3
  have q4 := cell_of_blk t2 4
  have q5 := cell_of_blk t2 5
  go_wp2_with fail
  clear q0 q1 q2 q3 q4 q5
  generalize (((w.alloc (.cells #[.int .i64 xa, .int .i64 (M : Nat), .int .i64 xb, .int .i64 xm, .string xh, .slice av N cv] 37)).alloc (.cells #[.int .i64 0, .int .i64 0, .int .i64 0, .int .i64 0, .string ⟨#[]⟩, .slice none 0 0] 37)).alloc (.cells #[.int .i64 0, .int .i64 0, .int .i64 0, .int .i64 0, .string ⟨#[]⟩, .slice none 0 0] 37)) = w0 at t1 t2 t3 t4 ⊢
  obtain ⟨R, hR⟩ : ∃ R, R = w.heap.size + 1 := ⟨_, rfl⟩
  obtain ⟨Z, hZ⟩ : ∃ Z, Z = w.heap.size + 1 + 1 := ⟨_, rfl⟩
  obtain ⟨H, hH⟩ : ∃ H, H = w.heap.size := ⟨_, rfl⟩
  have HWR : Hid (w.heap.size ≤ R) := hid (by omega)
  rw [← hZ] at t4
  rw [← hR] at t3
  rw [← hH] at t2
  have HB0 := hid t1
  have HK0 := hid t2
  have HR0 := hid t3
  have HZ0 := hid t4
  rw [← hZ, ← hR, ← hH]
  have HH := hid hH
  have HRR := hid hR
  clear t1 t2 t3 t4 hR hZ hH
  refine (HVA.out w0 HB0.out).mono ?_
  rintro e w1 ⟨rfl, hb⟩
  have HB1 := hid (HB0.out.trans (hb.mono HB0.out.size))
  have HK1 := hid ((hb.block H (lt_of_heap HK0.out)).trans HK0.out)
  have HR1 := hid ((hb.block R (lt_of_heap HR0.out)).trans HR0.out)
  have HZ1 := hid ((hb.block Z (lt_of_heap HZ0.out)).trans HZ0.out)
  clear hb
  go_wp2_with fail
  refine (HLV.out w1 HB1.out).mono ?_
  rintro e w1' ⟨rfl, h1⟩
  rw [h1]
  clear h1
  have q0 : w1.cell? ⟨H, 0, none⟩ = some (.int .i64 xa) := cell_of_blk HK1.out 0
  have q1 : w1.cell? ⟨H, 1, none⟩ = some (.int .i64 (M : Nat)) := cell_of_blk HK1.out 1
  have q2 : w1.cell? ⟨H, 2, none⟩ = some (.int .i64 xb) := cell_of_blk HK1.out 2
  have q3 : w1.cell? ⟨H, 3, none⟩ = some (.int .i64 xm) := cell_of_blk HK1.out 3
  have q4 : w1.cell? ⟨H, 4, none⟩ = some (.string xh) := cell_of_blk HK1.out 4
  have q5 : w1.cell? ⟨H, 5, none⟩ = some (.slice av N cv) := cell_of_blk HK1.out 5
  go_wp2_with fail
  refine (HP1.out w1).mono ?_
  rintro e w1' ⟨rfl, h1⟩
  rw [h1]
  clear h1
  go_wp2_with fail
  refine (HP2.out w1).mono ?_
  rintro e w1' ⟨rfl, h1⟩
  rw [h1]
  clear h1
  go_wp2_with fail
  refine (HSD.out w1 HB1.out).mono ?_
  rintro e w2 ⟨vo, vf, rfl, hO, hb⟩
  have HB2 := hid (HB1.out.trans (hb.mono HB1.out.size))
  have HK2 := hid ((hb.block H (lt_of_heap HK1.out)).trans HK1.out)
  have HR2 := hid ((hb.block R (lt_of_heap HR1.out)).trans HR1.out)
  have HZ2 := hid ((hb.block Z (lt_of_heap HZ1.out)).trans HZ1.out)
  have hro := own_rd hO.1
  obtain ⟨oa, oc, eo⟩ := RdX.shape hro
  obtain ⟨fa, fc, ef⟩ := own_shape hO.2.1
  obtain ⟨Lf, hLf⟩ : ∃ Lf, Lf = (Hu.fres xr).length := ⟨_, rfl⟩
  obtain ⟨Lo, hLo⟩ : ∃ Lo, Lo = (Hu.olds xr).length := ⟨_, rfl⟩
  rw [← hLf] at ef
  rw [← hLo] at eo
  subst eo ef
  have HLO := hid hLo
  have HRO := hid hro
  clear hb hO hro hLf hLo
  clear q0 q1 q2 q3 q4 q5
  have q0 : w2.cell? ⟨H, 0, none⟩ = some (.int .i64 xa) := cell_of_blk HK2.out 0
  have q1 : w2.cell? ⟨H, 1, none⟩ = some (.int .i64 (M : Nat)) := cell_of_blk HK2.out 1
  have q2 : w2.cell? ⟨H, 2, none⟩ = some (.int .i64 xb) := cell_of_blk HK2.out 2
  have q3 : w2.cell? ⟨H, 3, none⟩ = some (.int .i64 xm) := cell_of_blk HK2.out 3
  have q4 : w2.cell? ⟨H, 4, none⟩ = some (.string xh) := cell_of_blk HK2.out 4
  have q5 : w2.cell? ⟨H, 5, none⟩ = some (.slice av N cv) := cell_of_blk HK2.out 5
  go_wp2_with fail
  refine (HPT.out w2 HB2.out).mono ?_
  rintro e w3 ⟨rfl, hb⟩
  have HB3 := hid (HB2.out.trans (hb.mono HB2.out.size))
  have HK3 := hid ((hb.block H (lt_of_heap HK2.out)).trans HK2.out)
  have HR3 := hid ((hb.block R (lt_of_heap HR2.out)).trans HR2.out)
  have HZ3 := hid ((hb.block Z (lt_of_heap HZ2.out)).trans HZ2.out)
  have HRO3 := hid (HRO.out.below hb)
  clear hb HRO
  clear q0 q1 q2 q3 q4 q5
  have q0 : w3.cell? ⟨H, 0, none⟩ = some (.int .i64 xa) := cell_of_blk HK3.out 0
  have q1 : w3.cell? ⟨H, 1, none⟩ = some (.int .i64 (M : Nat)) := cell_of_blk HK3.out 1
  have q2 : w3.cell? ⟨H, 2, none⟩ = some (.int .i64 xb) := cell_of_blk HK3.out 2
  have q3 : w3.cell? ⟨H, 3, none⟩ = some (.int .i64 xm) := cell_of_blk HK3.out 3
  have q4 : w3.cell? ⟨H, 4, none⟩ = some (.string xh) := cell_of_blk HK3.out 4
  have q5 : w3.cell? ⟨H, 5, none⟩ = some (.slice av N cv) := cell_of_blk HK3.out 5
  have z0 : w3.cell? ⟨R, 0, none⟩ = some (.int .i64 0) := cell_of_blk HR3.out 0
  have z1 : w3.cell? ⟨R, 1, none⟩ = some (.int .i64 0) := cell_of_blk HR3.out 1
  have z2 : w3.cell? ⟨R, 2, none⟩ = some (.int .i64 0) := cell_of_blk HR3.out 2
  have z3 : w3.cell? ⟨R, 3, none⟩ = some (.int .i64 0) := cell_of_blk HR3.out 3
  have z4 : w3.cell? ⟨R, 4, none⟩ = some (.string ⟨#[]⟩) := cell_of_blk HR3.out 4
  have z5 : w3.cell? ⟨R, 5, none⟩ = some (.slice none 0 0) := cell_of_blk HR3.out 5
  have zf : ∀ j, w3.frozen? ⟨R, j, none⟩ = false := fun j => frozen_of_blk HR3.out j
  have n0 : w3.cell? ⟨Z, 0, none⟩ = some (.int .i64 0) := cell_of_blk HZ3.out 0
  have n1 : w3.cell? ⟨Z, 1, none⟩ = some (.int .i64 0) := cell_of_blk HZ3.out 1
  have n2 : w3.cell? ⟨Z, 2, none⟩ = some (.int .i64 0) := cell_of_blk HZ3.out 2
  have n3 : w3.cell? ⟨Z, 3, none⟩ = some (.int .i64 0) := cell_of_blk HZ3.out 3
  have n4 : w3.cell? ⟨Z, 4, none⟩ = some (.string ⟨#[]⟩) := cell_of_blk HZ3.out 4
  have n5 : w3.cell? ⟨Z, 5, none⟩ = some (.slice none 0 0) := cell_of_blk HZ3.out 5
  go_wp2_with fail
  refine (HST.out w3 _ HB3.out HRO3.out).mono ?_
  rintro e w4 ⟨rfl, hb⟩
  have HB4 := hid (HB3.out.trans (hb.mono HB3.out.size))
  have HK4 := hid ((hb.block H (lt_of_heap HK3.out)).trans HK3.out)
  have HR4 := hid ((hb.block R (lt_of_heap HR3.out)).trans HR3.out)
  have HZ4 := hid ((hb.block Z (lt_of_heap HZ3.out)).trans HZ3.out)
  clear hb HRO3
  clear q0 q1 q2 q3 q4 q5
  clear z0 z1 z2 z3 z4 z5 zf n0 n1 n2 n3 n4 n5
  have z0 : w4.cell? ⟨R, 0, none⟩ = some (.int .i64 0) := cell_of_blk HR4.out 0
  have z1 : w4.cell? ⟨R, 1, none⟩ = some (.int .i64 0) := cell_of_blk HR4.out 1
  have z2 : w4.cell? ⟨R, 2, none⟩ = some (.int .i64 0) := cell_of_blk HR4.out 2
  have z3 : w4.cell? ⟨R, 3, none⟩ = some (.int .i64 0) := cell_of_blk HR4.out 3
  have z4 : w4.cell? ⟨R, 4, none⟩ = some (.string ⟨#[]⟩) := cell_of_blk HR4.out 4
  have z5 : w4.cell? ⟨R, 5, none⟩ = some (.slice none 0 0) := cell_of_blk HR4.out 5
  have zf : ∀ j, w4.frozen? ⟨R, j, none⟩ = false := fun j => frozen_of_blk HR4.out j
  have n0 : w4.cell? ⟨Z, 0, none⟩ = some (.int .i64 0) := cell_of_blk HZ4.out 0
  have n1 : w4.cell? ⟨Z, 1, none⟩ = some (.int .i64 0) := cell_of_blk HZ4.out 1
  have n2 : w4.cell? ⟨Z, 2, none⟩ = some (.int .i64 0) := cell_of_blk HZ4.out 2
  have n3 : w4.cell? ⟨Z, 3, none⟩ = some (.int .i64 0) := cell_of_blk HZ4.out 3
  have n4 : w4.cell? ⟨Z, 4, none⟩ = some (.string ⟨#[]⟩) := cell_of_blk HZ4.out 4
  have n5 : w4.cell? ⟨Z, 5, none⟩ = some (.slice none 0 0) := cell_of_blk HZ4.out 5
  go_wp2_with fail
  have hk6 := (set_heap _ R 5 _ _ (.slice none 0 0) (set_heap _ R 4 _ _ (.string ⟨#[]⟩) (set_heap _ R 3 _ _ (.int .i64 0) (set_heap _ R 2 _ _ (.int .i64 0) (set_heap _ R 1 _ _ (.int .i64 0) (set_heap _ R 0 _ _ (.int .i64 0) HR4.out))))))
  have HBF := hid (below_set (k := 5) (u := .slice none 0 0) (below_set (k := 4) (u := .string ⟨#[]⟩) (below_set (k := 3) (u := .int .i64 0) (below_set (k := 2) (u := .int .i64 0) (below_set (k := 1) (u := .int .i64 0) (below_set (k := 0) (u := .int .i64 0) HB4.out HWR.out) HWR.out) HWR.out) HWR.out) HWR.out) HWR.out)
  generalize ((((((w4.setCell ⟨R, 0, none⟩ (.int .i64 0)).setCell ⟨R, 1, none⟩ (.int .i64 0)).setCell ⟨R, 2, none⟩ (.int .i64 0)).setCell ⟨R, 3, none⟩ (.int .i64 0)).setCell ⟨R, 4, none⟩ (.string ⟨#[]⟩)).setCell ⟨R, 5, none⟩ (.slice none 0 0)) = w11 at hk6 HBF ⊢
  have y0 : w11.cell? ⟨R, 0, none⟩ = some (.int .i64 0) := cell_of_blk hk6 0
  have y1 : w11.cell? ⟨R, 1, none⟩ = some (.int .i64 0) := cell_of_blk hk6 1
  have y2 : w11.cell? ⟨R, 2, none⟩ = some (.int .i64 0) := cell_of_blk hk6 2
  have y3 : w11.cell? ⟨R, 3, none⟩ = some (.int .i64 0) := cell_of_blk hk6 3
  have y4 : w11.cell? ⟨R, 4, none⟩ = some (.string ⟨#[]⟩) := cell_of_blk hk6 4
  have y5 : w11.cell? ⟨R, 5, none⟩ = some (.slice none 0 0) := cell_of_blk hk6 5
  exact bodyPost_ret (v := .tuple #[.agg #[.int .i64 0, .int .i64 0, .int .i64 0, .int .i64 0, .string ⟨#[]⟩, .slice none 0 0], .int .i64 61]) (by simp [results, Tryz.results17, go_sem, y0, y1, y2, y3, y4, y5]) rfl ⟨.slice none 0 0, rfl, World.ownsRow_nil _ _ _ _, HBF.out⟩
set_option maxHeartbeats 8000000 in
set_option maxRecDepth 100000 in
theorem rwide_4b {w : World} {h : Hk} {v va : Value} {a : List ByteArray} {ctx : Int} (hv : RdW w v h.rows) (ha : RdT w va a) (hz : SzH h) (hla : a.length < 8796093022200) (hsa : ∀ x ∈ a, x.size ≤ maxLen) (hc : 0 ≤ ctx ∧ ctx ≤ 2147483647) (hvl : Hu.vld h = true) (hvs : Hu.valS a = true) (hst : stdB a (Hu.olds h.rows) (Hu.plc h.a h.n).toNat = true) (hov : Hu.lack (Hu.fres h.rows) = true) (hq4 : (Hu.plc h.a h.n).toNat + (Hu.olds h.rows).length < a.length) :
    Calls Tryz.prog 17 #[HkV h v, va, .int .i64 ctx] w fun e w' => ∃ v', e = .returned (.tuple #[HkV zH v', .int .i64 61]) ∧ OwnW w' w.heap.size v' [] ∧ Below w.heap.size w w' := by
  obtain ⟨C, rfl⟩ := Int.eq_ofNat_of_zero_le hc.1
  have hC : C ≤ 2147483647 := by omega
  have n1 : ¬ (C : Int) < 0 := by omega
  have n2 : ¬ (2147483647 : Int) < (C : Int) := by omega
  have HVA := hid (fun w1 (hb : Below w.heap.size w w1) => rValid_any (h := h) (hv.below hb) hz)
  rw [show vldN h = 0 by unfold vldN; rw [hvl]; rfl] at HVA
  have HLV := hid (fun w1 (hb : Below w.heap.size w w1) => rLinesValid_two (ha.below hb) (by omega) hsa)
  rw [hvs] at HLV
  obtain ⟨p0, p1, p2, p3, p4, p5, p6, p7, p8⟩ := Hu.vld_parts hvl
  have hpl := vld_pl hvl
  have HP1 := hid (fun w1 => rPlace_any h.a h.n w1 (by omega) (by omega))
  have HP2 := hid (fun w1 => rPlace_any h.b h.m w1 (by omega) (by omega))
  have HSD := hid (fun w1 (hb : Below w.heap.size w w1) => rSides_two (h := h) (hv.below hb) hz.1)
  have HPT := hid (fun w1 (hb : Below w.heap.size w w1) => rPartial_any (h := h) (hv.below hb) hz.1 hz.2.1)
  rw [show Hu.part Hu.isF h.rows = Hu.lack (Hu.fres h.rows) by rw [Hu.part_fres, Hu.lack_any p8.1], hov] at HPT
  generalize Hu.part Hu.isO h.rows = ovo at HPT
  obtain ⟨P, hP⟩ : ∃ P : Nat, Hu.plc h.a h.n = (P : Int) := ⟨(Hu.plc h.a h.n).toNat, by unfold Hu.plc; split <;> omega⟩
  obtain ⟨Q, hQ⟩ : ∃ Q : Nat, Hu.plc h.b h.m = (Q : Int) := ⟨(Hu.plc h.b h.m).toNat, by unfold Hu.plc; split <;> omega⟩
  have hPle : P ≤ 4294967296 := by
    have : Hu.plc h.a h.n ≤ 4294967296 := by unfold Hu.plc; split <;> omega
    omega
  have hQle : Q ≤ 4294967296 := by
    have : Hu.plc h.b h.m ≤ 4294967296 := by unfold Hu.plc; split <;> omega
    omega
  rw [hP] at HP1 hst
  rw [hQ] at HP2
  have hol : (Hu.olds h.rows).length < 8796093022200 := by have := Hu.olds_len h.rows; have := hz.1; omega
  rw [Int.toNat_natCast] at hst
  have HST := hid (fun w1 v1 (hb : Below w.heap.size w w1) (hr : RdT w1 v1 (Hu.olds h.rows)) => rStands_any hr (ha.below hb) hol hla hPle)
  rw [hst] at HST
  rw [hP, Int.toNat_natCast] at hq4
  have HA0 := hid ha
  have HV0 := hid hv
  obtain ⟨av, cv, rfl⟩ := hv.shape
  obtain ⟨aa, ca, rfl⟩ := ha.shape
  obtain ⟨xa, xn, xb, xm, xh, xr⟩ := h
  dsimp only at *
  obtain ⟨N, hN⟩ : ∃ N, N = xr.length := ⟨_, rfl⟩
  obtain ⟨L, hL⟩ : ∃ L, L = a.length := ⟨_, rfl⟩
  unfold HkV at HVA HSD HPT
  unfold HkV zH
  dsimp only at *
  rw [← hN] at HVA HSD HPT ⊢
  rw [← hL] at HLV HST hla hq4 ⊢
  have hxn : xn = ((Hu.olds xr).length : Int) := p1
  obtain ⟨M, hM⟩ : ∃ M, M = (Hu.olds xr).length := ⟨_, rfl⟩
  rw [← hM] at hxn hol hq4
  subst hxn
  clear hv ha hN hL hz hvl hc hvs hsa p0 p1 p2 p3 p4 p5 p6 p7 p8 hpl hP hQ hst hM hov hQle
  have h3 := three w (.cells #[.int .i64 xa, .int .i64 (M : Nat), .int .i64 xb, .int .i64 xm, .string xh, .slice av N cv] 37) (.cells #[.int .i64 0, .int .i64 0, .int .i64 0, .int .i64 0, .string ⟨#[]⟩, .slice none 0 0] 37) (.cells #[.int .i64 0, .int .i64 0, .int .i64 0, .int .i64 0, .string ⟨#[]⟩, .slice none 0 0] 37)
  obtain ⟨t1, t2, t3, t4⟩ := h3
  go_enter Tryz.func17, Tryz.ntmps17
  have q0 := cell_of_blk t2 0
  have q1 := cell_of_blk t2 1
  have q2 := cell_of_blk t2 2
  have q3 := cell_of_blk t2 3
  have q4 := cell_of_blk t2 4
  have q5 := cell_of_blk t2 5
  go_wp2_with fail
  clear q0 q1 q2 q3 q4 q5
  generalize (((w.alloc (.cells #[.int .i64 xa, .int .i64 (M : Nat), .int .i64 xb, .int .i64 xm, .string xh, .slice av N cv] 37)).alloc (.cells #[.int .i64 0, .int .i64 0, .int .i64 0, .int .i64 0, .string ⟨#[]⟩, .slice none 0 0] 37)).alloc (.cells #[.int .i64 0, .int .i64 0, .int .i64 0, .int .i64 0, .string ⟨#[]⟩, .slice none 0 0] 37)) = w0 at t1 t2 t3 t4 ⊢
  obtain ⟨R, hR⟩ : ∃ R, R = w.heap.size + 1 := ⟨_, rfl⟩
  obtain ⟨Z, hZ⟩ : ∃ Z, Z = w.heap.size + 1 + 1 := ⟨_, rfl⟩
  obtain ⟨H, hH⟩ : ∃ H, H = w.heap.size := ⟨_, rfl⟩
  have HWR : Hid (w.heap.size ≤ R) := hid (by omega)
  rw [← hZ] at t4
  rw [← hR] at t3
  rw [← hH] at t2
  have HB0 := hid t1
  have HK0 := hid t2
  have HR0 := hid t3
  have HZ0 := hid t4
  rw [← hZ, ← hR, ← hH]
  have HH := hid hH
  have HRR := hid hR
  clear t1 t2 t3 t4 hR hZ hH
  refine (HVA.out w0 HB0.out).mono ?_
  rintro e w1 ⟨rfl, hb⟩
  have HB1 := hid (HB0.out.trans (hb.mono HB0.out.size))
  have HK1 := hid ((hb.block H (lt_of_heap HK0.out)).trans HK0.out)
  have HR1 := hid ((hb.block R (lt_of_heap HR0.out)).trans HR0.out)
  have HZ1 := hid ((hb.block Z (lt_of_heap HZ0.out)).trans HZ0.out)
  clear hb
  go_wp2_with fail
  refine (HLV.out w1 HB1.out).mono ?_
  rintro e w1' ⟨rfl, h1⟩
  rw [h1]
  clear h1
  have q0 : w1.cell? ⟨H, 0, none⟩ = some (.int .i64 xa) := cell_of_blk HK1.out 0
  have q1 : w1.cell? ⟨H, 1, none⟩ = some (.int .i64 (M : Nat)) := cell_of_blk HK1.out 1
  have q2 : w1.cell? ⟨H, 2, none⟩ = some (.int .i64 xb) := cell_of_blk HK1.out 2
  have q3 : w1.cell? ⟨H, 3, none⟩ = some (.int .i64 xm) := cell_of_blk HK1.out 3
  have q4 : w1.cell? ⟨H, 4, none⟩ = some (.string xh) := cell_of_blk HK1.out 4
  have q5 : w1.cell? ⟨H, 5, none⟩ = some (.slice av N cv) := cell_of_blk HK1.out 5
  go_wp2_with fail
  refine (HP1.out w1).mono ?_
  rintro e w1' ⟨rfl, h1⟩
  rw [h1]
  clear h1
  go_wp2_with fail
  refine (HP2.out w1).mono ?_
  rintro e w1' ⟨rfl, h1⟩
  rw [h1]
  clear h1
  go_wp2_with fail
  refine (HSD.out w1 HB1.out).mono ?_
  rintro e w2 ⟨vo, vf, rfl, hO, hb⟩
  have HB2 := hid (HB1.out.trans (hb.mono HB1.out.size))
  have HK2 := hid ((hb.block H (lt_of_heap HK1.out)).trans HK1.out)
  have HR2 := hid ((hb.block R (lt_of_heap HR1.out)).trans HR1.out)
  have HZ2 := hid ((hb.block Z (lt_of_heap HZ1.out)).trans HZ1.out)
  have hro := own_rd hO.1
  obtain ⟨oa, oc, eo⟩ := RdX.shape hro
  obtain ⟨fa, fc, ef⟩ := own_shape hO.2.1
  obtain ⟨Lf, hLf⟩ : ∃ Lf, Lf = (Hu.fres xr).length := ⟨_, rfl⟩
  obtain ⟨Lo, hLo⟩ : ∃ Lo, Lo = (Hu.olds xr).length := ⟨_, rfl⟩
  rw [← hLf] at ef
  rw [← hLo] at eo
  subst eo ef
  have HLO := hid hLo
  have HRO := hid hro
  clear hb hO hro hLf hLo
  clear q0 q1 q2 q3 q4 q5
  have q0 : w2.cell? ⟨H, 0, none⟩ = some (.int .i64 xa) := cell_of_blk HK2.out 0
  have q1 : w2.cell? ⟨H, 1, none⟩ = some (.int .i64 (M : Nat)) := cell_of_blk HK2.out 1
  have q2 : w2.cell? ⟨H, 2, none⟩ = some (.int .i64 xb) := cell_of_blk HK2.out 2
  have q3 : w2.cell? ⟨H, 3, none⟩ = some (.int .i64 xm) := cell_of_blk HK2.out 3
  have q4 : w2.cell? ⟨H, 4, none⟩ = some (.string xh) := cell_of_blk HK2.out 4
  have q5 : w2.cell? ⟨H, 5, none⟩ = some (.slice av N cv) := cell_of_blk HK2.out 5
  go_wp2_with fail
  refine (HPT.out w2 HB2.out).mono ?_
  rintro e w3 ⟨rfl, hb⟩
  have HB3 := hid (HB2.out.trans (hb.mono HB2.out.size))
  have HK3 := hid ((hb.block H (lt_of_heap HK2.out)).trans HK2.out)
  have HR3 := hid ((hb.block R (lt_of_heap HR2.out)).trans HR2.out)
  have HZ3 := hid ((hb.block Z (lt_of_heap HZ2.out)).trans HZ2.out)
  have HRO3 := hid (HRO.out.below hb)
  clear hb HRO
  clear q0 q1 q2 q3 q4 q5
  have q0 : w3.cell? ⟨H, 0, none⟩ = some (.int .i64 xa) := cell_of_blk HK3.out 0
  have q1 : w3.cell? ⟨H, 1, none⟩ = some (.int .i64 (M : Nat)) := cell_of_blk HK3.out 1
  have q2 : w3.cell? ⟨H, 2, none⟩ = some (.int .i64 xb) := cell_of_blk HK3.out 2
  have q3 : w3.cell? ⟨H, 3, none⟩ = some (.int .i64 xm) := cell_of_blk HK3.out 3
  have q4 : w3.cell? ⟨H, 4, none⟩ = some (.string xh) := cell_of_blk HK3.out 4
  have q5 : w3.cell? ⟨H, 5, none⟩ = some (.slice av N cv) := cell_of_blk HK3.out 5
  go_wp2_with fail
  refine (HST.out w3 _ HB3.out HRO3.out).mono ?_
  rintro e w4 ⟨rfl, hb⟩
  have HB4 := hid (HB3.out.trans (hb.mono HB3.out.size))
  have HK4 := hid ((hb.block H (lt_of_heap HK3.out)).trans HK3.out)
  have HR4 := hid ((hb.block R (lt_of_heap HR3.out)).trans HR3.out)
  have HZ4 := hid ((hb.block Z (lt_of_heap HZ3.out)).trans HZ3.out)
  clear hb HRO3
  clear q0 q1 q2 q3 q4 q5
  have q0 : w4.cell? ⟨H, 0, none⟩ = some (.int .i64 xa) := cell_of_blk HK4.out 0
  have q1 : w4.cell? ⟨H, 1, none⟩ = some (.int .i64 (M : Nat)) := cell_of_blk HK4.out 1
  have q2 : w4.cell? ⟨H, 2, none⟩ = some (.int .i64 xb) := cell_of_blk HK4.out 2
  have q3 : w4.cell? ⟨H, 3, none⟩ = some (.int .i64 xm) := cell_of_blk HK4.out 3
  have q4 : w4.cell? ⟨H, 4, none⟩ = some (.string xh) := cell_of_blk HK4.out 4
  have q5 : w4.cell? ⟨H, 5, none⟩ = some (.slice av N cv) := cell_of_blk HK4.out 5
  have i1 : IntKind.i64.wrap ((P : Int) + (M : Int)) = (P : Int) + (M : Int) := wrapOk (by omega) (by omega)
  have i2 : (P : Int) + (M : Int) < (L : Int) := by omega
  have z0 : w4.cell? ⟨R, 0, none⟩ = some (.int .i64 0) := cell_of_blk HR4.out 0
  have z1 : w4.cell? ⟨R, 1, none⟩ = some (.int .i64 0) := cell_of_blk HR4.out 1
  have z2 : w4.cell? ⟨R, 2, none⟩ = some (.int .i64 0) := cell_of_blk HR4.out 2
  have z3 : w4.cell? ⟨R, 3, none⟩ = some (.int .i64 0) := cell_of_blk HR4.out 3
  have z4 : w4.cell? ⟨R, 4, none⟩ = some (.string ⟨#[]⟩) := cell_of_blk HR4.out 4
  have z5 : w4.cell? ⟨R, 5, none⟩ = some (.slice none 0 0) := cell_of_blk HR4.out 5
  have zf : ∀ j, w4.frozen? ⟨R, j, none⟩ = false := fun j => frozen_of_blk HR4.out j
  have n0 : w4.cell? ⟨Z, 0, none⟩ = some (.int .i64 0) := cell_of_blk HZ4.out 0
  have n1 : w4.cell? ⟨Z, 1, none⟩ = some (.int .i64 0) := cell_of_blk HZ4.out 1
  have n2 : w4.cell? ⟨Z, 2, none⟩ = some (.int .i64 0) := cell_of_blk HZ4.out 2
  have n3 : w4.cell? ⟨Z, 3, none⟩ = some (.int .i64 0) := cell_of_blk HZ4.out 3
  have n4 : w4.cell? ⟨Z, 4, none⟩ = some (.string ⟨#[]⟩) := cell_of_blk HZ4.out 4
  have n5 : w4.cell? ⟨Z, 5, none⟩ = some (.slice none 0 0) := cell_of_blk HZ4.out 5
  go_wp2_with fail
  have hk6 := (set_heap _ R 5 _ _ (.slice none 0 0) (set_heap _ R 4 _ _ (.string ⟨#[]⟩) (set_heap _ R 3 _ _ (.int .i64 0) (set_heap _ R 2 _ _ (.int .i64 0) (set_heap _ R 1 _ _ (.int .i64 0) (set_heap _ R 0 _ _ (.int .i64 0) HR4.out))))))
  have HBF := hid (below_set (k := 5) (u := .slice none 0 0) (below_set (k := 4) (u := .string ⟨#[]⟩) (below_set (k := 3) (u := .int .i64 0) (below_set (k := 2) (u := .int .i64 0) (below_set (k := 1) (u := .int .i64 0) (below_set (k := 0) (u := .int .i64 0) HB4.out HWR.out) HWR.out) HWR.out) HWR.out) HWR.out) HWR.out)
  generalize ((((((w4.setCell ⟨R, 0, none⟩ (.int .i64 0)).setCell ⟨R, 1, none⟩ (.int .i64 0)).setCell ⟨R, 2, none⟩ (.int .i64 0)).setCell ⟨R, 3, none⟩ (.int .i64 0)).setCell ⟨R, 4, none⟩ (.string ⟨#[]⟩)).setCell ⟨R, 5, none⟩ (.slice none 0 0)) = w11 at hk6 HBF ⊢
  have y0 : w11.cell? ⟨R, 0, none⟩ = some (.int .i64 0) := cell_of_blk hk6 0
  have y1 : w11.cell? ⟨R, 1, none⟩ = some (.int .i64 0) := cell_of_blk hk6 1
  have y2 : w11.cell? ⟨R, 2, none⟩ = some (.int .i64 0) := cell_of_blk hk6 2
  have y3 : w11.cell? ⟨R, 3, none⟩ = some (.int .i64 0) := cell_of_blk hk6 3
  have y4 : w11.cell? ⟨R, 4, none⟩ = some (.string ⟨#[]⟩) := cell_of_blk hk6 4
  have y5 : w11.cell? ⟨R, 5, none⟩ = some (.slice none 0 0) := cell_of_blk hk6 5
  exact bodyPost_ret (v := .tuple #[.agg #[.int .i64 0, .int .i64 0, .int .i64 0, .int .i64 0, .string ⟨#[]⟩, .slice none 0 0], .int .i64 61]) (by simp [results, Tryz.results17, go_sem, y0, y1, y2, y3, y4, y5]) rfl ⟨.slice none 0 0, rfl, World.ownsRow_nil _ _ _ _, HBF.out⟩
set_option maxHeartbeats 8000000 in
set_option maxRecDepth 100000 in
theorem rwide_5f {w : World} {h : Hk} {v va : Value} {a : List ByteArray} {ctx : Int} (hv : RdW w v h.rows) (ha : RdT w va a) (hz : SzH h) (hla : a.length < 8796093022200) (hsa : ∀ x ∈ a, x.size ≤ maxLen) (hc : 0 ≤ ctx ∧ ctx ≤ 2147483647) (hvl : Hu.vld h = true) (hvs : Hu.valS a = true) (hst : stdB a (Hu.olds h.rows) (Hu.plc h.a h.n).toNat = true) (hov : Hu.lack (Hu.fres h.rows) = false) (hq : Hu.plc h.b h.m < (Hu.wBf h.rows ctx (Hu.plc h.a h.n).toNat : Int)) :
    Calls Tryz.prog 17 #[HkV h v, va, .int .i64 ctx] w fun e w' => ∃ v', e = .returned (.tuple #[HkV zH v', .int .i64 100]) ∧ OwnW w' w.heap.size v' [] ∧ Below w.heap.size w w' := by
  obtain ⟨C, rfl⟩ := Int.eq_ofNat_of_zero_le hc.1
  have hC : C ≤ 2147483647 := by omega
  have n1 : ¬ (C : Int) < 0 := by omega
  have n2 : ¬ (2147483647 : Int) < (C : Int) := by omega
  have HVA := hid (fun w1 (hb : Below w.heap.size w w1) => rValid_any (h := h) (hv.below hb) hz)
  rw [show vldN h = 0 by unfold vldN; rw [hvl]; rfl] at HVA
  have HLV := hid (fun w1 (hb : Below w.heap.size w w1) => rLinesValid_two (ha.below hb) (by omega) hsa)
  rw [hvs] at HLV
  obtain ⟨p0, p1, p2, p3, p4, p5, p6, p7, p8⟩ := Hu.vld_parts hvl
  have hpl := vld_pl hvl
  have HP1 := hid (fun w1 => rPlace_any h.a h.n w1 (by omega) (by omega))
  have HP2 := hid (fun w1 => rPlace_any h.b h.m w1 (by omega) (by omega))
  have HSD := hid (fun w1 (hb : Below w.heap.size w w1) => rSides_two (h := h) (hv.below hb) hz.1)
  have HPT := hid (fun w1 (hb : Below w.heap.size w w1) => rPartial_any (h := h) (hv.below hb) hz.1 hz.2.1)
  rw [show Hu.part Hu.isF h.rows = Hu.lack (Hu.fres h.rows) by rw [Hu.part_fres, Hu.lack_any p8.1], hov] at HPT
  generalize Hu.part Hu.isO h.rows = ovo at HPT
  obtain ⟨P, hP⟩ : ∃ P : Nat, Hu.plc h.a h.n = (P : Int) := ⟨(Hu.plc h.a h.n).toNat, by unfold Hu.plc; split <;> omega⟩
  obtain ⟨Q, hQ⟩ : ∃ Q : Nat, Hu.plc h.b h.m = (Q : Int) := ⟨(Hu.plc h.b h.m).toNat, by unfold Hu.plc; split <;> omega⟩
  have hPle : P ≤ 4294967296 := by
    have : Hu.plc h.a h.n ≤ 4294967296 := by unfold Hu.plc; split <;> omega
    omega
  have hQle : Q ≤ 4294967296 := by
    have : Hu.plc h.b h.m ≤ 4294967296 := by unfold Hu.plc; split <;> omega
    omega
  rw [hP] at HP1 hst
  rw [hQ] at HP2
  have hol : (Hu.olds h.rows).length < 8796093022200 := by have := Hu.olds_len h.rows; have := hz.1; omega
  rw [Int.toNat_natCast] at hst
  have HST := hid (fun w1 v1 (hb : Below w.heap.size w w1) (hr : RdT w1 v1 (Hu.olds h.rows)) => rStands_any hr (ha.below hb) hol hla hPle)
  rw [hst] at HST
  have HCT := hid (fun w1 (hb : Below w.heap.size w w1) => rContexts_any (hv.below hb) hz.1 p0)
  have hnl0 : h.rows.length ≤ 4294967296 := by have := (vld_small hvl).1; omega
  have hle1 := Hu.fstC_le h.rows
  have hle2 := Hu.lstC_le h.rows
  obtain ⟨A, hA⟩ : ∃ A, A = Hu.fstC h.rows := ⟨_, rfl⟩
  obtain ⟨D, hD⟩ : ∃ D, D = h.rows.length - Hu.lstC h.rows := ⟨_, rfl⟩
  have hDle : D ≤ h.rows.length := by omega
  rw [← hA, ← hD] at HCT
  have hBF : Hu.wBf h.rows (C : Nat) P = min (C - A) P := by unfold Hu.wBf; rw [Hu.arF_eq p0, hA]; rfl
  have hAF : ∀ R, Hu.wAf h.rows (C : Nat) R = min (C - D) R := fun R => by unfold Hu.wAf; rw [Hu.arF_eq p0, hD]; rfl
  rw [← hA] at hle1
  have hfit : P + (Hu.olds h.rows).length ≤ a.length := by unfold stdB at hst; simp only [Bool.and_eq_true, decide_eq_true_eq] at hst; exact hst.1
  rw [hP, hQ, Int.toNat_natCast, hBF] at hq
  have HA0 := hid ha
  have HV0 := hid hv
  obtain ⟨av, cv, rfl⟩ := hv.shape
  obtain ⟨aa, ca, rfl⟩ := ha.shape
  obtain ⟨xa, xn, xb, xm, xh, xr⟩ := h
  dsimp only at *
  obtain ⟨N, hN⟩ : ∃ N, N = xr.length := ⟨_, rfl⟩
  obtain ⟨L, hL⟩ : ∃ L, L = a.length := ⟨_, rfl⟩
  unfold HkV at HVA HSD HPT
  unfold HkV zH
  dsimp only at *
  rw [← hN] at HVA HSD HPT HCT hDle hnl0 hle1 ⊢
  rw [← hL] at HLV HST hfit hla ⊢
  have hxn : xn = ((Hu.olds xr).length : Int) := p1
  obtain ⟨M, hM⟩ : ∃ M, M = (Hu.olds xr).length := ⟨_, rfl⟩
  rw [← hM] at hxn hol hfit
  subst hxn
  obtain ⟨BF, hBF2⟩ : ∃ BF, BF = min (C - A) P := ⟨_, rfl⟩
  rw [← hBF2] at hBF hq
  obtain ⟨E, hE⟩ : ∃ E, E = P + M := ⟨_, rfl⟩
  obtain ⟨G, hG⟩ : ∃ G, G = L - E := ⟨_, rfl⟩
  obtain ⟨AF, hAF2⟩ : ∃ AF, AF = min (C - D) G := ⟨_, rfl⟩
  obtain ⟨X0, hX0⟩ : ∃ X0, X0 = P - BF := ⟨_, rfl⟩
  obtain ⟨E2, hE2⟩ : ∃ E2, E2 = E + AF := ⟨_, rfl⟩
  obtain ⟨M1, hM1⟩ : ∃ M1, M1 = C - A := ⟨_, rfl⟩
  obtain ⟨M2, hM2⟩ : ∃ M2, M2 = C - D := ⟨_, rfl⟩
  obtain ⟨G1, hG1⟩ : ∃ G1, G1 = L - P := ⟨_, rfl⟩
  rw [← hM1] at hBF2
  rw [← hM2] at hAF2
  have i1 : IntKind.i64.wrap ((C : Int) - (A : Int)) = (C : Int) - (A : Int) := wrapOk (by omega) (by omega)
  have i2 : max ((C : Int) - (A : Int)) 0 = (M1 : Int) := by rw [hM1]; exact nmax _ _
  have i3 : min (M1 : Int) (P : Int) = (BF : Int) := by rw [hBF2]; exact nmin _ _
  have b1 : BF ≤ P := by rw [hBF2]; exact Nat.min_le_right _ _
  have b2 : BF ≤ C := by rw [hBF2, hM1]; exact Nat.le_trans (Nat.min_le_left _ _) (Nat.sub_le _ _)
  have b3 : AF ≤ G := by rw [hAF2]; exact Nat.min_le_right _ _
  have b4 : AF ≤ C := by rw [hAF2, hM2]; exact Nat.le_trans (Nat.min_le_left _ _) (Nat.sub_le _ _)
  have b5 : G1 + P = L := by rw [hG1]; exact Nat.sub_add_cancel (by omega)
  have b6 : X0 + BF = P := by rw [hX0]; exact Nat.sub_add_cancel b1
  have b7 : G + E = L := by rw [hG]; exact Nat.sub_add_cancel (by rw [hE]; omega)
  have i4 : IntKind.i64.wrap ((P : Int) - (BF : Int)) = (X0 : Int) := (wrapOk (by omega) (by omega)).trans (by omega)
  have i5 : IntKind.i64.wrap ((P : Int) + (M : Int)) = (E : Int) := (wrapOk (by omega) (by omega)).trans (by omega)
  have i6 : IntKind.i64.wrap ((C : Int) - (D : Int)) = (C : Int) - (D : Int) := wrapOk (by omega) (by omega)
  have i7 : max ((C : Int) - (D : Int)) 0 = (M2 : Int) := by rw [hM2]; exact nmax _ _
  have i8 : IntKind.i64.wrap ((L : Int) - (P : Int)) = (G1 : Int) := (wrapOk (by omega) (by omega)).trans (by omega)
  have i9 : IntKind.i64.wrap ((G1 : Int) - (M : Int)) = (G : Int) := (wrapOk (by omega) (by omega)).trans (by omega)
  have i10 : min (M2 : Int) (G : Int) = (AF : Int) := by rw [hAF2]; exact nmin _ _
  have i11 : IntKind.i64.wrap ((E : Int) + (AF : Int)) = (E2 : Int) := (wrapOk (by omega) (by omega)).trans (by omega)
  have i12 : IntKind.i64.wrap ((P : Int) - (X0 : Int)) = (BF : Int) := (wrapOk (by omega) (by omega)).trans (by omega)
  have hq2 : (Q : Int) < (BF : Int) := by omega
  clear hv ha hN hL hz hvl hc hvs hsa p0 p1 p2 p3 p4 p5 p6 p7 p8 hpl hP hQ hst hM hov hnl0 hle1 hle2 hA hD hDle hBF hAF hfit hq hBF2 hE hG hAF2 hX0 hE2 hM1 hM2 hG1 b1 b2 b3 b4 b5 b6 b7
  have h3 := three w (.cells #[.int .i64 xa, .int .i64 (M : Nat), .int .i64 xb, .int .i64 xm, .string xh, .slice av N cv] 37) (.cells #[.int .i64 0, .int .i64 0, .int .i64 0, .int .i64 0, .string ⟨#[]⟩, .slice none 0 0] 37) (.cells #[.int .i64 0, .int .i64 0, .int .i64 0, .int .i64 0, .string ⟨#[]⟩, .slice none 0 0] 37)
  obtain ⟨t1, t2, t3, t4⟩ := h3
  go_enter Tryz.func17, Tryz.ntmps17
  have q0 := cell_of_blk t2 0
  have q1 := cell_of_blk t2 1
  have q2 := cell_of_blk t2 2
  have q3 := cell_of_blk t2 3
  have q4 := cell_of_blk t2 4
  have q5 := cell_of_blk t2 5
  go_wp2_with fail
  clear q0 q1 q2 q3 q4 q5
  generalize (((w.alloc (.cells #[.int .i64 xa, .int .i64 (M : Nat), .int .i64 xb, .int .i64 xm, .string xh, .slice av N cv] 37)).alloc (.cells #[.int .i64 0, .int .i64 0, .int .i64 0, .int .i64 0, .string ⟨#[]⟩, .slice none 0 0] 37)).alloc (.cells #[.int .i64 0, .int .i64 0, .int .i64 0, .int .i64 0, .string ⟨#[]⟩, .slice none 0 0] 37)) = w0 at t1 t2 t3 t4 ⊢
  obtain ⟨R, hR⟩ : ∃ R, R = w.heap.size + 1 := ⟨_, rfl⟩
  obtain ⟨Z, hZ⟩ : ∃ Z, Z = w.heap.size + 1 + 1 := ⟨_, rfl⟩
  obtain ⟨H, hH⟩ : ∃ H, H = w.heap.size := ⟨_, rfl⟩
  have HWR : Hid (w.heap.size ≤ R) := hid (by omega)
  rw [← hZ] at t4
  rw [← hR] at t3
  rw [← hH] at t2
  have HB0 := hid t1
  have HK0 := hid t2
  have HR0 := hid t3
  have HZ0 := hid t4
  rw [← hZ, ← hR, ← hH]
  have HH := hid hH
  have HRR := hid hR
  clear t1 t2 t3 t4 hR hZ hH
  refine (HVA.out w0 HB0.out).mono ?_
  rintro e w1 ⟨rfl, hb⟩
  have HB1 := hid (HB0.out.trans (hb.mono HB0.out.size))
  have HK1 := hid ((hb.block H (lt_of_heap HK0.out)).trans HK0.out)
  have HR1 := hid ((hb.block R (lt_of_heap HR0.out)).trans HR0.out)
  have HZ1 := hid ((hb.block Z (lt_of_heap HZ0.out)).trans HZ0.out)
  clear hb
  go_wp2_with fail
  refine (HLV.out w1 HB1.out).mono ?_
  rintro e w1' ⟨rfl, h1⟩
  rw [h1]
  clear h1
  have q0 : w1.cell? ⟨H, 0, none⟩ = some (.int .i64 xa) := cell_of_blk HK1.out 0
  have q1 : w1.cell? ⟨H, 1, none⟩ = some (.int .i64 (M : Nat)) := cell_of_blk HK1.out 1
  have q2 : w1.cell? ⟨H, 2, none⟩ = some (.int .i64 xb) := cell_of_blk HK1.out 2
  have q3 : w1.cell? ⟨H, 3, none⟩ = some (.int .i64 xm) := cell_of_blk HK1.out 3
  have q4 : w1.cell? ⟨H, 4, none⟩ = some (.string xh) := cell_of_blk HK1.out 4
  have q5 : w1.cell? ⟨H, 5, none⟩ = some (.slice av N cv) := cell_of_blk HK1.out 5
  go_wp2_with fail
  refine (HP1.out w1).mono ?_
  rintro e w1' ⟨rfl, h1⟩
  rw [h1]
  clear h1
  go_wp2_with fail
  refine (HP2.out w1).mono ?_
  rintro e w1' ⟨rfl, h1⟩
  rw [h1]
  clear h1
  go_wp2_with fail
  refine (HSD.out w1 HB1.out).mono ?_
  rintro e w2 ⟨vo, vf, rfl, hO, hb⟩
  have HB2 := hid (HB1.out.trans (hb.mono HB1.out.size))
  have HK2 := hid ((hb.block H (lt_of_heap HK1.out)).trans HK1.out)
  have HR2 := hid ((hb.block R (lt_of_heap HR1.out)).trans HR1.out)
  have HZ2 := hid ((hb.block Z (lt_of_heap HZ1.out)).trans HZ1.out)
  have hro := own_rd hO.1
  obtain ⟨oa, oc, eo⟩ := RdX.shape hro
  obtain ⟨fa, fc, ef⟩ := own_shape hO.2.1
  obtain ⟨Lf, hLf⟩ : ∃ Lf, Lf = (Hu.fres xr).length := ⟨_, rfl⟩
  obtain ⟨Lo, hLo⟩ : ∃ Lo, Lo = (Hu.olds xr).length := ⟨_, rfl⟩
  rw [← hLf] at ef
  rw [← hLo] at eo
  subst eo ef
  have HLO := hid hLo
  have HRO := hid hro
  clear hb hO hro hLf hLo
  clear q0 q1 q2 q3 q4 q5
  have q0 : w2.cell? ⟨H, 0, none⟩ = some (.int .i64 xa) := cell_of_blk HK2.out 0
  have q1 : w2.cell? ⟨H, 1, none⟩ = some (.int .i64 (M : Nat)) := cell_of_blk HK2.out 1
  have q2 : w2.cell? ⟨H, 2, none⟩ = some (.int .i64 xb) := cell_of_blk HK2.out 2
  have q3 : w2.cell? ⟨H, 3, none⟩ = some (.int .i64 xm) := cell_of_blk HK2.out 3
  have q4 : w2.cell? ⟨H, 4, none⟩ = some (.string xh) := cell_of_blk HK2.out 4
  have q5 : w2.cell? ⟨H, 5, none⟩ = some (.slice av N cv) := cell_of_blk HK2.out 5
  go_wp2_with fail
  refine (HPT.out w2 HB2.out).mono ?_
  rintro e w3 ⟨rfl, hb⟩
  have HB3 := hid (HB2.out.trans (hb.mono HB2.out.size))
  have HK3 := hid ((hb.block H (lt_of_heap HK2.out)).trans HK2.out)
  have HR3 := hid ((hb.block R (lt_of_heap HR2.out)).trans HR2.out)
  have HZ3 := hid ((hb.block Z (lt_of_heap HZ2.out)).trans HZ2.out)
  have HRO3 := hid (HRO.out.below hb)
  clear hb HRO
  clear q0 q1 q2 q3 q4 q5
  have q0 : w3.cell? ⟨H, 0, none⟩ = some (.int .i64 xa) := cell_of_blk HK3.out 0
  have q1 : w3.cell? ⟨H, 1, none⟩ = some (.int .i64 (M : Nat)) := cell_of_blk HK3.out 1
  have q2 : w3.cell? ⟨H, 2, none⟩ = some (.int .i64 xb) := cell_of_blk HK3.out 2
  have q3 : w3.cell? ⟨H, 3, none⟩ = some (.int .i64 xm) := cell_of_blk HK3.out 3
  have q4 : w3.cell? ⟨H, 4, none⟩ = some (.string xh) := cell_of_blk HK3.out 4
  have q5 : w3.cell? ⟨H, 5, none⟩ = some (.slice av N cv) := cell_of_blk HK3.out 5
  go_wp2_with fail
  refine (HST.out w3 _ HB3.out HRO3.out).mono ?_
  rintro e w4 ⟨rfl, hb⟩
  have HB4 := hid (HB3.out.trans (hb.mono HB3.out.size))
  have HK4 := hid ((hb.block H (lt_of_heap HK3.out)).trans HK3.out)
  have HR4 := hid ((hb.block R (lt_of_heap HR3.out)).trans HR3.out)
  have HZ4 := hid ((hb.block Z (lt_of_heap HZ3.out)).trans HZ3.out)
  clear hb HRO3
  clear q0 q1 q2 q3 q4 q5
  have q0 : w4.cell? ⟨H, 0, none⟩ = some (.int .i64 xa) := cell_of_blk HK4.out 0
  have q1 : w4.cell? ⟨H, 1, none⟩ = some (.int .i64 (M : Nat)) := cell_of_blk HK4.out 1
  have q2 : w4.cell? ⟨H, 2, none⟩ = some (.int .i64 xb) := cell_of_blk HK4.out 2
  have q3 : w4.cell? ⟨H, 3, none⟩ = some (.int .i64 xm) := cell_of_blk HK4.out 3
  have q4 : w4.cell? ⟨H, 4, none⟩ = some (.string xh) := cell_of_blk HK4.out 4
  have q5 : w4.cell? ⟨H, 5, none⟩ = some (.slice av N cv) := cell_of_blk HK4.out 5
  go_wp2_with fail
  refine (HCT.out w4 HB4.out).mono ?_
  rintro e w4' ⟨rfl, h1⟩
  rw [h1]
  clear h1
  have z0 : w4.cell? ⟨R, 0, none⟩ = some (.int .i64 0) := cell_of_blk HR4.out 0
  have z1 : w4.cell? ⟨R, 1, none⟩ = some (.int .i64 0) := cell_of_blk HR4.out 1
  have z2 : w4.cell? ⟨R, 2, none⟩ = some (.int .i64 0) := cell_of_blk HR4.out 2
  have z3 : w4.cell? ⟨R, 3, none⟩ = some (.int .i64 0) := cell_of_blk HR4.out 3
  have z4 : w4.cell? ⟨R, 4, none⟩ = some (.string ⟨#[]⟩) := cell_of_blk HR4.out 4
  have z5 : w4.cell? ⟨R, 5, none⟩ = some (.slice none 0 0) := cell_of_blk HR4.out 5
  have zf : ∀ j, w4.frozen? ⟨R, j, none⟩ = false := fun j => frozen_of_blk HR4.out j
  have n0 : w4.cell? ⟨Z, 0, none⟩ = some (.int .i64 0) := cell_of_blk HZ4.out 0
  have n1 : w4.cell? ⟨Z, 1, none⟩ = some (.int .i64 0) := cell_of_blk HZ4.out 1
  have n2 : w4.cell? ⟨Z, 2, none⟩ = some (.int .i64 0) := cell_of_blk HZ4.out 2
  have n3 : w4.cell? ⟨Z, 3, none⟩ = some (.int .i64 0) := cell_of_blk HZ4.out 3
  have n4 : w4.cell? ⟨Z, 4, none⟩ = some (.string ⟨#[]⟩) := cell_of_blk HZ4.out 4
  have n5 : w4.cell? ⟨Z, 5, none⟩ = some (.slice none 0 0) := cell_of_blk HZ4.out 5
  go_wp2_with fail
  have hk6 := (set_heap _ R 5 _ _ (.slice none 0 0) (set_heap _ R 4 _ _ (.string ⟨#[]⟩) (set_heap _ R 3 _ _ (.int .i64 0) (set_heap _ R 2 _ _ (.int .i64 0) (set_heap _ R 1 _ _ (.int .i64 0) (set_heap _ R 0 _ _ (.int .i64 0) HR4.out))))))
  have HBF := hid (below_set (k := 5) (u := .slice none 0 0) (below_set (k := 4) (u := .string ⟨#[]⟩) (below_set (k := 3) (u := .int .i64 0) (below_set (k := 2) (u := .int .i64 0) (below_set (k := 1) (u := .int .i64 0) (below_set (k := 0) (u := .int .i64 0) HB4.out HWR.out) HWR.out) HWR.out) HWR.out) HWR.out) HWR.out)
  generalize ((((((w4.setCell ⟨R, 0, none⟩ (.int .i64 0)).setCell ⟨R, 1, none⟩ (.int .i64 0)).setCell ⟨R, 2, none⟩ (.int .i64 0)).setCell ⟨R, 3, none⟩ (.int .i64 0)).setCell ⟨R, 4, none⟩ (.string ⟨#[]⟩)).setCell ⟨R, 5, none⟩ (.slice none 0 0)) = w11 at hk6 HBF ⊢
  have y0 : w11.cell? ⟨R, 0, none⟩ = some (.int .i64 0) := cell_of_blk hk6 0
  have y1 : w11.cell? ⟨R, 1, none⟩ = some (.int .i64 0) := cell_of_blk hk6 1
  have y2 : w11.cell? ⟨R, 2, none⟩ = some (.int .i64 0) := cell_of_blk hk6 2
  have y3 : w11.cell? ⟨R, 3, none⟩ = some (.int .i64 0) := cell_of_blk hk6 3
  have y4 : w11.cell? ⟨R, 4, none⟩ = some (.string ⟨#[]⟩) := cell_of_blk hk6 4
  have y5 : w11.cell? ⟨R, 5, none⟩ = some (.slice none 0 0) := cell_of_blk hk6 5
  exact bodyPost_ret (v := .tuple #[.agg #[.int .i64 0, .int .i64 0, .int .i64 0, .int .i64 0, .string ⟨#[]⟩, .slice none 0 0], .int .i64 100]) (by simp [results, Tryz.results17, go_sem, y0, y1, y2, y3, y4, y5]) rfl ⟨.slice none 0 0, rfl, World.ownsRow_nil _ _ _ _, HBF.out⟩
set_option maxHeartbeats 8000000 in
set_option maxRecDepth 100000 in
theorem rwide_5t {w : World} {h : Hk} {v va : Value} {a : List ByteArray} {ctx : Int} (hv : RdW w v h.rows) (ha : RdT w va a) (hz : SzH h) (hla : a.length < 8796093022200) (hsa : ∀ x ∈ a, x.size ≤ maxLen) (hc : 0 ≤ ctx ∧ ctx ≤ 2147483647) (hvl : Hu.vld h = true) (hvs : Hu.valS a = true) (hst : stdB a (Hu.olds h.rows) (Hu.plc h.a h.n).toNat = true) (hov : Hu.lack (Hu.fres h.rows) = true) (hq4 : ¬ (Hu.plc h.a h.n).toNat + (Hu.olds h.rows).length < a.length) (hq : Hu.plc h.b h.m < (Hu.wBf h.rows ctx (Hu.plc h.a h.n).toNat : Int)) :
    Calls Tryz.prog 17 #[HkV h v, va, .int .i64 ctx] w fun e w' => ∃ v', e = .returned (.tuple #[HkV zH v', .int .i64 100]) ∧ OwnW w' w.heap.size v' [] ∧ Below w.heap.size w w' := by
  obtain ⟨C, rfl⟩ := Int.eq_ofNat_of_zero_le hc.1
  have hC : C ≤ 2147483647 := by omega
  have n1 : ¬ (C : Int) < 0 := by omega
  have n2 : ¬ (2147483647 : Int) < (C : Int) := by omega
  have HVA := hid (fun w1 (hb : Below w.heap.size w w1) => rValid_any (h := h) (hv.below hb) hz)
  rw [show vldN h = 0 by unfold vldN; rw [hvl]; rfl] at HVA
  have HLV := hid (fun w1 (hb : Below w.heap.size w w1) => rLinesValid_two (ha.below hb) (by omega) hsa)
  rw [hvs] at HLV
  obtain ⟨p0, p1, p2, p3, p4, p5, p6, p7, p8⟩ := Hu.vld_parts hvl
  have hpl := vld_pl hvl
  have HP1 := hid (fun w1 => rPlace_any h.a h.n w1 (by omega) (by omega))
  have HP2 := hid (fun w1 => rPlace_any h.b h.m w1 (by omega) (by omega))
  have HSD := hid (fun w1 (hb : Below w.heap.size w w1) => rSides_two (h := h) (hv.below hb) hz.1)
  have HPT := hid (fun w1 (hb : Below w.heap.size w w1) => rPartial_any (h := h) (hv.below hb) hz.1 hz.2.1)
  rw [show Hu.part Hu.isF h.rows = Hu.lack (Hu.fres h.rows) by rw [Hu.part_fres, Hu.lack_any p8.1], hov] at HPT
  generalize Hu.part Hu.isO h.rows = ovo at HPT
  obtain ⟨P, hP⟩ : ∃ P : Nat, Hu.plc h.a h.n = (P : Int) := ⟨(Hu.plc h.a h.n).toNat, by unfold Hu.plc; split <;> omega⟩
  obtain ⟨Q, hQ⟩ : ∃ Q : Nat, Hu.plc h.b h.m = (Q : Int) := ⟨(Hu.plc h.b h.m).toNat, by unfold Hu.plc; split <;> omega⟩
  have hPle : P ≤ 4294967296 := by
    have : Hu.plc h.a h.n ≤ 4294967296 := by unfold Hu.plc; split <;> omega
    omega
  have hQle : Q ≤ 4294967296 := by
    have : Hu.plc h.b h.m ≤ 4294967296 := by unfold Hu.plc; split <;> omega
    omega
  rw [hP] at HP1 hst
  rw [hQ] at HP2
  have hol : (Hu.olds h.rows).length < 8796093022200 := by have := Hu.olds_len h.rows; have := hz.1; omega
  rw [Int.toNat_natCast] at hst
  have HST := hid (fun w1 v1 (hb : Below w.heap.size w w1) (hr : RdT w1 v1 (Hu.olds h.rows)) => rStands_any hr (ha.below hb) hol hla hPle)
  rw [hst] at HST
  have HCT := hid (fun w1 (hb : Below w.heap.size w w1) => rContexts_any (hv.below hb) hz.1 p0)
  have hnl0 : h.rows.length ≤ 4294967296 := by have := (vld_small hvl).1; omega
  have hle1 := Hu.fstC_le h.rows
  have hle2 := Hu.lstC_le h.rows
  obtain ⟨A, hA⟩ : ∃ A, A = Hu.fstC h.rows := ⟨_, rfl⟩
  obtain ⟨D, hD⟩ : ∃ D, D = h.rows.length - Hu.lstC h.rows := ⟨_, rfl⟩
  have hDle : D ≤ h.rows.length := by omega
  rw [← hA, ← hD] at HCT
  have hBF : Hu.wBf h.rows (C : Nat) P = min (C - A) P := by unfold Hu.wBf; rw [Hu.arF_eq p0, hA]; rfl
  have hAF : ∀ R, Hu.wAf h.rows (C : Nat) R = min (C - D) R := fun R => by unfold Hu.wAf; rw [Hu.arF_eq p0, hD]; rfl
  rw [← hA] at hle1
  have hfit : P + (Hu.olds h.rows).length ≤ a.length := by unfold stdB at hst; simp only [Bool.and_eq_true, decide_eq_true_eq] at hst; exact hst.1
  rw [hP, hQ, Int.toNat_natCast, hBF] at hq
  have HA0 := hid ha
  have HV0 := hid hv
  obtain ⟨av, cv, rfl⟩ := hv.shape
  obtain ⟨aa, ca, rfl⟩ := ha.shape
  obtain ⟨xa, xn, xb, xm, xh, xr⟩ := h
  dsimp only at *
  obtain ⟨N, hN⟩ : ∃ N, N = xr.length := ⟨_, rfl⟩
  obtain ⟨L, hL⟩ : ∃ L, L = a.length := ⟨_, rfl⟩
  unfold HkV at HVA HSD HPT
  unfold HkV zH
  dsimp only at *
  rw [← hN] at HVA HSD HPT HCT hDle hnl0 hle1 ⊢
  rw [← hL] at HLV HST hfit hla ⊢
  have hxn : xn = ((Hu.olds xr).length : Int) := p1
  obtain ⟨M, hM⟩ : ∃ M, M = (Hu.olds xr).length := ⟨_, rfl⟩
  rw [← hM] at hxn hol hfit
  subst hxn
  obtain ⟨BF, hBF2⟩ : ∃ BF, BF = min (C - A) P := ⟨_, rfl⟩
  rw [← hBF2] at hBF hq
  obtain ⟨E, hE⟩ : ∃ E, E = P + M := ⟨_, rfl⟩
  obtain ⟨G, hG⟩ : ∃ G, G = L - E := ⟨_, rfl⟩
  obtain ⟨AF, hAF2⟩ : ∃ AF, AF = min (C - D) G := ⟨_, rfl⟩
  obtain ⟨X0, hX0⟩ : ∃ X0, X0 = P - BF := ⟨_, rfl⟩
  obtain ⟨E2, hE2⟩ : ∃ E2, E2 = E + AF := ⟨_, rfl⟩
  obtain ⟨M1, hM1⟩ : ∃ M1, M1 = C - A := ⟨_, rfl⟩
  obtain ⟨M2, hM2⟩ : ∃ M2, M2 = C - D := ⟨_, rfl⟩
  obtain ⟨G1, hG1⟩ : ∃ G1, G1 = L - P := ⟨_, rfl⟩
  rw [← hM1] at hBF2
  rw [← hM2] at hAF2
  have i1 : IntKind.i64.wrap ((C : Int) - (A : Int)) = (C : Int) - (A : Int) := wrapOk (by omega) (by omega)
  have i2 : max ((C : Int) - (A : Int)) 0 = (M1 : Int) := by rw [hM1]; exact nmax _ _
  have i3 : min (M1 : Int) (P : Int) = (BF : Int) := by rw [hBF2]; exact nmin _ _
  have b1 : BF ≤ P := by rw [hBF2]; exact Nat.min_le_right _ _
  have b2 : BF ≤ C := by rw [hBF2, hM1]; exact Nat.le_trans (Nat.min_le_left _ _) (Nat.sub_le _ _)
  have b3 : AF ≤ G := by rw [hAF2]; exact Nat.min_le_right _ _
  have b4 : AF ≤ C := by rw [hAF2, hM2]; exact Nat.le_trans (Nat.min_le_left _ _) (Nat.sub_le _ _)
  have b5 : G1 + P = L := by rw [hG1]; exact Nat.sub_add_cancel (by omega)
  have b6 : X0 + BF = P := by rw [hX0]; exact Nat.sub_add_cancel b1
  have b7 : G + E = L := by rw [hG]; exact Nat.sub_add_cancel (by rw [hE]; omega)
  have i4 : IntKind.i64.wrap ((P : Int) - (BF : Int)) = (X0 : Int) := (wrapOk (by omega) (by omega)).trans (by omega)
  have i5 : IntKind.i64.wrap ((P : Int) + (M : Int)) = (E : Int) := (wrapOk (by omega) (by omega)).trans (by omega)
  have i6 : IntKind.i64.wrap ((C : Int) - (D : Int)) = (C : Int) - (D : Int) := wrapOk (by omega) (by omega)
  have i7 : max ((C : Int) - (D : Int)) 0 = (M2 : Int) := by rw [hM2]; exact nmax _ _
  have i8 : IntKind.i64.wrap ((L : Int) - (P : Int)) = (G1 : Int) := (wrapOk (by omega) (by omega)).trans (by omega)
  have i9 : IntKind.i64.wrap ((G1 : Int) - (M : Int)) = (G : Int) := (wrapOk (by omega) (by omega)).trans (by omega)
  have i10 : min (M2 : Int) (G : Int) = (AF : Int) := by rw [hAF2]; exact nmin _ _
  have i11 : IntKind.i64.wrap ((E : Int) + (AF : Int)) = (E2 : Int) := (wrapOk (by omega) (by omega)).trans (by omega)
  have i12 : IntKind.i64.wrap ((P : Int) - (X0 : Int)) = (BF : Int) := (wrapOk (by omega) (by omega)).trans (by omega)
  have hq2 : (Q : Int) < (BF : Int) := by omega
  have hEL : ¬ (E : Int) < (L : Int) := by omega
  clear hv ha hN hL hz hvl hc hvs hsa p0 p1 p2 p3 p4 p5 p6 p7 p8 hpl hP hQ hst hM hov hnl0 hle1 hle2 hA hD hDle hBF hAF hfit hq hBF2 hE hG hAF2 hX0 hE2 hM1 hM2 hG1 b1 b2 b3 b4 b5 b6 b7
  have h3 := three w (.cells #[.int .i64 xa, .int .i64 (M : Nat), .int .i64 xb, .int .i64 xm, .string xh, .slice av N cv] 37) (.cells #[.int .i64 0, .int .i64 0, .int .i64 0, .int .i64 0, .string ⟨#[]⟩, .slice none 0 0] 37) (.cells #[.int .i64 0, .int .i64 0, .int .i64 0, .int .i64 0, .string ⟨#[]⟩, .slice none 0 0] 37)
  obtain ⟨t1, t2, t3, t4⟩ := h3
  go_enter Tryz.func17, Tryz.ntmps17
  have q0 := cell_of_blk t2 0
  have q1 := cell_of_blk t2 1
  have q2 := cell_of_blk t2 2
  have q3 := cell_of_blk t2 3
  have q4 := cell_of_blk t2 4
  have q5 := cell_of_blk t2 5
  go_wp2_with fail
  clear q0 q1 q2 q3 q4 q5
  generalize (((w.alloc (.cells #[.int .i64 xa, .int .i64 (M : Nat), .int .i64 xb, .int .i64 xm, .string xh, .slice av N cv] 37)).alloc (.cells #[.int .i64 0, .int .i64 0, .int .i64 0, .int .i64 0, .string ⟨#[]⟩, .slice none 0 0] 37)).alloc (.cells #[.int .i64 0, .int .i64 0, .int .i64 0, .int .i64 0, .string ⟨#[]⟩, .slice none 0 0] 37)) = w0 at t1 t2 t3 t4 ⊢
  obtain ⟨R, hR⟩ : ∃ R, R = w.heap.size + 1 := ⟨_, rfl⟩
  obtain ⟨Z, hZ⟩ : ∃ Z, Z = w.heap.size + 1 + 1 := ⟨_, rfl⟩
  obtain ⟨H, hH⟩ : ∃ H, H = w.heap.size := ⟨_, rfl⟩
  have HWR : Hid (w.heap.size ≤ R) := hid (by omega)
  rw [← hZ] at t4
  rw [← hR] at t3
  rw [← hH] at t2
  have HB0 := hid t1
  have HK0 := hid t2
  have HR0 := hid t3
  have HZ0 := hid t4
  rw [← hZ, ← hR, ← hH]
  have HH := hid hH
  have HRR := hid hR
  clear t1 t2 t3 t4 hR hZ hH
  refine (HVA.out w0 HB0.out).mono ?_
  rintro e w1 ⟨rfl, hb⟩
  have HB1 := hid (HB0.out.trans (hb.mono HB0.out.size))
  have HK1 := hid ((hb.block H (lt_of_heap HK0.out)).trans HK0.out)
  have HR1 := hid ((hb.block R (lt_of_heap HR0.out)).trans HR0.out)
  have HZ1 := hid ((hb.block Z (lt_of_heap HZ0.out)).trans HZ0.out)
  clear hb
  go_wp2_with fail
  refine (HLV.out w1 HB1.out).mono ?_
  rintro e w1' ⟨rfl, h1⟩
  rw [h1]
  clear h1
  have q0 : w1.cell? ⟨H, 0, none⟩ = some (.int .i64 xa) := cell_of_blk HK1.out 0
  have q1 : w1.cell? ⟨H, 1, none⟩ = some (.int .i64 (M : Nat)) := cell_of_blk HK1.out 1
  have q2 : w1.cell? ⟨H, 2, none⟩ = some (.int .i64 xb) := cell_of_blk HK1.out 2
  have q3 : w1.cell? ⟨H, 3, none⟩ = some (.int .i64 xm) := cell_of_blk HK1.out 3
  have q4 : w1.cell? ⟨H, 4, none⟩ = some (.string xh) := cell_of_blk HK1.out 4
  have q5 : w1.cell? ⟨H, 5, none⟩ = some (.slice av N cv) := cell_of_blk HK1.out 5
  go_wp2_with fail
  refine (HP1.out w1).mono ?_
  rintro e w1' ⟨rfl, h1⟩
  rw [h1]
  clear h1
  go_wp2_with fail
  refine (HP2.out w1).mono ?_
  rintro e w1' ⟨rfl, h1⟩
  rw [h1]
  clear h1
  go_wp2_with fail
  refine (HSD.out w1 HB1.out).mono ?_
  rintro e w2 ⟨vo, vf, rfl, hO, hb⟩
  have HB2 := hid (HB1.out.trans (hb.mono HB1.out.size))
  have HK2 := hid ((hb.block H (lt_of_heap HK1.out)).trans HK1.out)
  have HR2 := hid ((hb.block R (lt_of_heap HR1.out)).trans HR1.out)
  have HZ2 := hid ((hb.block Z (lt_of_heap HZ1.out)).trans HZ1.out)
  have hro := own_rd hO.1
  obtain ⟨oa, oc, eo⟩ := RdX.shape hro
  obtain ⟨fa, fc, ef⟩ := own_shape hO.2.1
  obtain ⟨Lf, hLf⟩ : ∃ Lf, Lf = (Hu.fres xr).length := ⟨_, rfl⟩
  obtain ⟨Lo, hLo⟩ : ∃ Lo, Lo = (Hu.olds xr).length := ⟨_, rfl⟩
  rw [← hLf] at ef
  rw [← hLo] at eo
  subst eo ef
  have HLO := hid hLo
  have HRO := hid hro
  clear hb hO hro hLf hLo
  clear q0 q1 q2 q3 q4 q5
  have q0 : w2.cell? ⟨H, 0, none⟩ = some (.int .i64 xa) := cell_of_blk HK2.out 0
  have q1 : w2.cell? ⟨H, 1, none⟩ = some (.int .i64 (M : Nat)) := cell_of_blk HK2.out 1
  have q2 : w2.cell? ⟨H, 2, none⟩ = some (.int .i64 xb) := cell_of_blk HK2.out 2
  have q3 : w2.cell? ⟨H, 3, none⟩ = some (.int .i64 xm) := cell_of_blk HK2.out 3
  have q4 : w2.cell? ⟨H, 4, none⟩ = some (.string xh) := cell_of_blk HK2.out 4
  have q5 : w2.cell? ⟨H, 5, none⟩ = some (.slice av N cv) := cell_of_blk HK2.out 5
  go_wp2_with fail
  refine (HPT.out w2 HB2.out).mono ?_
  rintro e w3 ⟨rfl, hb⟩
  have HB3 := hid (HB2.out.trans (hb.mono HB2.out.size))
  have HK3 := hid ((hb.block H (lt_of_heap HK2.out)).trans HK2.out)
  have HR3 := hid ((hb.block R (lt_of_heap HR2.out)).trans HR2.out)
  have HZ3 := hid ((hb.block Z (lt_of_heap HZ2.out)).trans HZ2.out)
  have HRO3 := hid (HRO.out.below hb)
  clear hb HRO
  clear q0 q1 q2 q3 q4 q5
  have q0 : w3.cell? ⟨H, 0, none⟩ = some (.int .i64 xa) := cell_of_blk HK3.out 0
  have q1 : w3.cell? ⟨H, 1, none⟩ = some (.int .i64 (M : Nat)) := cell_of_blk HK3.out 1
  have q2 : w3.cell? ⟨H, 2, none⟩ = some (.int .i64 xb) := cell_of_blk HK3.out 2
  have q3 : w3.cell? ⟨H, 3, none⟩ = some (.int .i64 xm) := cell_of_blk HK3.out 3
  have q4 : w3.cell? ⟨H, 4, none⟩ = some (.string xh) := cell_of_blk HK3.out 4
  have q5 : w3.cell? ⟨H, 5, none⟩ = some (.slice av N cv) := cell_of_blk HK3.out 5
  go_wp2_with fail
  refine (HST.out w3 _ HB3.out HRO3.out).mono ?_
  rintro e w4 ⟨rfl, hb⟩
  have HB4 := hid (HB3.out.trans (hb.mono HB3.out.size))
  have HK4 := hid ((hb.block H (lt_of_heap HK3.out)).trans HK3.out)
  have HR4 := hid ((hb.block R (lt_of_heap HR3.out)).trans HR3.out)
  have HZ4 := hid ((hb.block Z (lt_of_heap HZ3.out)).trans HZ3.out)
  clear hb HRO3
  clear q0 q1 q2 q3 q4 q5
  have q0 : w4.cell? ⟨H, 0, none⟩ = some (.int .i64 xa) := cell_of_blk HK4.out 0
  have q1 : w4.cell? ⟨H, 1, none⟩ = some (.int .i64 (M : Nat)) := cell_of_blk HK4.out 1
  have q2 : w4.cell? ⟨H, 2, none⟩ = some (.int .i64 xb) := cell_of_blk HK4.out 2
  have q3 : w4.cell? ⟨H, 3, none⟩ = some (.int .i64 xm) := cell_of_blk HK4.out 3
  have q4 : w4.cell? ⟨H, 4, none⟩ = some (.string xh) := cell_of_blk HK4.out 4
  have q5 : w4.cell? ⟨H, 5, none⟩ = some (.slice av N cv) := cell_of_blk HK4.out 5
  go_wp2_with fail
  refine (HCT.out w4 HB4.out).mono ?_
  rintro e w4' ⟨rfl, h1⟩
  rw [h1]
  clear h1
  have z0 : w4.cell? ⟨R, 0, none⟩ = some (.int .i64 0) := cell_of_blk HR4.out 0
  have z1 : w4.cell? ⟨R, 1, none⟩ = some (.int .i64 0) := cell_of_blk HR4.out 1
  have z2 : w4.cell? ⟨R, 2, none⟩ = some (.int .i64 0) := cell_of_blk HR4.out 2
  have z3 : w4.cell? ⟨R, 3, none⟩ = some (.int .i64 0) := cell_of_blk HR4.out 3
  have z4 : w4.cell? ⟨R, 4, none⟩ = some (.string ⟨#[]⟩) := cell_of_blk HR4.out 4
  have z5 : w4.cell? ⟨R, 5, none⟩ = some (.slice none 0 0) := cell_of_blk HR4.out 5
  have zf : ∀ j, w4.frozen? ⟨R, j, none⟩ = false := fun j => frozen_of_blk HR4.out j
  have n0 : w4.cell? ⟨Z, 0, none⟩ = some (.int .i64 0) := cell_of_blk HZ4.out 0
  have n1 : w4.cell? ⟨Z, 1, none⟩ = some (.int .i64 0) := cell_of_blk HZ4.out 1
  have n2 : w4.cell? ⟨Z, 2, none⟩ = some (.int .i64 0) := cell_of_blk HZ4.out 2
  have n3 : w4.cell? ⟨Z, 3, none⟩ = some (.int .i64 0) := cell_of_blk HZ4.out 3
  have n4 : w4.cell? ⟨Z, 4, none⟩ = some (.string ⟨#[]⟩) := cell_of_blk HZ4.out 4
  have n5 : w4.cell? ⟨Z, 5, none⟩ = some (.slice none 0 0) := cell_of_blk HZ4.out 5
  go_wp2_with fail
  have hk6 := (set_heap _ R 5 _ _ (.slice none 0 0) (set_heap _ R 4 _ _ (.string ⟨#[]⟩) (set_heap _ R 3 _ _ (.int .i64 0) (set_heap _ R 2 _ _ (.int .i64 0) (set_heap _ R 1 _ _ (.int .i64 0) (set_heap _ R 0 _ _ (.int .i64 0) HR4.out))))))
  have HBF := hid (below_set (k := 5) (u := .slice none 0 0) (below_set (k := 4) (u := .string ⟨#[]⟩) (below_set (k := 3) (u := .int .i64 0) (below_set (k := 2) (u := .int .i64 0) (below_set (k := 1) (u := .int .i64 0) (below_set (k := 0) (u := .int .i64 0) HB4.out HWR.out) HWR.out) HWR.out) HWR.out) HWR.out) HWR.out)
  generalize ((((((w4.setCell ⟨R, 0, none⟩ (.int .i64 0)).setCell ⟨R, 1, none⟩ (.int .i64 0)).setCell ⟨R, 2, none⟩ (.int .i64 0)).setCell ⟨R, 3, none⟩ (.int .i64 0)).setCell ⟨R, 4, none⟩ (.string ⟨#[]⟩)).setCell ⟨R, 5, none⟩ (.slice none 0 0)) = w11 at hk6 HBF ⊢
  have y0 : w11.cell? ⟨R, 0, none⟩ = some (.int .i64 0) := cell_of_blk hk6 0
  have y1 : w11.cell? ⟨R, 1, none⟩ = some (.int .i64 0) := cell_of_blk hk6 1
  have y2 : w11.cell? ⟨R, 2, none⟩ = some (.int .i64 0) := cell_of_blk hk6 2
  have y3 : w11.cell? ⟨R, 3, none⟩ = some (.int .i64 0) := cell_of_blk hk6 3
  have y4 : w11.cell? ⟨R, 4, none⟩ = some (.string ⟨#[]⟩) := cell_of_blk hk6 4
  have y5 : w11.cell? ⟨R, 5, none⟩ = some (.slice none 0 0) := cell_of_blk hk6 5
  exact bodyPost_ret (v := .tuple #[.agg #[.int .i64 0, .int .i64 0, .int .i64 0, .int .i64 0, .string ⟨#[]⟩, .slice none 0 0], .int .i64 100]) (by simp [results, Tryz.results17, go_sem, y0, y1, y2, y3, y4, y5]) rfl ⟨.slice none 0 0, rfl, World.ownsRow_nil _ _ _ _, HBF.out⟩
end Go.Proofs.YtddmfdjkkikapaaGreatDoor
