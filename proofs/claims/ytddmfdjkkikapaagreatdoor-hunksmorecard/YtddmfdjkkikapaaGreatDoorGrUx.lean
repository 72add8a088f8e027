/-
  Several texts in one: Ux, Uz, Oh.
-/
import Derived.Test.YtddmfdjkkikapaaGreatDoorGrUs
import Derived.Test.YtddmfdjkkikapaaGreatDoorGrMa
import Derived.Test.YtddmfdjkkikapaaGreatDoorGrJ3
import Derived.Test.YtddmfdjkkikapaaGreatDoorGrJ6
import Derived.Test.YtddmfdjkkikapaaGreatDoorGrKa
import Derived.Test.YtddmfdjkkikapaaGreatDoorGrLb
import Derived.Test.YtddmfdjkkikapaaGreatDoorGrX
/-
  More context: the program's Wide (wip/genux.py).
-/
namespace Go.Proofs.YtddmfdjkkikapaaGreatDoor
open Go.RowKit
open Hu (Rw Hk)

/-- Wide's error, and its hunk -/
def wideN (h : Hk) (a : List ByteArray) (ctx : Int) : Nat :=
  if ctxOk ctx then if Hu.vld h then if Hu.valS a then if Hu.stB a (Hu.olds h.rows) (Hu.fres h.rows) (Hu.plc h.a h.n) then if Hu.vld (Hu.wideH h a ctx) then 0 else 100 else 61 else 3 else 100 else 1
def wideA (h : Hk) (a : List ByteArray) (ctx : Int) : Hk := if wideN h a ctx = 0 then Hu.wideH h a ctx else zH
theorem stB_fit {a o f : List ByteArray} {P : Int} (h : Hu.stB a o f P = true) : P + o.length ≤ a.length := by
  unfold Hu.stB at h
  simp only [Bool.and_eq_true, decide_eq_true_eq] at h
  exact h.1.1
theorem wBf_le (rows : List Rw) (ctx : Int) (P : Nat) : Hu.wBf rows ctx P ≤ ctx.toNat := Nat.le_trans (Nat.min_le_left _ _) (Nat.sub_le _ _)
theorem wAf_le (rows : List Rw) (ctx : Int) (P : Nat) : Hu.wAf rows ctx P ≤ ctx.toNat := Nat.le_trans (Nat.min_le_left _ _) (Nat.sub_le _ _)
theorem wideH_sz {h : Hk} {a : List ByteArray} {ctx : Int} (hz : SzH h) (hvl : Hu.vld h = true) (hsa : ∀ x ∈ a, x.size ≤ maxLen) (hc0 : 0 ≤ ctx) (hc1 : ctx ≤ 2147483647) : SzH (Hu.wideH h a ctx) := by
  obtain ⟨h1, _, _⟩ := vld_small hvl
  have h2 : ∀ x y, ((a.drop x).take y).length ≤ y := fun x y => List.length_take_le _ _
  have b1 := wBf_le h.rows ctx (Hu.plc h.a h.n).toNat
  have b2 := wAf_le h.rows ctx (a.length - ((Hu.plc h.a h.n).toNat + (Hu.olds h.rows).length))
  refine ⟨?_, ?_, hz.2.2⟩
  · show (Hu.wRows a h.rows ctx _ _).length < _
    unfold Hu.wRows
    rw [List.length_append, List.length_append, Hu.mk_len, Hu.mk_len]
    have k1 := h2 ((Hu.plc h.a h.n).toNat - Hu.wBf h.rows ctx (Hu.plc h.a h.n).toNat) (Hu.wBf h.rows ctx (Hu.plc h.a h.n).toNat)
    have k2 := h2 ((Hu.plc h.a h.n).toNat + (Hu.olds h.rows).length) (Hu.wAf h.rows ctx (a.length - ((Hu.plc h.a h.n).toNat + (Hu.olds h.rows).length)))
    omega
  · intro r hr
    have hr : r ∈ Hu.wRows a h.rows ctx _ _ := hr
    unfold Hu.wRows at hr
    simp only [List.mem_append] at hr
    rcases hr with (hr | hr) | hr
    · unfold Hu.mk at hr; obtain ⟨x, hx, rfl⟩ := List.mem_map.1 hr; exact hsa x (List.mem_of_mem_drop (List.mem_of_mem_take hx))
    · exact hz.2.1 r hr
    · unfold Hu.mk at hr; obtain ⟨x, hx, rfl⟩ := List.mem_map.1 hr; exact hsa x (List.mem_of_mem_drop (List.mem_of_mem_take hx))
set_option maxHeartbeats 1000000 in
set_option maxRecDepth 100000 in
theorem wide_1 {w : World} {h : Hk} {v va : Value} {a : List ByteArray} {ctx : Int} (hv : RdW w v h.rows) (ha : RdT w va a) (hz : SzH h) (_ : a.length < 8796093022200) (_ : ∀ x ∈ a, x.size ≤ maxLen) (hc : ctxOk ctx = false) :
    Calls Tryz.prog 16 #[HkV h v, va, .int .i64 ctx] w fun e w' => ∃ v', e = .returned (.tuple #[HkV zH v', .iface 63 (.int .i64 1)]) ∧ OwnW w' w.heap.size v' [] ∧ Below w.heap.size w w' := by
  have HIC := hid (fun w1 => isContext_any ctx w1)
  rw [hc] at HIC
  obtain ⟨av, cv, rfl⟩ := hv.shape
  obtain ⟨aa, ca, rfl⟩ := ha.shape
  obtain ⟨xa, xn, xb, xm, xh, xr⟩ := h
  dsimp only at *
  obtain ⟨N, hN⟩ : ∃ N, N = xr.length := ⟨_, rfl⟩
  obtain ⟨L, hL⟩ : ∃ L, L = a.length := ⟨_, rfl⟩
  unfold HkV zH
  dsimp only
  rw [← hN]
  rw [← hL]
  clear hv ha hz hN hL hc
  obtain ⟨t1, t2, t3, t4⟩ := two' w (.cells #[.int .i64 xa, .int .i64 xn, .int .i64 xb, .int .i64 xm, .string xh, .slice av N cv] 37) (.cells #[.int .i64 0, .int .i64 0, .int .i64 0, .int .i64 0, .string ⟨#[]⟩, .slice none 0 0] 37)
  go_enter Tryz.func16, Tryz.ntmps16
  go_wp2_with fail
  generalize (w.alloc (.cells #[.int .i64 xa, .int .i64 xn, .int .i64 xb, .int .i64 xm, .string xh, .slice av N cv] 37)).alloc (.cells #[.int .i64 0, .int .i64 0, .int .i64 0, .int .i64 0, .string ⟨#[]⟩, .slice none 0 0] 37) = w0 at t1 t2 t3 t4 ⊢
  obtain ⟨R, hR⟩ : ∃ R, R = w.heap.size + 1 := ⟨_, rfl⟩
  have HWR : Hid (w.heap.size ≤ R) := hid (by omega)
  obtain ⟨H, hH⟩ : ∃ H, H = w.heap.size := ⟨_, rfl⟩
  rw [← hR] at t3
  rw [← hR]
  rw [← hH] at t2
  have HB0 := hid t1
  have HK0 := hid t2
  have HR0 := hid t3
  rw [← hH]
  have HH := hid hH
  clear t1 t2 t3 t4 hR hH
  refine (HIC.out w0).mono ?_
  rintro e w0' ⟨rfl, h1⟩
  rw [h1]
  clear h1
  have z0 : w0.cell? ⟨R, 0, none⟩ = some (.int .i64 0) := cell_of_blk HR0.out 0
  have z1 : w0.cell? ⟨R, 1, none⟩ = some (.int .i64 0) := cell_of_blk HR0.out 1
  have z2 : w0.cell? ⟨R, 2, none⟩ = some (.int .i64 0) := cell_of_blk HR0.out 2
  have z3 : w0.cell? ⟨R, 3, none⟩ = some (.int .i64 0) := cell_of_blk HR0.out 3
  have z4 : w0.cell? ⟨R, 4, none⟩ = some (.string ⟨#[]⟩) := cell_of_blk HR0.out 4
  have z5 : w0.cell? ⟨R, 5, none⟩ = some (.slice none 0 0) := cell_of_blk HR0.out 5
  have zf : ∀ j, w0.frozen? ⟨R, j, none⟩ = false := fun j => frozen_of_blk HR0.out j
  go_wp2_with fail
  have hk6 := (set_heap _ R 5 _ _ (.slice none 0 0) (set_heap _ R 4 _ _ (.string ⟨#[]⟩) (set_heap _ R 3 _ _ (.int .i64 0) (set_heap _ R 2 _ _ (.int .i64 0) (set_heap _ R 1 _ _ (.int .i64 0) (set_heap _ R 0 _ _ (.int .i64 0) HR0.out))))))
  have HB6 := hid (below_set (k := 5) (u := .slice none 0 0) (below_set (k := 4) (u := .string ⟨#[]⟩) (below_set (k := 3) (u := .int .i64 0) (below_set (k := 2) (u := .int .i64 0) (below_set (k := 1) (u := .int .i64 0) (below_set (k := 0) (u := .int .i64 0) HB0.out HWR.out) HWR.out) HWR.out) HWR.out) HWR.out) HWR.out)
  generalize ((((((w0.setCell ⟨R, 0, none⟩ (.int .i64 0)).setCell ⟨R, 1, none⟩ (.int .i64 0)).setCell ⟨R, 2, none⟩ (.int .i64 0)).setCell ⟨R, 3, none⟩ (.int .i64 0)).setCell ⟨R, 4, none⟩ (.string ⟨#[]⟩)).setCell ⟨R, 5, none⟩ (.slice none 0 0)) = w11 at hk6 HB6 ⊢
  have y0 : w11.cell? ⟨R, 0, none⟩ = some (.int .i64 0) := cell_of_blk hk6 0
  have y1 : w11.cell? ⟨R, 1, none⟩ = some (.int .i64 0) := cell_of_blk hk6 1
  have y2 : w11.cell? ⟨R, 2, none⟩ = some (.int .i64 0) := cell_of_blk hk6 2
  have y3 : w11.cell? ⟨R, 3, none⟩ = some (.int .i64 0) := cell_of_blk hk6 3
  have y4 : w11.cell? ⟨R, 4, none⟩ = some (.string ⟨#[]⟩) := cell_of_blk hk6 4
  have y5 : w11.cell? ⟨R, 5, none⟩ = some (.slice none 0 0) := cell_of_blk hk6 5
  exact bodyPost_ret (v := .tuple #[.agg #[.int .i64 0, .int .i64 0, .int .i64 0, .int .i64 0, .string ⟨#[]⟩, .slice none 0 0], .iface 63 (.int .i64 1)]) (by simp [results, Tryz.results16, go_sem, y0, y1, y2, y3, y4, y5]) rfl ⟨.slice none 0 0, rfl, World.ownsRow_nil _ _ _ _, HB6.out⟩
set_option maxHeartbeats 1000000 in
set_option maxRecDepth 100000 in
theorem wide_2 {w : World} {h : Hk} {v va : Value} {a : List ByteArray} {ctx : Int} (hv : RdW w v h.rows) (ha : RdT w va a) (hz : SzH h) (_ : a.length < 8796093022200) (_ : ∀ x ∈ a, x.size ≤ maxLen) (hc : ctxOk ctx = true) (hvl : Hu.vld h = false) :
    Calls Tryz.prog 16 #[HkV h v, va, .int .i64 ctx] w fun e w' => ∃ v', e = .returned (.tuple #[HkV zH v', .iface 63 (.int .i64 100)]) ∧ OwnW w' w.heap.size v' [] ∧ Below w.heap.size w w' := by
  have HIC := hid (fun w1 => isContext_any ctx w1)
  rw [hc] at HIC
  have HVA := hid (fun w1 (hb : Below w.heap.size w w1) => hvalid_any (h := h) (hv.below hb) hz)
  rw [show vldN h = 100 by unfold vldN; rw [hvl]; rfl, errV_pos (by decide)] at HVA
  obtain ⟨av, cv, rfl⟩ := hv.shape
  obtain ⟨aa, ca, rfl⟩ := ha.shape
  obtain ⟨xa, xn, xb, xm, xh, xr⟩ := h
  dsimp only at *
  obtain ⟨N, hN⟩ : ∃ N, N = xr.length := ⟨_, rfl⟩
  obtain ⟨L, hL⟩ : ∃ L, L = a.length := ⟨_, rfl⟩
  unfold HkV at HVA
  unfold HkV
  unfold zH
  dsimp only at *
  rw [← hN] at HVA ⊢
  rw [← hL]
  clear hv ha hz hN hL hc hvl
  obtain ⟨t1, t2, t3, t4⟩ := two' w (.cells #[.int .i64 xa, .int .i64 xn, .int .i64 xb, .int .i64 xm, .string xh, .slice av N cv] 37) (.cells #[.int .i64 0, .int .i64 0, .int .i64 0, .int .i64 0, .string ⟨#[]⟩, .slice none 0 0] 37)
  go_enter Tryz.func16, Tryz.ntmps16
  go_wp2_with fail
  generalize (w.alloc (.cells #[.int .i64 xa, .int .i64 xn, .int .i64 xb, .int .i64 xm, .string xh, .slice av N cv] 37)).alloc (.cells #[.int .i64 0, .int .i64 0, .int .i64 0, .int .i64 0, .string ⟨#[]⟩, .slice none 0 0] 37) = w0 at t1 t2 t3 t4 ⊢
  obtain ⟨R, hR⟩ : ∃ R, R = w.heap.size + 1 := ⟨_, rfl⟩
  have HWR : Hid (w.heap.size ≤ R) := hid (by omega)
  obtain ⟨H, hH⟩ : ∃ H, H = w.heap.size := ⟨_, rfl⟩
  rw [← hR] at t3
  rw [← hR]
  rw [← hH] at t2
  have HB0 := hid t1
  have HK0 := hid t2
  have HR0 := hid t3
  rw [← hH]
  have HH := hid hH
  clear t1 t2 t3 t4 hR hH
  refine (HIC.out w0).mono ?_
  rintro e w0' ⟨rfl, h1⟩
  rw [h1]
  clear h1
  have q0 : w0.cell? ⟨H, 0, none⟩ = some (.int .i64 xa) := cell_of_blk HK0.out 0
  have q1 : w0.cell? ⟨H, 1, none⟩ = some (.int .i64 xn) := cell_of_blk HK0.out 1
  have q2 : w0.cell? ⟨H, 2, none⟩ = some (.int .i64 xb) := cell_of_blk HK0.out 2
  have q3 : w0.cell? ⟨H, 3, none⟩ = some (.int .i64 xm) := cell_of_blk HK0.out 3
  have q4 : w0.cell? ⟨H, 4, none⟩ = some (.string xh) := cell_of_blk HK0.out 4
  have q5 : w0.cell? ⟨H, 5, none⟩ = some (.slice av N cv) := cell_of_blk HK0.out 5
  go_wp2_with fail
  refine (HVA.out w0 HB0.out).mono ?_
  rintro e w1 ⟨rfl, hb⟩
  have HB1 := hid (HB0.out.trans (hb.mono HB0.out.size))
  have HK1 := hid ((hb.block H (lt_of_heap HK0.out)).trans HK0.out)
  have HR1 := hid ((hb.block R (lt_of_heap HR0.out)).trans HR0.out)
  clear hb q0 q1 q2 q3 q4 q5
  have z0 : w1.cell? ⟨R, 0, none⟩ = some (.int .i64 0) := cell_of_blk HR1.out 0
  have z1 : w1.cell? ⟨R, 1, none⟩ = some (.int .i64 0) := cell_of_blk HR1.out 1
  have z2 : w1.cell? ⟨R, 2, none⟩ = some (.int .i64 0) := cell_of_blk HR1.out 2
  have z3 : w1.cell? ⟨R, 3, none⟩ = some (.int .i64 0) := cell_of_blk HR1.out 3
  have z4 : w1.cell? ⟨R, 4, none⟩ = some (.string ⟨#[]⟩) := cell_of_blk HR1.out 4
  have z5 : w1.cell? ⟨R, 5, none⟩ = some (.slice none 0 0) := cell_of_blk HR1.out 5
  have zf : ∀ j, w1.frozen? ⟨R, j, none⟩ = false := fun j => frozen_of_blk HR1.out j
  go_wp2_with fail
  have hk6 := (set_heap _ R 5 _ _ (.slice none 0 0) (set_heap _ R 4 _ _ (.string ⟨#[]⟩) (set_heap _ R 3 _ _ (.int .i64 0) (set_heap _ R 2 _ _ (.int .i64 0) (set_heap _ R 1 _ _ (.int .i64 0) (set_heap _ R 0 _ _ (.int .i64 0) HR1.out))))))
  have HB6 := hid (below_set (k := 5) (u := .slice none 0 0) (below_set (k := 4) (u := .string ⟨#[]⟩) (below_set (k := 3) (u := .int .i64 0) (below_set (k := 2) (u := .int .i64 0) (below_set (k := 1) (u := .int .i64 0) (below_set (k := 0) (u := .int .i64 0) HB1.out HWR.out) HWR.out) HWR.out) HWR.out) HWR.out) HWR.out)
  generalize ((((((w1.setCell ⟨R, 0, none⟩ (.int .i64 0)).setCell ⟨R, 1, none⟩ (.int .i64 0)).setCell ⟨R, 2, none⟩ (.int .i64 0)).setCell ⟨R, 3, none⟩ (.int .i64 0)).setCell ⟨R, 4, none⟩ (.string ⟨#[]⟩)).setCell ⟨R, 5, none⟩ (.slice none 0 0)) = w11 at hk6 HB6 ⊢
  have y0 : w11.cell? ⟨R, 0, none⟩ = some (.int .i64 0) := cell_of_blk hk6 0
  have y1 : w11.cell? ⟨R, 1, none⟩ = some (.int .i64 0) := cell_of_blk hk6 1
  have y2 : w11.cell? ⟨R, 2, none⟩ = some (.int .i64 0) := cell_of_blk hk6 2
  have y3 : w11.cell? ⟨R, 3, none⟩ = some (.int .i64 0) := cell_of_blk hk6 3
  have y4 : w11.cell? ⟨R, 4, none⟩ = some (.string ⟨#[]⟩) := cell_of_blk hk6 4
  have y5 : w11.cell? ⟨R, 5, none⟩ = some (.slice none 0 0) := cell_of_blk hk6 5
  exact bodyPost_ret (v := .tuple #[.agg #[.int .i64 0, .int .i64 0, .int .i64 0, .int .i64 0, .string ⟨#[]⟩, .slice none 0 0], .iface 63 (.int .i64 100)]) (by simp [results, Tryz.results16, go_sem, y0, y1, y2, y3, y4, y5]) rfl ⟨.slice none 0 0, rfl, World.ownsRow_nil _ _ _ _, HB6.out⟩
set_option maxHeartbeats 1000000 in
set_option maxRecDepth 100000 in
theorem wide_3 {w : World} {h : Hk} {v va : Value} {a : List ByteArray} {ctx : Int} (hv : RdW w v h.rows) (ha : RdT w va a) (hz : SzH h) (hla : a.length < 8796093022200) (hsa : ∀ x ∈ a, x.size ≤ maxLen) (hc : ctxOk ctx = true) (hvl : Hu.vld h = true) (hvs : Hu.valS a = false) :
    Calls Tryz.prog 16 #[HkV h v, va, .int .i64 ctx] w fun e w' => ∃ v', e = .returned (.tuple #[HkV zH v', .iface 63 (.int .i64 3)]) ∧ OwnW w' w.heap.size v' [] ∧ Below w.heap.size w w' := by
  have HIC := hid (fun w1 => isContext_any ctx w1)
  rw [hc] at HIC
  have HVA := hid (fun w1 (hb : Below w.heap.size w w1) => hvalid_any (h := h) (hv.below hb) hz)
  rw [show vldN h = 0 by unfold vldN; rw [hvl]; rfl, errV_zero] at HVA
  have HLV := hid (fun w1 (hb : Below w.heap.size w w1) => linesValid_any (ha.below hb) (by omega) hsa)
  rw [hvs] at HLV
  obtain ⟨av, cv, rfl⟩ := hv.shape
  obtain ⟨aa, ca, rfl⟩ := ha.shape
  obtain ⟨xa, xn, xb, xm, xh, xr⟩ := h
  dsimp only at *
  obtain ⟨N, hN⟩ : ∃ N, N = xr.length := ⟨_, rfl⟩
  obtain ⟨L, hL⟩ : ∃ L, L = a.length := ⟨_, rfl⟩
  unfold HkV at HVA
  unfold HkV
  unfold zH
  dsimp only at *
  rw [← hN] at HVA ⊢
  rw [← hL] at HLV ⊢
  clear hv ha hz hN hL hc hla hsa hvl hvs
  obtain ⟨t1, t2, t3, t4⟩ := two' w (.cells #[.int .i64 xa, .int .i64 xn, .int .i64 xb, .int .i64 xm, .string xh, .slice av N cv] 37) (.cells #[.int .i64 0, .int .i64 0, .int .i64 0, .int .i64 0, .string ⟨#[]⟩, .slice none 0 0] 37)
  go_enter Tryz.func16, Tryz.ntmps16
  go_wp2_with fail
  generalize (w.alloc (.cells #[.int .i64 xa, .int .i64 xn, .int .i64 xb, .int .i64 xm, .string xh, .slice av N cv] 37)).alloc (.cells #[.int .i64 0, .int .i64 0, .int .i64 0, .int .i64 0, .string ⟨#[]⟩, .slice none 0 0] 37) = w0 at t1 t2 t3 t4 ⊢
  obtain ⟨R, hR⟩ : ∃ R, R = w.heap.size + 1 := ⟨_, rfl⟩
  have HWR : Hid (w.heap.size ≤ R) := hid (by omega)
  obtain ⟨H, hH⟩ : ∃ H, H = w.heap.size := ⟨_, rfl⟩
  rw [← hR] at t3
  rw [← hR]
  rw [← hH] at t2
  have HB0 := hid t1
  have HK0 := hid t2
  have HR0 := hid t3
  rw [← hH]
  have HH := hid hH
  clear t1 t2 t3 t4 hR hH
  refine (HIC.out w0).mono ?_
  rintro e w0' ⟨rfl, h1⟩
  rw [h1]
  clear h1
  have q0 : w0.cell? ⟨H, 0, none⟩ = some (.int .i64 xa) := cell_of_blk HK0.out 0
  have q1 : w0.cell? ⟨H, 1, none⟩ = some (.int .i64 xn) := cell_of_blk HK0.out 1
  have q2 : w0.cell? ⟨H, 2, none⟩ = some (.int .i64 xb) := cell_of_blk HK0.out 2
  have q3 : w0.cell? ⟨H, 3, none⟩ = some (.int .i64 xm) := cell_of_blk HK0.out 3
  have q4 : w0.cell? ⟨H, 4, none⟩ = some (.string xh) := cell_of_blk HK0.out 4
  have q5 : w0.cell? ⟨H, 5, none⟩ = some (.slice av N cv) := cell_of_blk HK0.out 5
  go_wp2_with fail
  refine (HVA.out w0 HB0.out).mono ?_
  rintro e w1 ⟨rfl, hb⟩
  have HB1 := hid (HB0.out.trans (hb.mono HB0.out.size))
  have HK1 := hid ((hb.block H (lt_of_heap HK0.out)).trans HK0.out)
  have HR1 := hid ((hb.block R (lt_of_heap HR0.out)).trans HR0.out)
  clear hb q0 q1 q2 q3 q4 q5
  go_wp2_with fail
  refine (HLV.out w1 HB1.out).mono ?_
  rintro e w1' ⟨rfl, h1⟩
  rw [h1]
  clear h1
  have z0 : w1.cell? ⟨R, 0, none⟩ = some (.int .i64 0) := cell_of_blk HR1.out 0
  have z1 : w1.cell? ⟨R, 1, none⟩ = some (.int .i64 0) := cell_of_blk HR1.out 1
  have z2 : w1.cell? ⟨R, 2, none⟩ = some (.int .i64 0) := cell_of_blk HR1.out 2
  have z3 : w1.cell? ⟨R, 3, none⟩ = some (.int .i64 0) := cell_of_blk HR1.out 3
  have z4 : w1.cell? ⟨R, 4, none⟩ = some (.string ⟨#[]⟩) := cell_of_blk HR1.out 4
  have z5 : w1.cell? ⟨R, 5, none⟩ = some (.slice none 0 0) := cell_of_blk HR1.out 5
  have zf : ∀ j, w1.frozen? ⟨R, j, none⟩ = false := fun j => frozen_of_blk HR1.out j
  go_wp2_with fail
  have hk6 := (set_heap _ R 5 _ _ (.slice none 0 0) (set_heap _ R 4 _ _ (.string ⟨#[]⟩) (set_heap _ R 3 _ _ (.int .i64 0) (set_heap _ R 2 _ _ (.int .i64 0) (set_heap _ R 1 _ _ (.int .i64 0) (set_heap _ R 0 _ _ (.int .i64 0) HR1.out))))))
  have HB6 := hid (below_set (k := 5) (u := .slice none 0 0) (below_set (k := 4) (u := .string ⟨#[]⟩) (below_set (k := 3) (u := .int .i64 0) (below_set (k := 2) (u := .int .i64 0) (below_set (k := 1) (u := .int .i64 0) (below_set (k := 0) (u := .int .i64 0) HB1.out HWR.out) HWR.out) HWR.out) HWR.out) HWR.out) HWR.out)
  generalize ((((((w1.setCell ⟨R, 0, none⟩ (.int .i64 0)).setCell ⟨R, 1, none⟩ (.int .i64 0)).setCell ⟨R, 2, none⟩ (.int .i64 0)).setCell ⟨R, 3, none⟩ (.int .i64 0)).setCell ⟨R, 4, none⟩ (.string ⟨#[]⟩)).setCell ⟨R, 5, none⟩ (.slice none 0 0)) = w11 at hk6 HB6 ⊢
  have y0 : w11.cell? ⟨R, 0, none⟩ = some (.int .i64 0) := cell_of_blk hk6 0
  have y1 : w11.cell? ⟨R, 1, none⟩ = some (.int .i64 0) := cell_of_blk hk6 1
  have y2 : w11.cell? ⟨R, 2, none⟩ = some (.int .i64 0) := cell_of_blk hk6 2
  have y3 : w11.cell? ⟨R, 3, none⟩ = some (.int .i64 0) := cell_of_blk hk6 3
  have y4 : w11.cell? ⟨R, 4, none⟩ = some (.string ⟨#[]⟩) := cell_of_blk hk6 4
  have y5 : w11.cell? ⟨R, 5, none⟩ = some (.slice none 0 0) := cell_of_blk hk6 5
  exact bodyPost_ret (v := .tuple #[.agg #[.int .i64 0, .int .i64 0, .int .i64 0, .int .i64 0, .string ⟨#[]⟩, .slice none 0 0], .iface 63 (.int .i64 3)]) (by simp [results, Tryz.results16, go_sem, y0, y1, y2, y3, y4, y5]) rfl ⟨.slice none 0 0, rfl, World.ownsRow_nil _ _ _ _, HB6.out⟩
set_option maxHeartbeats 1000000 in
set_option maxRecDepth 100000 in
theorem wide_4 {w : World} {h : Hk} {v va : Value} {a : List ByteArray} {ctx : Int} (hv : RdW w v h.rows) (ha : RdT w va a) (hz : SzH h) (hla : a.length < 8796093022200) (hsa : ∀ x ∈ a, x.size ≤ maxLen) (hc : ctxOk ctx = true) (hvl : Hu.vld h = true) (hvs : Hu.valS a = true) (hst : Hu.stB a (Hu.olds h.rows) (Hu.fres h.rows) (Hu.plc h.a h.n) = false) :
    Calls Tryz.prog 16 #[HkV h v, va, .int .i64 ctx] w fun e w' => ∃ v', e = .returned (.tuple #[HkV zH v', .iface 63 (.int .i64 61)]) ∧ OwnW w' w.heap.size v' [] ∧ Below w.heap.size w w' := by
  have HIC := hid (fun w1 => isContext_any ctx w1)
  rw [hc] at HIC
  have HVA := hid (fun w1 (hb : Below w.heap.size w w1) => hvalid_any (h := h) (hv.below hb) hz)
  rw [show vldN h = 0 by unfold vldN; rw [hvl]; rfl, errV_zero] at HVA
  have HLV := hid (fun w1 (hb : Below w.heap.size w w1) => linesValid_any (ha.below hb) (by omega) hsa)
  rw [hvs] at HLV
  have HST := hid (fun w1 (hb : Below w.heap.size w w1) => standsIn_any (hv.below hb) (ha.below hb) hz hvl hla)
  rw [hst] at HST
  obtain ⟨av, cv, rfl⟩ := hv.shape
  obtain ⟨aa, ca, rfl⟩ := ha.shape
  obtain ⟨xa, xn, xb, xm, xh, xr⟩ := h
  dsimp only at *
  obtain ⟨N, hN⟩ : ∃ N, N = xr.length := ⟨_, rfl⟩
  obtain ⟨L, hL⟩ : ∃ L, L = a.length := ⟨_, rfl⟩
  unfold HkV at HVA HST
  unfold HkV
  unfold zH
  dsimp only at *
  rw [← hN] at HVA HST ⊢
  rw [← hL] at HLV HST ⊢
  clear hv ha hz hN hL hc hla hsa hvl hvs hst
  obtain ⟨t1, t2, t3, t4⟩ := two' w (.cells #[.int .i64 xa, .int .i64 xn, .int .i64 xb, .int .i64 xm, .string xh, .slice av N cv] 37) (.cells #[.int .i64 0, .int .i64 0, .int .i64 0, .int .i64 0, .string ⟨#[]⟩, .slice none 0 0] 37)
  go_enter Tryz.func16, Tryz.ntmps16
  go_wp2_with fail
  generalize (w.alloc (.cells #[.int .i64 xa, .int .i64 xn, .int .i64 xb, .int .i64 xm, .string xh, .slice av N cv] 37)).alloc (.cells #[.int .i64 0, .int .i64 0, .int .i64 0, .int .i64 0, .string ⟨#[]⟩, .slice none 0 0] 37) = w0 at t1 t2 t3 t4 ⊢
  obtain ⟨R, hR⟩ : ∃ R, R = w.heap.size + 1 := ⟨_, rfl⟩
  have HWR : Hid (w.heap.size ≤ R) := hid (by omega)
  obtain ⟨H, hH⟩ : ∃ H, H = w.heap.size := ⟨_, rfl⟩
  rw [← hR] at t3
  rw [← hR]
  rw [← hH] at t2
  have HB0 := hid t1
  have HK0 := hid t2
  have HR0 := hid t3
  rw [← hH]
  have HH := hid hH
  clear t1 t2 t3 t4 hR hH
  refine (HIC.out w0).mono ?_
  rintro e w0' ⟨rfl, h1⟩
  rw [h1]
  clear h1
  have q0 : w0.cell? ⟨H, 0, none⟩ = some (.int .i64 xa) := cell_of_blk HK0.out 0
  have q1 : w0.cell? ⟨H, 1, none⟩ = some (.int .i64 xn) := cell_of_blk HK0.out 1
  have q2 : w0.cell? ⟨H, 2, none⟩ = some (.int .i64 xb) := cell_of_blk HK0.out 2
  have q3 : w0.cell? ⟨H, 3, none⟩ = some (.int .i64 xm) := cell_of_blk HK0.out 3
  have q4 : w0.cell? ⟨H, 4, none⟩ = some (.string xh) := cell_of_blk HK0.out 4
  have q5 : w0.cell? ⟨H, 5, none⟩ = some (.slice av N cv) := cell_of_blk HK0.out 5
  go_wp2_with fail
  refine (HVA.out w0 HB0.out).mono ?_
  rintro e w1 ⟨rfl, hb⟩
  have HB1 := hid (HB0.out.trans (hb.mono HB0.out.size))
  have HK1 := hid ((hb.block H (lt_of_heap HK0.out)).trans HK0.out)
  have HR1 := hid ((hb.block R (lt_of_heap HR0.out)).trans HR0.out)
  clear hb q0 q1 q2 q3 q4 q5
  go_wp2_with fail
  refine (HLV.out w1 HB1.out).mono ?_
  rintro e w1' ⟨rfl, h1⟩
  rw [h1]
  clear h1
  have q0 : w1.cell? ⟨H, 0, none⟩ = some (.int .i64 xa) := cell_of_blk HK1.out 0
  have q1 : w1.cell? ⟨H, 1, none⟩ = some (.int .i64 xn) := cell_of_blk HK1.out 1
  have q2 : w1.cell? ⟨H, 2, none⟩ = some (.int .i64 xb) := cell_of_blk HK1.out 2
  have q3 : w1.cell? ⟨H, 3, none⟩ = some (.int .i64 xm) := cell_of_blk HK1.out 3
  have q4 : w1.cell? ⟨H, 4, none⟩ = some (.string xh) := cell_of_blk HK1.out 4
  have q5 : w1.cell? ⟨H, 5, none⟩ = some (.slice av N cv) := cell_of_blk HK1.out 5
  go_wp2_with fail
  refine (HST.out w1 HB1.out).mono ?_
  rintro e w2 ⟨rfl, hb⟩
  have HB2 := hid (HB1.out.trans (hb.mono HB1.out.size))
  have HK2 := hid ((hb.block H (lt_of_heap HK1.out)).trans HK1.out)
  have HR2 := hid ((hb.block R (lt_of_heap HR1.out)).trans HR1.out)
  clear hb q0 q1 q2 q3 q4 q5
  have z0 : w2.cell? ⟨R, 0, none⟩ = some (.int .i64 0) := cell_of_blk HR2.out 0
  have z1 : w2.cell? ⟨R, 1, none⟩ = some (.int .i64 0) := cell_of_blk HR2.out 1
  have z2 : w2.cell? ⟨R, 2, none⟩ = some (.int .i64 0) := cell_of_blk HR2.out 2
  have z3 : w2.cell? ⟨R, 3, none⟩ = some (.int .i64 0) := cell_of_blk HR2.out 3
  have z4 : w2.cell? ⟨R, 4, none⟩ = some (.string ⟨#[]⟩) := cell_of_blk HR2.out 4
  have z5 : w2.cell? ⟨R, 5, none⟩ = some (.slice none 0 0) := cell_of_blk HR2.out 5
  have zf : ∀ j, w2.frozen? ⟨R, j, none⟩ = false := fun j => frozen_of_blk HR2.out j
  go_wp2_with fail
  have hk6 := (set_heap _ R 5 _ _ (.slice none 0 0) (set_heap _ R 4 _ _ (.string ⟨#[]⟩) (set_heap _ R 3 _ _ (.int .i64 0) (set_heap _ R 2 _ _ (.int .i64 0) (set_heap _ R 1 _ _ (.int .i64 0) (set_heap _ R 0 _ _ (.int .i64 0) HR2.out))))))
  have HB6 := hid (below_set (k := 5) (u := .slice none 0 0) (below_set (k := 4) (u := .string ⟨#[]⟩) (below_set (k := 3) (u := .int .i64 0) (below_set (k := 2) (u := .int .i64 0) (below_set (k := 1) (u := .int .i64 0) (below_set (k := 0) (u := .int .i64 0) HB2.out HWR.out) HWR.out) HWR.out) HWR.out) HWR.out) HWR.out)
  generalize ((((((w2.setCell ⟨R, 0, none⟩ (.int .i64 0)).setCell ⟨R, 1, none⟩ (.int .i64 0)).setCell ⟨R, 2, none⟩ (.int .i64 0)).setCell ⟨R, 3, none⟩ (.int .i64 0)).setCell ⟨R, 4, none⟩ (.string ⟨#[]⟩)).setCell ⟨R, 5, none⟩ (.slice none 0 0)) = w11 at hk6 HB6 ⊢
  have y0 : w11.cell? ⟨R, 0, none⟩ = some (.int .i64 0) := cell_of_blk hk6 0
  have y1 : w11.cell? ⟨R, 1, none⟩ = some (.int .i64 0) := cell_of_blk hk6 1
  have y2 : w11.cell? ⟨R, 2, none⟩ = some (.int .i64 0) := cell_of_blk hk6 2
  have y3 : w11.cell? ⟨R, 3, none⟩ = some (.int .i64 0) := cell_of_blk hk6 3
  have y4 : w11.cell? ⟨R, 4, none⟩ = some (.string ⟨#[]⟩) := cell_of_blk hk6 4
  have y5 : w11.cell? ⟨R, 5, none⟩ = some (.slice none 0 0) := cell_of_blk hk6 5
  exact bodyPost_ret (v := .tuple #[.agg #[.int .i64 0, .int .i64 0, .int .i64 0, .int .i64 0, .string ⟨#[]⟩, .slice none 0 0], .iface 63 (.int .i64 61)]) (by simp [results, Tryz.results16, go_sem, y0, y1, y2, y3, y4, y5]) rfl ⟨.slice none 0 0, rfl, World.ownsRow_nil _ _ _ _, HB6.out⟩
set_option maxHeartbeats 1000000 in
set_option maxRecDepth 100000 in
theorem wide_5 {w : World} {h : Hk} {v va : Value} {a : List ByteArray} {ctx : Int} (hv : RdW w v h.rows) (ha : RdT w va a) (hz : SzH h) (hla : a.length < 8796093022200) (hsa : ∀ x ∈ a, x.size ≤ maxLen) (hc : ctxOk ctx = true) (hvl : Hu.vld h = true) (hvs : Hu.valS a = true) (hst : Hu.stB a (Hu.olds h.rows) (Hu.fres h.rows) (Hu.plc h.a h.n) = true) (hvw : Hu.vld (Hu.wideH h a ctx) = false) :
    Calls Tryz.prog 16 #[HkV h v, va, .int .i64 ctx] w fun e w' => ∃ v', e = .returned (.tuple #[HkV zH v', .iface 63 (.int .i64 100)]) ∧ OwnW w' w.heap.size v' [] ∧ Below w.heap.size w w' := by
  have HIC := hid (fun w1 => isContext_any ctx w1)
  rw [hc] at HIC
  have HVA := hid (fun w1 (hb : Below w.heap.size w w1) => hvalid_any (h := h) (hv.below hb) hz)
  rw [show vldN h = 0 by unfold vldN; rw [hvl]; rfl, errV_zero] at HVA
  have HLV := hid (fun w1 (hb : Below w.heap.size w w1) => linesValid_any (ha.below hb) (by omega) hsa)
  rw [hvs] at HLV
  have HST := hid (fun w1 (hb : Below w.heap.size w w1) => standsIn_any (hv.below hb) (ha.below hb) hz hvl hla)
  rw [hst] at HST
  have hc2 := hc
  unfold ctxOk at hc2
  simp at hc2
  have hsz := wideH_sz (a := a) hz hvl hsa hc2.1 hc2.2
  obtain ⟨C, rfl⟩ := Int.eq_ofNat_of_zero_le hc2.1
  have HWD := hid (fun w1 (hb : Below w.heap.size w w1) => widened_any (C := C) (hv.below hb) (ha.below hb) hz hvl hla (by omega) (stB_fit hst))
  have HVW := hid (fun w1 v1 (hr : RdW w1 v1 (Hu.wideH h a (C : Nat)).rows) => hvalid_any (h := Hu.wideH h a (C : Nat)) hr hsz)
  rw [show vldN (Hu.wideH h a (C : Nat)) = 100 by unfold vldN; rw [show Hu.vld (Hu.wideH h a (C : Nat)) = false from hvw]; rfl, errV_pos (by decide)] at HVW
  clear hsz hc2 hvw
  generalize Hu.wideH h a (C : Nat) = W at HWD HVW ⊢
  obtain ⟨wa, wn, wb, wm, wh, wr⟩ := W
  dsimp only at HWD HVW ⊢
  obtain ⟨av, cv, rfl⟩ := hv.shape
  obtain ⟨aa, ca, rfl⟩ := ha.shape
  obtain ⟨xa, xn, xb, xm, xh, xr⟩ := h
  dsimp only at *
  obtain ⟨N, hN⟩ : ∃ N, N = xr.length := ⟨_, rfl⟩
  obtain ⟨L, hL⟩ : ∃ L, L = a.length := ⟨_, rfl⟩
  unfold HkV at HVA HST HWD HVW
  unfold HkV
  unfold zH
  dsimp only at *
  rw [← hN] at HVA HST HWD ⊢
  rw [← hL] at HLV HST HWD ⊢
  clear hv ha hz hN hL hc hla hsa hvl hvs hst
  obtain ⟨t1, t2, t3, t4⟩ := two' w (.cells #[.int .i64 xa, .int .i64 xn, .int .i64 xb, .int .i64 xm, .string xh, .slice av N cv] 37) (.cells #[.int .i64 0, .int .i64 0, .int .i64 0, .int .i64 0, .string ⟨#[]⟩, .slice none 0 0] 37)
  go_enter Tryz.func16, Tryz.ntmps16
  go_wp2_with fail
  generalize (w.alloc (.cells #[.int .i64 xa, .int .i64 xn, .int .i64 xb, .int .i64 xm, .string xh, .slice av N cv] 37)).alloc (.cells #[.int .i64 0, .int .i64 0, .int .i64 0, .int .i64 0, .string ⟨#[]⟩, .slice none 0 0] 37) = w0 at t1 t2 t3 t4 ⊢
  obtain ⟨R, hR⟩ : ∃ R, R = w.heap.size + 1 := ⟨_, rfl⟩
  have HWR : Hid (w.heap.size ≤ R) := hid (by omega)
  obtain ⟨H, hH⟩ : ∃ H, H = w.heap.size := ⟨_, rfl⟩
  rw [← hR] at t3
  rw [← hR]
  rw [← hH] at t2
  have HB0 := hid t1
  have HK0 := hid t2
  have HR0 := hid t3
  rw [← hH]
  have HH := hid hH
  clear t1 t2 t3 t4 hR hH
  refine (HIC.out w0).mono ?_
  rintro e w0' ⟨rfl, h1⟩
  rw [h1]
  clear h1
  have q0 : w0.cell? ⟨H, 0, none⟩ = some (.int .i64 xa) := cell_of_blk HK0.out 0
  have q1 : w0.cell? ⟨H, 1, none⟩ = some (.int .i64 xn) := cell_of_blk HK0.out 1
  have q2 : w0.cell? ⟨H, 2, none⟩ = some (.int .i64 xb) := cell_of_blk HK0.out 2
  have q3 : w0.cell? ⟨H, 3, none⟩ = some (.int .i64 xm) := cell_of_blk HK0.out 3
  have q4 : w0.cell? ⟨H, 4, none⟩ = some (.string xh) := cell_of_blk HK0.out 4
  have q5 : w0.cell? ⟨H, 5, none⟩ = some (.slice av N cv) := cell_of_blk HK0.out 5
  go_wp2_with fail
  refine (HVA.out w0 HB0.out).mono ?_
  rintro e w1 ⟨rfl, hb⟩
  have HB1 := hid (HB0.out.trans (hb.mono HB0.out.size))
  have HK1 := hid ((hb.block H (lt_of_heap HK0.out)).trans HK0.out)
  have HR1 := hid ((hb.block R (lt_of_heap HR0.out)).trans HR0.out)
  clear hb q0 q1 q2 q3 q4 q5
  go_wp2_with fail
  refine (HLV.out w1 HB1.out).mono ?_
  rintro e w1' ⟨rfl, h1⟩
  rw [h1]
  clear h1
  have q0 : w1.cell? ⟨H, 0, none⟩ = some (.int .i64 xa) := cell_of_blk HK1.out 0
  have q1 : w1.cell? ⟨H, 1, none⟩ = some (.int .i64 xn) := cell_of_blk HK1.out 1
  have q2 : w1.cell? ⟨H, 2, none⟩ = some (.int .i64 xb) := cell_of_blk HK1.out 2
  have q3 : w1.cell? ⟨H, 3, none⟩ = some (.int .i64 xm) := cell_of_blk HK1.out 3
  have q4 : w1.cell? ⟨H, 4, none⟩ = some (.string xh) := cell_of_blk HK1.out 4
  have q5 : w1.cell? ⟨H, 5, none⟩ = some (.slice av N cv) := cell_of_blk HK1.out 5
  go_wp2_with fail
  refine (HST.out w1 HB1.out).mono ?_
  rintro e w2 ⟨rfl, hb⟩
  have HB2 := hid (HB1.out.trans (hb.mono HB1.out.size))
  have HK2 := hid ((hb.block H (lt_of_heap HK1.out)).trans HK1.out)
  have HR2 := hid ((hb.block R (lt_of_heap HR1.out)).trans HR1.out)
  clear hb q0 q1 q2 q3 q4 q5
  have q0 : w2.cell? ⟨H, 0, none⟩ = some (.int .i64 xa) := cell_of_blk HK2.out 0
  have q1 : w2.cell? ⟨H, 1, none⟩ = some (.int .i64 xn) := cell_of_blk HK2.out 1
  have q2 : w2.cell? ⟨H, 2, none⟩ = some (.int .i64 xb) := cell_of_blk HK2.out 2
  have q3 : w2.cell? ⟨H, 3, none⟩ = some (.int .i64 xm) := cell_of_blk HK2.out 3
  have q4 : w2.cell? ⟨H, 4, none⟩ = some (.string xh) := cell_of_blk HK2.out 4
  have q5 : w2.cell? ⟨H, 5, none⟩ = some (.slice av N cv) := cell_of_blk HK2.out 5
  go_wp2_with fail
  refine (HWD.out w2 HB2.out).mono ?_
  rintro e w3 ⟨v7, rfl, hO7, hb⟩
  have HB3 := hid (HB2.out.trans (hb.mono HB2.out.size))
  have HK3 := hid ((hb.block H (lt_of_heap HK2.out)).trans HK2.out)
  have HR3 := hid ((hb.block R (lt_of_heap HR2.out)).trans HR2.out)
  clear hb q0 q1 q2 q3 q4 q5
  obtain ⟨a7, q7, rfl⟩ := own_shape hO7
  have HSZ3 : Hid (w.heap.size ≤ w2.heap.size) := hid HB2.out.size
  have HRl : Hid (R < w2.heap.size) := hid (lt_of_heap HR2.out)
  obtain ⟨wl, hwl⟩ : ∃ wl, wl = wr.length := ⟨_, rfl⟩
  have HO3 : Hid (w3.ownsRow w2.heap.size 59 2 (.slice a7 wl q7) wl (rwsC wr)) := hid (by rw [hwl]; exact hO7)
  have HWL := hid hwl
  rw [← hwl]
  clear hO7 hwl
  have hbW := (Below.refl w3.heap.size w3).alloc (Nat.le_refl _) (.cells #[.int .i64 wa, .int .i64 wn, .int .i64 wb, .int .i64 wm, .string wh, .slice a7 wl q7] 37)
  have hkW := heap_alloc_new w3 (.cells #[.int .i64 wa, .int .i64 wn, .int .i64 wb, .int .i64 wm, .string wh, .slice a7 wl q7] 37)
  have HB4 := hid (HB3.out.trans (hbW.mono HB3.out.size))
  have HR4 := hid ((hbW.block R (lt_of_heap HR3.out)).trans HR3.out)
  have HO4 := hid (own_stays HO3.out hbW)
  obtain ⟨V, hV⟩ : ∃ V, V = w3.heap.size := ⟨_, rfl⟩
  have HV4 : Hid ((w3.alloc (.cells #[.int .i64 wa, .int .i64 wn, .int .i64 wb, .int .i64 wm, .string wh, .slice a7 wl q7] 37)).heap[V]? = some (.cells #[.int .i64 wa, .int .i64 wn, .int .i64 wb, .int .i64 wm, .string wh, .slice a7 wl q7] 37)) := hid (by rw [hV]; exact hkW)
  have k0 := cell_of_blk hkW 0
  have k1 := cell_of_blk hkW 1
  have k2 := cell_of_blk hkW 2
  have k3 := cell_of_blk hkW 3
  have k4 := cell_of_blk hkW 4
  have k5 := cell_of_blk hkW 5
  have HVV := hid hV
  clear hbW hkW hV
  go_wp2_with fail
  clear k0 k1 k2 k3 k4 k5
  rw [← HVV.out]
  generalize w3.alloc (.cells #[.int .i64 wa, .int .i64 wn, .int .i64 wb, .int .i64 wm, .string wh, .slice a7 wl q7] 37) = w4 at HB4 HR4 HO4 HV4 ⊢
  refine (HVW.out w4 (.slice a7 wl q7) (by rw [HWL.out] at HO4 ⊢; exact own_rd HO4.out)).mono ?_
  rintro e w5 ⟨rfl, hb⟩
  have HB5 := hid (HB4.out.trans (hb.mono HB4.out.size))
  have HR5 := hid ((hb.block R (lt_of_heap HR4.out)).trans HR4.out)
  have HV5 := hid ((hb.block V (lt_of_heap HV4.out)).trans HV4.out)
  have HO5 := hid (own_stays HO4.out hb)
  clear hb
  have z0 : w5.cell? ⟨R, 0, none⟩ = some (.int .i64 0) := cell_of_blk HR5.out 0
  have z1 : w5.cell? ⟨R, 1, none⟩ = some (.int .i64 0) := cell_of_blk HR5.out 1
  have z2 : w5.cell? ⟨R, 2, none⟩ = some (.int .i64 0) := cell_of_blk HR5.out 2
  have z3 : w5.cell? ⟨R, 3, none⟩ = some (.int .i64 0) := cell_of_blk HR5.out 3
  have z4 : w5.cell? ⟨R, 4, none⟩ = some (.string ⟨#[]⟩) := cell_of_blk HR5.out 4
  have z5 : w5.cell? ⟨R, 5, none⟩ = some (.slice none 0 0) := cell_of_blk HR5.out 5
  have zf : ∀ j, w5.frozen? ⟨R, j, none⟩ = false := fun j => frozen_of_blk HR5.out j
  go_wp2_with fail
  have hk6 := (set_heap _ R 5 _ _ (.slice none 0 0) (set_heap _ R 4 _ _ (.string ⟨#[]⟩) (set_heap _ R 3 _ _ (.int .i64 0) (set_heap _ R 2 _ _ (.int .i64 0) (set_heap _ R 1 _ _ (.int .i64 0) (set_heap _ R 0 _ _ (.int .i64 0) HR5.out))))))
  have HB6 := hid (below_set (k := 5) (u := .slice none 0 0) (below_set (k := 4) (u := .string ⟨#[]⟩) (below_set (k := 3) (u := .int .i64 0) (below_set (k := 2) (u := .int .i64 0) (below_set (k := 1) (u := .int .i64 0) (below_set (k := 0) (u := .int .i64 0) HB5.out HWR.out) HWR.out) HWR.out) HWR.out) HWR.out) HWR.out)
  generalize ((((((w5.setCell ⟨R, 0, none⟩ (.int .i64 0)).setCell ⟨R, 1, none⟩ (.int .i64 0)).setCell ⟨R, 2, none⟩ (.int .i64 0)).setCell ⟨R, 3, none⟩ (.int .i64 0)).setCell ⟨R, 4, none⟩ (.string ⟨#[]⟩)).setCell ⟨R, 5, none⟩ (.slice none 0 0)) = w11 at hk6 HB6 ⊢
  have y0 : w11.cell? ⟨R, 0, none⟩ = some (.int .i64 0) := cell_of_blk hk6 0
  have y1 : w11.cell? ⟨R, 1, none⟩ = some (.int .i64 0) := cell_of_blk hk6 1
  have y2 : w11.cell? ⟨R, 2, none⟩ = some (.int .i64 0) := cell_of_blk hk6 2
  have y3 : w11.cell? ⟨R, 3, none⟩ = some (.int .i64 0) := cell_of_blk hk6 3
  have y4 : w11.cell? ⟨R, 4, none⟩ = some (.string ⟨#[]⟩) := cell_of_blk hk6 4
  have y5 : w11.cell? ⟨R, 5, none⟩ = some (.slice none 0 0) := cell_of_blk hk6 5
  exact bodyPost_ret (v := .tuple #[.agg #[.int .i64 0, .int .i64 0, .int .i64 0, .int .i64 0, .string ⟨#[]⟩, .slice none 0 0], .iface 63 (.int .i64 100)]) (by simp [results, Tryz.results16, go_sem, y0, y1, y2, y3, y4, y5]) rfl ⟨.slice none 0 0, rfl, World.ownsRow_nil _ _ _ _, HB6.out⟩
set_option maxHeartbeats 1000000 in
set_option maxRecDepth 100000 in
theorem wide_6 {w : World} {h : Hk} {v va : Value} {a : List ByteArray} {ctx : Int} (hv : RdW w v h.rows) (ha : RdT w va a) (hz : SzH h) (hla : a.length < 8796093022200) (hsa : ∀ x ∈ a, x.size ≤ maxLen) (hc : ctxOk ctx = true) (hvl : Hu.vld h = true) (hvs : Hu.valS a = true) (hst : Hu.stB a (Hu.olds h.rows) (Hu.fres h.rows) (Hu.plc h.a h.n) = true) (hvw : Hu.vld (Hu.wideH h a ctx) = true) :
    Calls Tryz.prog 16 #[HkV h v, va, .int .i64 ctx] w fun e w' => ∃ v', e = .returned (.tuple #[HkV (Hu.wideH h a ctx) v', .nilIface]) ∧ OwnW w' w.heap.size v' (Hu.wideH h a ctx).rows ∧ Below w.heap.size w w' := by
  have HIC := hid (fun w1 => isContext_any ctx w1)
  rw [hc] at HIC
  have HVA := hid (fun w1 (hb : Below w.heap.size w w1) => hvalid_any (h := h) (hv.below hb) hz)
  rw [show vldN h = 0 by unfold vldN; rw [hvl]; rfl, errV_zero] at HVA
  have HLV := hid (fun w1 (hb : Below w.heap.size w w1) => linesValid_any (ha.below hb) (by omega) hsa)
  rw [hvs] at HLV
  have HST := hid (fun w1 (hb : Below w.heap.size w w1) => standsIn_any (hv.below hb) (ha.below hb) hz hvl hla)
  rw [hst] at HST
  have hc2 := hc
  unfold ctxOk at hc2
  simp at hc2
  have hsz := wideH_sz (a := a) hz hvl hsa hc2.1 hc2.2
  obtain ⟨C, rfl⟩ := Int.eq_ofNat_of_zero_le hc2.1
  have HWD := hid (fun w1 (hb : Below w.heap.size w w1) => widened_any (C := C) (hv.below hb) (ha.below hb) hz hvl hla (by omega) (stB_fit hst))
  have HVW := hid (fun w1 v1 (hr : RdW w1 v1 (Hu.wideH h a (C : Nat)).rows) => hvalid_any (h := Hu.wideH h a (C : Nat)) hr hsz)
  rw [show vldN (Hu.wideH h a (C : Nat)) = 0 by unfold vldN; rw [show Hu.vld (Hu.wideH h a (C : Nat)) = true from hvw]; rfl, errV_zero] at HVW
  clear hsz hc2 hvw
  generalize Hu.wideH h a (C : Nat) = W at HWD HVW ⊢
  obtain ⟨wa, wn, wb, wm, wh, wr⟩ := W
  dsimp only at HWD HVW ⊢
  obtain ⟨av, cv, rfl⟩ := hv.shape
  obtain ⟨aa, ca, rfl⟩ := ha.shape
  obtain ⟨xa, xn, xb, xm, xh, xr⟩ := h
  dsimp only at *
  obtain ⟨N, hN⟩ : ∃ N, N = xr.length := ⟨_, rfl⟩
  obtain ⟨L, hL⟩ : ∃ L, L = a.length := ⟨_, rfl⟩
  unfold HkV at HVA HST HWD HVW
  unfold HkV
  dsimp only at *
  rw [← hN] at HVA HST HWD ⊢
  rw [← hL] at HLV HST HWD ⊢
  clear hv ha hz hN hL hc hla hsa hvl hvs hst
  obtain ⟨t1, t2, t3, t4⟩ := two' w (.cells #[.int .i64 xa, .int .i64 xn, .int .i64 xb, .int .i64 xm, .string xh, .slice av N cv] 37) (.cells #[.int .i64 0, .int .i64 0, .int .i64 0, .int .i64 0, .string ⟨#[]⟩, .slice none 0 0] 37)
  go_enter Tryz.func16, Tryz.ntmps16
  go_wp2_with fail
  generalize (w.alloc (.cells #[.int .i64 xa, .int .i64 xn, .int .i64 xb, .int .i64 xm, .string xh, .slice av N cv] 37)).alloc (.cells #[.int .i64 0, .int .i64 0, .int .i64 0, .int .i64 0, .string ⟨#[]⟩, .slice none 0 0] 37) = w0 at t1 t2 t3 t4 ⊢
  obtain ⟨R, hR⟩ : ∃ R, R = w.heap.size + 1 := ⟨_, rfl⟩
  have HWR : Hid (w.heap.size ≤ R) := hid (by omega)
  obtain ⟨H, hH⟩ : ∃ H, H = w.heap.size := ⟨_, rfl⟩
  rw [← hR] at t3
  rw [← hR]
  rw [← hH] at t2
  have HB0 := hid t1
  have HK0 := hid t2
  have HR0 := hid t3
  rw [← hH]
  have HH := hid hH
  clear t1 t2 t3 t4 hR hH
  refine (HIC.out w0).mono ?_
  rintro e w0' ⟨rfl, h1⟩
  rw [h1]
  clear h1
  have q0 : w0.cell? ⟨H, 0, none⟩ = some (.int .i64 xa) := cell_of_blk HK0.out 0
  have q1 : w0.cell? ⟨H, 1, none⟩ = some (.int .i64 xn) := cell_of_blk HK0.out 1
  have q2 : w0.cell? ⟨H, 2, none⟩ = some (.int .i64 xb) := cell_of_blk HK0.out 2
  have q3 : w0.cell? ⟨H, 3, none⟩ = some (.int .i64 xm) := cell_of_blk HK0.out 3
  have q4 : w0.cell? ⟨H, 4, none⟩ = some (.string xh) := cell_of_blk HK0.out 4
  have q5 : w0.cell? ⟨H, 5, none⟩ = some (.slice av N cv) := cell_of_blk HK0.out 5
  go_wp2_with fail
  refine (HVA.out w0 HB0.out).mono ?_
  rintro e w1 ⟨rfl, hb⟩
  have HB1 := hid (HB0.out.trans (hb.mono HB0.out.size))
  have HK1 := hid ((hb.block H (lt_of_heap HK0.out)).trans HK0.out)
  have HR1 := hid ((hb.block R (lt_of_heap HR0.out)).trans HR0.out)
  clear hb q0 q1 q2 q3 q4 q5
  go_wp2_with fail
  refine (HLV.out w1 HB1.out).mono ?_
  rintro e w1' ⟨rfl, h1⟩
  rw [h1]
  clear h1
  have q0 : w1.cell? ⟨H, 0, none⟩ = some (.int .i64 xa) := cell_of_blk HK1.out 0
  have q1 : w1.cell? ⟨H, 1, none⟩ = some (.int .i64 xn) := cell_of_blk HK1.out 1
  have q2 : w1.cell? ⟨H, 2, none⟩ = some (.int .i64 xb) := cell_of_blk HK1.out 2
  have q3 : w1.cell? ⟨H, 3, none⟩ = some (.int .i64 xm) := cell_of_blk HK1.out 3
  have q4 : w1.cell? ⟨H, 4, none⟩ = some (.string xh) := cell_of_blk HK1.out 4
  have q5 : w1.cell? ⟨H, 5, none⟩ = some (.slice av N cv) := cell_of_blk HK1.out 5
  go_wp2_with fail
  refine (HST.out w1 HB1.out).mono ?_
  rintro e w2 ⟨rfl, hb⟩
  have HB2 := hid (HB1.out.trans (hb.mono HB1.out.size))
  have HK2 := hid ((hb.block H (lt_of_heap HK1.out)).trans HK1.out)
  have HR2 := hid ((hb.block R (lt_of_heap HR1.out)).trans HR1.out)
  clear hb q0 q1 q2 q3 q4 q5
  have q0 : w2.cell? ⟨H, 0, none⟩ = some (.int .i64 xa) := cell_of_blk HK2.out 0
  have q1 : w2.cell? ⟨H, 1, none⟩ = some (.int .i64 xn) := cell_of_blk HK2.out 1
  have q2 : w2.cell? ⟨H, 2, none⟩ = some (.int .i64 xb) := cell_of_blk HK2.out 2
  have q3 : w2.cell? ⟨H, 3, none⟩ = some (.int .i64 xm) := cell_of_blk HK2.out 3
  have q4 : w2.cell? ⟨H, 4, none⟩ = some (.string xh) := cell_of_blk HK2.out 4
  have q5 : w2.cell? ⟨H, 5, none⟩ = some (.slice av N cv) := cell_of_blk HK2.out 5
  go_wp2_with fail
  refine (HWD.out w2 HB2.out).mono ?_
  rintro e w3 ⟨v7, rfl, hO7, hb⟩
  have HB3 := hid (HB2.out.trans (hb.mono HB2.out.size))
  have HK3 := hid ((hb.block H (lt_of_heap HK2.out)).trans HK2.out)
  have HR3 := hid ((hb.block R (lt_of_heap HR2.out)).trans HR2.out)
  clear hb q0 q1 q2 q3 q4 q5
  obtain ⟨a7, q7, rfl⟩ := own_shape hO7
  have HSZ3 : Hid (w.heap.size ≤ w2.heap.size) := hid HB2.out.size
  have HRl : Hid (R < w2.heap.size) := hid (lt_of_heap HR2.out)
  obtain ⟨wl, hwl⟩ : ∃ wl, wl = wr.length := ⟨_, rfl⟩
  have HO3 : Hid (w3.ownsRow w2.heap.size 59 2 (.slice a7 wl q7) wl (rwsC wr)) := hid (by rw [hwl]; exact hO7)
  have HWL := hid hwl
  rw [← hwl]
  clear hO7 hwl
  have hbW := (Below.refl w3.heap.size w3).alloc (Nat.le_refl _) (.cells #[.int .i64 wa, .int .i64 wn, .int .i64 wb, .int .i64 wm, .string wh, .slice a7 wl q7] 37)
  have hkW := heap_alloc_new w3 (.cells #[.int .i64 wa, .int .i64 wn, .int .i64 wb, .int .i64 wm, .string wh, .slice a7 wl q7] 37)
  have HB4 := hid (HB3.out.trans (hbW.mono HB3.out.size))
  have HR4 := hid ((hbW.block R (lt_of_heap HR3.out)).trans HR3.out)
  have HO4 := hid (own_stays HO3.out hbW)
  obtain ⟨V, hV⟩ : ∃ V, V = w3.heap.size := ⟨_, rfl⟩
  have HV4 : Hid ((w3.alloc (.cells #[.int .i64 wa, .int .i64 wn, .int .i64 wb, .int .i64 wm, .string wh, .slice a7 wl q7] 37)).heap[V]? = some (.cells #[.int .i64 wa, .int .i64 wn, .int .i64 wb, .int .i64 wm, .string wh, .slice a7 wl q7] 37)) := hid (by rw [hV]; exact hkW)
  have k0 := cell_of_blk hkW 0
  have k1 := cell_of_blk hkW 1
  have k2 := cell_of_blk hkW 2
  have k3 := cell_of_blk hkW 3
  have k4 := cell_of_blk hkW 4
  have k5 := cell_of_blk hkW 5
  have HVV := hid hV
  clear hbW hkW hV
  go_wp2_with fail
  clear k0 k1 k2 k3 k4 k5
  rw [← HVV.out]
  generalize w3.alloc (.cells #[.int .i64 wa, .int .i64 wn, .int .i64 wb, .int .i64 wm, .string wh, .slice a7 wl q7] 37) = w4 at HB4 HR4 HO4 HV4 ⊢
  refine (HVW.out w4 (.slice a7 wl q7) (by rw [HWL.out] at HO4 ⊢; exact own_rd HO4.out)).mono ?_
  rintro e w5 ⟨rfl, hb⟩
  have HB5 := hid (HB4.out.trans (hb.mono HB4.out.size))
  have HR5 := hid ((hb.block R (lt_of_heap HR4.out)).trans HR4.out)
  have HV5 := hid ((hb.block V (lt_of_heap HV4.out)).trans HV4.out)
  have HO5 := hid (own_stays HO4.out hb)
  clear hb
  have k0 : w5.cell? ⟨V, 0, none⟩ = some (.int .i64 wa) := cell_of_blk HV5.out 0
  have k1 : w5.cell? ⟨V, 1, none⟩ = some (.int .i64 wn) := cell_of_blk HV5.out 1
  have k2 : w5.cell? ⟨V, 2, none⟩ = some (.int .i64 wb) := cell_of_blk HV5.out 2
  have k3 : w5.cell? ⟨V, 3, none⟩ = some (.int .i64 wm) := cell_of_blk HV5.out 3
  have k4 : w5.cell? ⟨V, 4, none⟩ = some (.string wh) := cell_of_blk HV5.out 4
  have k5 : w5.cell? ⟨V, 5, none⟩ = some (.slice a7 wl q7) := cell_of_blk HV5.out 5
  have z0 : w5.cell? ⟨R, 0, none⟩ = some (.int .i64 0) := cell_of_blk HR5.out 0
  have z1 : w5.cell? ⟨R, 1, none⟩ = some (.int .i64 0) := cell_of_blk HR5.out 1
  have z2 : w5.cell? ⟨R, 2, none⟩ = some (.int .i64 0) := cell_of_blk HR5.out 2
  have z3 : w5.cell? ⟨R, 3, none⟩ = some (.int .i64 0) := cell_of_blk HR5.out 3
  have z4 : w5.cell? ⟨R, 4, none⟩ = some (.string ⟨#[]⟩) := cell_of_blk HR5.out 4
  have z5 : w5.cell? ⟨R, 5, none⟩ = some (.slice none 0 0) := cell_of_blk HR5.out 5
  have zf : ∀ j, w5.frozen? ⟨R, j, none⟩ = false := fun j => frozen_of_blk HR5.out j
  go_wp2_with fail
  have hk6 := (set_heap _ R 5 _ _ (.slice a7 wl q7) (set_heap _ R 4 _ _ (.string wh) (set_heap _ R 3 _ _ (.int .i64 wm) (set_heap _ R 2 _ _ (.int .i64 wb) (set_heap _ R 1 _ _ (.int .i64 wn) (set_heap _ R 0 _ _ (.int .i64 wa) HR5.out))))))
  have HB6 := hid (below_set (k := 5) (u := .slice a7 wl q7) (below_set (k := 4) (u := .string wh) (below_set (k := 3) (u := .int .i64 wm) (below_set (k := 2) (u := .int .i64 wb) (below_set (k := 1) (u := .int .i64 wn) (below_set (k := 0) (u := .int .i64 wa) HB5.out HWR.out) HWR.out) HWR.out) HWR.out) HWR.out) HWR.out)
  have HO11 : Hid (w2.heap.size ≤ w2.heap.size ∧ (((((((w5.setCell ⟨R, 0, none⟩ (.int .i64 wa)).setCell ⟨R, 1, none⟩ (.int .i64 wn)).setCell ⟨R, 2, none⟩ (.int .i64 wb)).setCell ⟨R, 3, none⟩ (.int .i64 wm)).setCell ⟨R, 4, none⟩ (.string wh)).setCell ⟨R, 5, none⟩ (.slice a7 wl q7))).ownsRow w2.heap.size 59 2 (.slice a7 wl q7) wl (rwsC wr)) := hid ⟨Nat.le_refl _, own_far HO5.out (fun q hq => by
    have hne : q ≠ R := by have := own_ge HO5.out q hq; have := HRl.out; omega
    exact (set_other _ hne).trans ((set_other _ hne).trans ((set_other _ hne).trans ((set_other _ hne).trans ((set_other _ hne).trans (set_other _ hne))))))⟩
  generalize ((((((w5.setCell ⟨R, 0, none⟩ (.int .i64 wa)).setCell ⟨R, 1, none⟩ (.int .i64 wn)).setCell ⟨R, 2, none⟩ (.int .i64 wb)).setCell ⟨R, 3, none⟩ (.int .i64 wm)).setCell ⟨R, 4, none⟩ (.string wh)).setCell ⟨R, 5, none⟩ (.slice a7 wl q7)) = w11 at hk6 HB6 HO11 ⊢
  have y0 : w11.cell? ⟨R, 0, none⟩ = some (.int .i64 wa) := cell_of_blk hk6 0
  have y1 : w11.cell? ⟨R, 1, none⟩ = some (.int .i64 wn) := cell_of_blk hk6 1
  have y2 : w11.cell? ⟨R, 2, none⟩ = some (.int .i64 wb) := cell_of_blk hk6 2
  have y3 : w11.cell? ⟨R, 3, none⟩ = some (.int .i64 wm) := cell_of_blk hk6 3
  have y4 : w11.cell? ⟨R, 4, none⟩ = some (.string wh) := cell_of_blk hk6 4
  have y5 : w11.cell? ⟨R, 5, none⟩ = some (.slice a7 wl q7) := cell_of_blk hk6 5
  exact bodyPost_ret (v := .tuple #[.agg #[.int .i64 wa, .int .i64 wn, .int .i64 wb, .int .i64 wm, .string wh, .slice a7 wl q7], .nilIface]) (by simp [results, Tryz.results16, go_sem, y0, y1, y2, y3, y4, y5]) rfl ⟨.slice a7 wl q7, rfl, (by rw [HWL.out] at HO11 ⊢; exact own_mono HO11.out.2 HSZ3.out), HB6.out⟩
theorem wide_any {w : World} {h : Hk} {v va : Value} {a : List ByteArray} {ctx : Int} (hv : RdW w v h.rows) (ha : RdT w va a) (hz : SzH h) (hla : a.length < 8796093022200) (hsa : ∀ x ∈ a, x.size ≤ maxLen) :
    Calls Tryz.prog 16 #[HkV h v, va, .int .i64 ctx] w fun e w' => ∃ v', e = .returned (.tuple #[HkV (wideA h a ctx) v', errV (wideN h a ctx)]) ∧ OwnW w' w.heap.size v' (wideA h a ctx).rows ∧ Below w.heap.size w w' := by
  cases hc : ctxOk ctx with
  | false => have e1 : wideN h a ctx = 1 := by unfold wideN; rw [hc]; rfl
             unfold wideA; rw [e1]; exact wide_1 hv ha hz hla hsa hc
  | true =>
    cases hvl : Hu.vld h with
    | false => have e1 : wideN h a ctx = 100 := by unfold wideN; rw [hc, hvl]; rfl
               unfold wideA; rw [e1]; exact wide_2 hv ha hz hla hsa hc hvl
    | true =>
      cases hvs : Hu.valS a with
      | false => have e1 : wideN h a ctx = 3 := by unfold wideN; rw [hc, hvl, hvs]; rfl
                 unfold wideA; rw [e1]; exact wide_3 hv ha hz hla hsa hc hvl hvs
      | true =>
        cases hst : Hu.stB a (Hu.olds h.rows) (Hu.fres h.rows) (Hu.plc h.a h.n) with
        | false => have e1 : wideN h a ctx = 61 := by unfold wideN; rw [hc, hvl, hvs, hst]; rfl
                   unfold wideA; rw [e1]; exact wide_4 hv ha hz hla hsa hc hvl hvs hst
        | true =>
          cases hvw : Hu.vld (Hu.wideH h a ctx) with
          | false => have e1 : wideN h a ctx = 100 := by unfold wideN; rw [hc, hvl, hvs, hst, hvw]; rfl
                     unfold wideA; rw [e1]; exact wide_5 hv ha hz hla hsa hc hvl hvs hst hvw
          | true => have e1 : wideN h a ctx = 0 := by unfold wideN; rw [hc, hvl, hvs, hst, hvw]; rfl
                    unfold wideA; rw [e1]; exact wide_6 hv ha hz hla hsa hc hvl hvs hst hvw
end Go.Proofs.YtddmfdjkkikapaaGreatDoor
/-
  More context: the document's contexts and stands.
-/
namespace Go.Proofs.YtddmfdjkkikapaaGreatDoor.Hu
/-- how many rows stand ahead of the first change -/
def fstC (l : List Rw) : Nat := (l.takeWhile fun r => !isC r).length
/-- how many rows there are up to the last change -/
def lstC : List Rw → Nat
  | [] => 0
  | r :: l => if l.any isC then lstC l + 1 else if isC r then 1 else 0
theorem fstC_cons (r : Rw) (l : List Rw) : fstC (r :: l) = if isC r then 0 else fstC l + 1 := by
  unfold fstC
  rw [List.takeWhile_cons]
  cases isC r <;> simp
theorem fstC_le (l : List Rw) : fstC l ≤ l.length := by
  induction l with
  | nil => exact Nat.le_refl _
  | cons r l ih => rw [fstC_cons, List.length_cons]; split <;> omega
theorem lstC_le (l : List Rw) : lstC l ≤ l.length := by
  induction l with
  | nil => exact Nat.le_refl _
  | cons r l ih => unfold lstC; rw [List.length_cons]; split <;> (try split) <;> omega
theorem fstC_no : ∀ {l : List Rw} {j : Nat} {r : Rw}, j < fstC l → l[j]? = some r → isC r = false
  | [], j, r, h, _ => by cases h
  | x :: l, 0, r, h, hr => by
    rw [fstC_cons] at h
    cases hx : isC x with
    | true => rw [hx] at h; simp at h
    | false => cases hr; exact hx
  | x :: l, j + 1, r, h, hr => by
    rw [fstC_cons] at h
    cases hx : isC x with
    | true => rw [hx] at h; simp at h
    | false => rw [hx] at h; simp at h; exact fstC_no h hr
theorem fstC_yes : ∀ {l : List Rw}, l.any isC = true → ∃ r, l[fstC l]? = some r ∧ isC r = true
  | [], h => by cases h
  | x :: l, h => by
    rw [fstC_cons]
    cases hx : isC x with
    | true => exact ⟨x, rfl, hx⟩
    | false =>
      rw [List.any_cons, hx] at h
      obtain ⟨r, h1, h2⟩ := fstC_yes (l := l) (by simpa using h)
      exact ⟨r, by simpa using h1, h2⟩
theorem lstC_no : ∀ {l : List Rw} {j : Nat} {r : Rw}, lstC l ≤ j → l[j]? = some r → isC r = false
  | [], j, r, _, hr => by simp at hr
  | x :: l, j, r, h, hr => by
    unfold lstC at h
    cases ha : l.any isC with
    | true =>
      rw [ha] at h
      simp at h
      match j, h, hr with
      | j + 1, h, hr => exact lstC_no (l := l) (j := j) (by omega) (by simpa using hr)
    | false =>
      match j, h, hr with
      | 0, h, hr =>
        rw [ha] at h
        cases hr
        cases hx : isC x with
        | true => rw [hx] at h; simp at h
        | false => rfl
      | j + 1, h, hr =>
        have hm : r ∈ l := List.mem_of_getElem? (by simpa using hr)
        cases hx : isC r with
        | false => rfl
        | true => rw [List.any_eq_true.2 ⟨r, hm, hx⟩] at ha; cases ha
theorem lstC_yes : ∀ {l : List Rw}, l.any isC = true → 1 ≤ lstC l ∧ ∃ r, l[lstC l - 1]? = some r ∧ isC r = true
  | [], h => by cases h
  | x :: l, h => by
    unfold lstC
    cases ha : l.any isC with
    | true =>
      obtain ⟨h0, r, h1, h2⟩ := lstC_yes ha
      refine ⟨by simp, r, ?_, h2⟩
      obtain ⟨k, hk⟩ : ∃ k, lstC l = k + 1 := ⟨lstC l - 1, by omega⟩
      rw [hk] at h1 ⊢
      simpa using h1
    | false =>
      rw [List.any_cons, ha] at h
      have hx : isC x = true := by simpa using h
      rw [hx]
      exact ⟨by simp, x, by simp, hx⟩
def stepA (p : Nat × Nat) (r : Nat × Nat) : Nat × Nat := (min p.1 r.1, r.2)
theorem ar1 : ∀ (l : List Rw) (i f : Nat) (b : Nat × Nat), f ≤ i → ((runsR l i f).foldl stepA b).1 = if f < i then min b.1 f else if l.any isC then min b.1 (i + fstC l) else b.1
  | [], i, f, b, hf => by
    rw [runsR, run1]
    by_cases h : f < i
    · rw [if_pos h, if_pos h]; rfl
    · rw [if_neg h, if_neg h]; rfl
  | r :: l, i, f, b, hf => by
    rw [runsR, fstC_cons, List.any_cons]
    cases hr : isC r with
    | true =>
      simp only [if_true, Bool.true_or]
      rw [ar1 l (i + 1) f b (by omega), if_pos (by omega)]
      by_cases h : f < i
      · rw [if_pos h]
      · rw [if_neg h]; have : f = i := by omega
        rw [this, Nat.add_zero]
    | false =>
      simp only [Bool.false_eq_true, if_false, Bool.false_or]
      rw [List.foldl_append, ar1 l (i + 1) (i + 1) _ (Nat.le_refl _), if_neg (Nat.lt_irrefl _)]
      rw [run1]
      by_cases h : f < i
      · rw [if_pos h, if_pos h]
        show (if l.any isC = true then min (min b.1 f) _ else min b.1 f) = _
        split <;> omega
      · rw [if_neg h, if_neg h]
        show (if l.any isC = true then min b.1 _ else b.1) = _
        rw [show i + (fstC l + 1) = i + 1 + fstC l by omega]
theorem ar2 : ∀ (l : List Rw) (i f : Nat) (b : Nat × Nat), f ≤ i → ((runsR l i f).foldl stepA b).2 = if l.any isC then i + lstC l else if f < i then i else b.2
  | [], i, f, b, hf => by
    rw [runsR, run1]
    by_cases h : f < i
    · rw [if_pos h, if_pos h]; rfl
    · rw [if_neg h, if_neg h]; rfl
  | r :: l, i, f, b, hf => by
    rw [runsR, lstC, List.any_cons]
    cases hr : isC r with
    | true =>
      simp only [if_true, Bool.true_or]
      rw [ar2 l (i + 1) f b (by omega), if_pos (show f < i + 1 by omega)]
      split <;> omega
    | false =>
      simp only [Bool.false_eq_true, if_false, Bool.false_or]
      rw [List.foldl_append, ar2 l (i + 1) (i + 1) _ (Nat.le_refl _), if_neg (Nat.lt_irrefl _), run1]
      by_cases h : f < i
      · rw [if_pos h, if_pos h]
        show (if l.any isC = true then _ else i) = _
        split <;> omega
      · rw [if_neg h, if_neg h]
        show (if l.any isC = true then _ else b.2) = _
        split <;> omega
theorem arF_eq {l : List Rw} (h : areR l = true) : arF l.length (runsR l 0 0) = (fstC l, lstC l) := by
  unfold areR at h
  rw [Bool.and_eq_true] at h
  have h1 := ar1 l 0 0 (l.length, 0) (Nat.le_refl _)
  have h2 := ar2 l 0 0 (l.length, 0) (Nat.le_refl _)
  rw [if_neg (Nat.lt_irrefl _), if_pos h.2, Nat.zero_add] at h1
  rw [if_pos h.2, Nat.zero_add] at h2
  have h3 := fstC_le l
  show List.foldl stepA _ _ = _
  refine Prod.ext ?_ h2
  rw [h1]
  exact Nat.min_eq_right h3
end Go.Proofs.YtddmfdjkkikapaaGreatDoor.Hu
namespace Go.Proofs.YtddmfdjkkikapaaGreatDoor
open Go.RowKit
open Hu (Rw Hk)

set_option maxHeartbeats 1000000 in
theorem rContexts_any {w : World} {v : Value} {l : List Rw} (hv : RdW w v l) (hl : l.length < 5864062014800) (har : Hu.areR l = true) :
    Calls Tryz.prog 49 #[v] w fun e w' => e = .returned (.tuple #[.int .i64 (Hu.fstC l : Nat), .int .i64 ((l.length - Hu.lstC l : Nat) : Int)]) ∧ w' = w := by
  obtain ⟨av, cv, rfl⟩ := hv.shape
  have HV := hid hv
  have har2 := har
  unfold Hu.areR at har2
  rw [Bool.and_eq_true] at har2
  obtain ⟨rf, hf1, hf2⟩ := Hu.fstC_yes har2.2
  obtain ⟨hl1, rl, hl2, hl3⟩ := Hu.lstC_yes har2.2
  have hk1 : ∀ {r : Rw}, r ∈ l → Hu.isC r = false → r.k = 1 := fun {r} hr hc => by
    have := List.all_eq_true.1 har2.1 r hr
    rw [hc] at this
    simpa using this
  have hk2 : ∀ {r : Rw}, Hu.isC r = true → r.k ≠ 1 := fun {r} hc e => by
    unfold Hu.isC at hc
    rw [e] at hc
    cases hc
  have HF := hid (fun (j : Nat) (r : Rw) (hj : j < Hu.fstC l) (hr : l[j]? = some r) => hk1 (List.mem_of_getElem? hr) (Hu.fstC_no hj hr))
  have HL := hid (fun (j : Nat) (r : Rw) (hj : Hu.lstC l ≤ j) (hr : l[j]? = some r) => hk1 (List.mem_of_getElem? hr) (Hu.lstC_no hj hr))
  have hF0 := Hu.fstC_le l
  have hL0 := Hu.lstC_le l
  have HF2 : Hid (rf.k ≠ 1) := hid (hk2 hf2)
  have HL2 : Hid (rl.k ≠ 1) := hid (hk2 hl3)
  obtain ⟨F, hF⟩ : ∃ F, F = Hu.fstC l := ⟨_, rfl⟩
  obtain ⟨G, hG⟩ : ∃ G, G = Hu.lstC l := ⟨_, rfl⟩
  rw [← hF] at HF hF0 hf1 ⊢
  rw [← hG] at HL hL0 hl1 hl2 ⊢
  obtain ⟨n, hn⟩ : ∃ n, n = l.length := ⟨_, rfl⟩
  have HN := hid hn
  rw [← hn] at hl hF0 hL0 ⊢
  obtain ⟨M, hM⟩ : ∃ M, M = n - G := ⟨_, rfl⟩
  rw [← hM]
  have HMG : Hid (M + G = n) := hid (by omega)
  have HFN : Hid (F < n) := hid (by have := (List.getElem?_eq_some_iff.1 hf1).1; omega)
  have HF1 := hid hf1
  have HLX := hid hl2
  have HG1 := hid hl1
  clear hv hf1 hf2 hl2 hl3 hF hG hn hM hl1 hF0 hL0 har har2 hk1 hk2
  go_enter Tryz.func49, Tryz.ntmps49
  go_wp2_with fail
  go_loopw [4] (fun ii wr => ∃ (k : Nat), k ≤ F ∧ ii = .int .i64 k ∧ w = wr) (fun ii _ => F - (intOf ii).toNat)
  case atStart => exact ⟨0, Nat.zero_le _, rfl, rfl⟩
  case round =>
    obtain ⟨k, hk, rfl, rfl⟩ := hrel
    by_cases hlt : k < F
    · obtain ⟨x, hx⟩ : ∃ x, l[k]? = some x := ⟨_, List.getElem?_eq_getElem (by have := HN.out; have := HFN.out; omega)⟩
      obtain ⟨b1, o1, e1, hb1, d0, d1⟩ := rdW_at HV.out hx
      subst e1
      rw [HF.out k x hlt hx] at d0
      have i1 : (0 : Int) ≤ (k : Int) := by omega
      have i2 : (k : Int) < (n : Int) := by have := HFN.out; omega
      clear hx hb1 d1
      go_wp2_with fail
      go_roundw
      case rel => exact ⟨k + 1, by omega, by go_num, by first | rfl | trivial⟩
      case measure => simp [intOf]; omega
    · obtain rfl : k = F := by omega
      obtain ⟨b1, o1, e1, hb1, d0, d1⟩ := rdW_at HV.out HF1.out
      subst e1
      have hz0 : (rf.k == 1) = false := by rw [beq_eq_false_iff_ne]; exact HF2.out
      have i1 : (0 : Int) ≤ (k : Int) := by omega
      have i2 : (k : Int) < (n : Int) := by have := HFN.out; omega
      clear hb1 d1
      go_wp2_with fail
      clear d0 hz0
      go_loopw [5] (fun ii wr => ∃ (j : Nat), j ≤ M ∧ ii = .int .i64 j ∧ w = wr) (fun ii _ => M - (intOf ii).toNat)
      case atStart => exact ⟨0, Nat.zero_le _, rfl, rfl⟩
      case round =>
        obtain ⟨j, hj, rfl, rfl⟩ := hrel
        have hmg := HMG.out
        have hg1 := HG1.out
        obtain ⟨p, hp⟩ : ∃ p, p + j + 1 = n := ⟨n - 1 - j, by omega⟩
        have s1 : IntKind.i64.wrap ((n : Int) - 1) = (n : Int) - 1 := wrapOk (by omega) (by omega)
        have s2 : IntKind.i64.wrap ((n : Int) - 1 - (j : Int)) = (p : Int) := (wrapOk (by omega) (by omega)).trans (by omega)
        have hjb : j < 6000000000000 := by omega
        have j1 : (0 : Int) ≤ (p : Int) := by omega
        have j2 : (p : Int) < (n : Int) := by omega
        by_cases hlt2 : j < M
        · obtain ⟨x, hx⟩ : ∃ x, l[p]? = some x := ⟨_, List.getElem?_eq_getElem (by have := HN.out; omega)⟩
          obtain ⟨b2, o2, e2, hb2, d0, d1⟩ := rdW_at HV.out hx
          cases e2
          rw [HL.out p x (by omega) hx] at d0
          clear hx hb2 d1 hp hmg hg1
          go_wp2_with fail
          go_roundw
          case rel => exact ⟨j + 1, by omega, by go_num, by first | rfl | trivial⟩
          case measure => simp [intOf]; omega
        · obtain rfl : j = M := by omega
          obtain rfl : p = G - 1 := by omega
          obtain ⟨b2, o2, e2, hb2, d0, d1⟩ := rdW_at HV.out HLX.out
          cases e2
          have hz1 : (rl.k == 1) = false := by rw [beq_eq_false_iff_ne]; exact HL2.out
          clear hb2 d1 hp hmg hg1
          go_wp2_with fail
          go_ret2
          exact ⟨rfl, rfl⟩
/-- do lines stand there? -/
def stdB (a o : List ByteArray) (P : Nat) : Bool := decide (P + o.length ≤ a.length) && decide ((a.drop P).take o.length = o)
set_option maxHeartbeats 1000000 in
theorem rStands_any {w : World} {vo va : Value} {o a : List ByteArray} {P : Nat} (ho : RdT w vo o) (ha : RdT w va a) (hlo : o.length < 8796093022200) (hla : a.length < 8796093022200) (hP : P ≤ 4294967296) :
    Calls Tryz.prog 48 #[vo, va, .int .i64 P] w fun e w' => e = .returned (.bool (stdB a o P)) ∧ Below w.heap.size w w' := by
  obtain ⟨oa, oc, rfl⟩ := ho.shape
  obtain ⟨aa, ac, rfl⟩ := ha.shape
  have HO := hid ho
  have HA := hid ha
  clear ho ha
  by_cases h1 : P ≤ a.length
  · have s1 : IntKind.i64.wrap ((a.length : Int) - (P : Int)) = (a.length : Int) - (P : Int) := wrapOk (by omega) (by omega)
    have n1 : ¬ (a.length : Int) < (P : Int) := by omega
    by_cases h2 : P + o.length ≤ a.length
    · have n2 : ¬ (a.length : Int) - (P : Int) < (o.length : Int) := by omega
      have HP2 := hid h2
      clear h1 h2
      go_enter Tryz.func48, Tryz.ntmps48
      go_wp2_with fail
      go_loopw [7] (fun i wr => ∃ k : Nat, k ≤ o.length ∧ i = .int .i64 k ∧ (∃ q, wr = w.drewN q) ∧ Hid (∀ (j : Nat) x, j < k → o[j]? = some x → a[P + j]? = some x)) (fun i _ => o.length - (intOf i).toNat)
      case atStart => exact ⟨0, Nat.zero_le _, rfl, ⟨0, rfl⟩, fun j x hj => by omega⟩
      case round =>
        obtain ⟨k, hk, rfl, ⟨q, rfl⟩, HJ⟩ := hrel
        by_cases hlt : k < o.length
        · obtain ⟨x, hx⟩ : ∃ x, o[k]? = some x := ⟨_, List.getElem?_eq_getElem hlt⟩
          have hltm : P + k < a.length := by have := HP2.out; omega
          obtain ⟨y, hy⟩ : ∃ y, a[P + k]? = some y := ⟨_, List.getElem?_eq_getElem hltm⟩
          obtain ⟨b1, o1, rfl, _, d1⟩ := rdT_at HO.out hx
          obtain ⟨b2, o2, rfl, _, d2⟩ := rdT_at HA.out hy
          have i1 : (0 : Int) ≤ (k : Int) := by omega
          have i2 : (k : Int) < (o.length : Int) := by omega
          obtain ⟨R, hR⟩ : ∃ R, R = P + k := ⟨_, rfl⟩
          rw [← hR] at d2 hy hltm
          have i3 : IntKind.i64.wrap ((P : Int) + (k : Int)) = (R : Int) := (wrapOk (by omega) (by omega)).trans (by omega)
          have i4 : (0 : Int) ≤ (R : Int) := by omega
          have i5 : (R : Int) < (a.length : Int) := by omega
          by_cases hxy : x = y
          · have hz2 : (y.toList == x.toList) = true := seqB hxy.symm
            have HJ2 : Hid (∀ (j : Nat) z, j < k + 1 → o[j]? = some z → a[P + j]? = some z) := hid (fun j z hj hz => by
              by_cases hjk : j = k
              · subst hjk; rw [hx] at hz; cases hz; rw [← hR, hy, hxy]
              · exact HJ.out j z (by omega) hz)
            clear HJ hx hy hxy hR hltm
            go_wp2
            go_quiet (fail)
            go_wp2
            go_roundw
            case rel => exact ⟨k + 1, by omega, by go_num, ⟨_, by first | rfl | exact World.drewN_drewN _ _ _⟩, HJ2⟩
            case measure => simp [intOf]; omega
          · have hz2 : (y.toList == x.toList) = false := sneB (fun e => hxy e.symm)
            have HE : Hid (stdB a o P = false) := hid (by
              unfold stdB
              rw [decide_eq_false (p := _ = o), Bool.and_false]
              intro e
              have h3 := hx
              rw [← e, List.getElem?_take, if_pos (by omega), List.getElem?_drop, ← hR, hy] at h3
              cases h3
              exact hxy rfl)
            clear HJ hx hy hxy hR hltm
            go_wp2
            go_quiet (fail)
            go_wp2
            go_ret
            exact ⟨ret_bool HE.out.symm, by first | exact below_drewN (below_drewN (Below.refl _ _) _) _ | exact below_drewN (Below.refl _ _) _⟩
        · have HE : Hid (stdB a o P = true) := hid (by
            unfold stdB
            rw [decide_eq_true HP2.out, Bool.true_and]
            refine decide_eq_true (List.ext_getElem? fun j => ?_)
            rw [List.getElem?_take]
            by_cases hj : j < o.length
            · rw [if_pos hj, List.getElem?_drop]
              obtain ⟨x, hx⟩ : ∃ x, o[j]? = some x := ⟨_, List.getElem?_eq_getElem hj⟩
              rw [hx]
              exact HJ.out j x (by omega) hx
            · rw [if_neg hj, List.getElem?_eq_none (by omega)])
          clear HJ
          go_wp2
          go_ret
          exact ⟨ret_bool HE.out.symm, below_drewN (Below.refl _ _) _⟩
    · have n2 : (a.length : Int) - (P : Int) < (o.length : Int) := by omega
      have HE : Hid (stdB a o P = false) := hid (by unfold stdB; rw [decide_eq_false h2]; rfl)
      clear h1 h2
      go_enter Tryz.func48, Tryz.ntmps48
      go_wp2
      go_ret
      exact ⟨ret_bool HE.out.symm, Below.refl _ _⟩
  · have n1 : (a.length : Int) < (P : Int) := by omega
    have HE : Hid (stdB a o P = false) := hid (by unfold stdB; rw [decide_eq_false (by omega)]; rfl)
    clear h1
    go_enter Tryz.func48, Tryz.ntmps48
    go_wp2
    go_ret
    exact ⟨ret_bool HE.out.symm, Below.refl _ _⟩
end Go.Proofs.YtddmfdjkkikapaaGreatDoor
/-
  The document's Sides and Valid of lines, by themselves.
-/
namespace Go.Proofs.YtddmfdjkkikapaaGreatDoor
open Go.RowKit
open Hu (Rw Hk)

theorem olds_more2 {l : List Rw} {k : Nat} {x : Rw} (h : l[k]? = some x) : Hu.olds (l.take (k + 1)) = Hu.olds (l.take k) ++ if Hu.isO x then [x.t] else [] := by
  rw [List.take_add_one, h, Hu.olds_app]
  cases hx : Hu.isO x <;> simp [Hu.olds, hx]
theorem fres_more2 {l : List Rw} {k : Nat} {x : Rw} (h : l[k]? = some x) : Hu.fres (l.take (k + 1)) = Hu.fres (l.take k) ++ if Hu.isF x then [x.t] else [] := by
  rw [List.take_add_one, h, Hu.fres_app]
  cases hx : Hu.isF x <;> simp [Hu.fres, hx]
set_option maxHeartbeats 4000000 in
set_option maxRecDepth 100000 in
theorem rSides_two {w : World} {h : Hk} {v : Value} (hv : RdW w v h.rows) (hl : h.rows.length < 5864062014800) :
    Calls Tryz.prog 46 #[HkV h v] w fun e w' => ∃ v1 v2, e = .returned (.tuple #[v1, v2]) ∧ Two2 w' w.heap.size v1 v2 (Hu.olds h.rows) (Hu.fres h.rows) ∧ Below w.heap.size w w' := by
  obtain ⟨av, cv, rfl⟩ := hv.shape
  have HV := hid hv
  obtain ⟨ha, hn', hb', hm', hh, l⟩ := h
  dsimp only at HV hl ⊢
  unfold HkV
  dsimp only
  obtain ⟨n, hn⟩ : ∃ n, n = l.length := ⟨_, rfl⟩
  have HN := hid hn
  rw [← hn] at HV hl ⊢
  clear hv hn
  have hb0 := (Below.refl w.heap.size w).alloc (Nat.le_refl _) (.cells #[.int .i64 ha, .int .i64 hn', .int .i64 hb', .int .i64 hm', .string hh, .slice av n cv] 37)
  have hk0 := heap_alloc_new w (.cells #[.int .i64 ha, .int .i64 hn', .int .i64 hb', .int .i64 hm', .string hh, .slice av n cv] 37)
  go_enter Tryz.func46, Tryz.ntmps46
  go_wp2_with fail
  obtain ⟨H, hH⟩ : ∃ H, H = w.heap.size := ⟨_, rfl⟩
  have HH := hid hH
  rw [← hH] at hk0 ⊢
  generalize w.alloc (.cells #[.int .i64 ha, .int .i64 hn', .int .i64 hb', .int .i64 hm', .string hh, .slice av n cv] 37) = w0 at hb0 hk0 ⊢
  have HB0 := hid hb0
  have HK0 := hid hk0
  clear hb0 hk0 hH
  go_loopw [4, 5, 6] (fun vo vf ii wr => ∃ (k : Nat) (O F : List ByteArray), k ≤ n ∧ ii = .int .i64 k ∧ Hid (O = Hu.olds (l.take k)) ∧ Hid (F = Hu.fres (l.take k)) ∧ Hid (Two2 wr w.heap.size vo vf O F) ∧ Hid (wr.heap[H]? = some (.cells #[.int .i64 ha, .int .i64 hn', .int .i64 hb', .int .i64 hm', .string hh, .slice av n cv] 37)) ∧ Hid (Below w.heap.size w wr)) (fun _ _ ii _ => n - (intOf ii).toNat)
  case atStart => exact ⟨0, [], [], Nat.zero_le _, rfl, hid rfl, hid rfl, hid ⟨World.ownsRow_nil _ _ _ _, World.ownsRow_nil _ _ _ _, fun k h => by cases h⟩, HK0, HB0⟩
  case round =>
    obtain ⟨k, O, F, hk, rfl, HOE, HFE, HT, HK, HB⟩ := hrel
    obtain ⟨ao, co, rfl⟩ := own_shape HT.out.1
    obtain ⟨af, cf, rfl⟩ := own_shape HT.out.2.1
    have c5 : wr.cell? ⟨H, 5, none⟩ = some (.slice av n cv) := cell_of_blk HK.out 5
    by_cases hlt : k < n
    · obtain ⟨x, hx⟩ : ∃ x, l[k]? = some x := ⟨_, List.getElem?_eq_getElem (by have := HN.out; omega)⟩
      obtain ⟨b1, o1, e1, hb1, d0, d1⟩ := rdW_at HV.out hx
      subst e1
      have HCE := hid (fun w1 (h : Below w.heap.size w w1) => And.intro ((h.cell (p := ⟨b1, _, none⟩) hb1).trans d0) ((h.cell (p := ⟨b1, _, none⟩) hb1).trans d1))
      have HOM := hid (olds_more2 hx)
      have HFM := hid (fres_more2 hx)
      have HC1 := hid (fun w1 => rOld_any x w1)
      have HC2 := hid (fun w1 => rFresh_any x w1)
      have i1 : (0 : Int) ≤ (k : Int) := by omega
      have i2 : (k : Int) < (n : Int) := by omega
      have hOl : O.length < 8796093022200 := by have h1 : O.length ≤ n := (by rw [HOE.out]; exact Nat.le_trans (Hu.olds_len _) (by rw [List.length_take]; omega)); omega
      have hFl : F.length < 8796093022200 := by have h1 : F.length ≤ n := (by rw [HFE.out]; exact Nat.le_trans (Hu.fres_len _) (by rw [List.length_take]; omega)); omega
      unfold RwV at HC1 HC2
      obtain ⟨xk, xt⟩ := x
      dsimp only at HC1 HC2 HCE HOM HFM
      clear hx hb1 d0 d1
      obtain ⟨d0, d1⟩ := HCE.out _ HB.out
      cases hqo : Hu.isO ⟨xk, xt⟩ with
      | true =>
        rw [hqo] at HC1 HOM
        obtain ⟨O1, hO1⟩ : ∃ O1, O1 = O ++ [xt] := ⟨_, rfl⟩
        have HO1 : Hid (O1 = O ++ [xt]) := hid (by rw [hO1])
        have HOX : Hid (O1 = Hu.olds (l.take (k + 1))) := hid (by rw [HOM.out, hO1, HOE.out]; rfl)
        clear hO1
        cases hqf : Hu.isF ⟨xk, xt⟩ with
        | true =>
          rw [hqf] at HC2 HFM
          obtain ⟨F1, hF1⟩ : ∃ F1, F1 = F ++ [xt] := ⟨_, rfl⟩
          have HF1 : Hid (F1 = F ++ [xt]) := hid (by rw [hF1])
          have HFX : Hid (F1 = Hu.fres (l.take (k + 1))) := hid (by rw [HFM.out, hF1, HFE.out]; rfl)
          clear hF1 hqo hqf
          go_wp2_with fail
          refine (HC1.out _).mono ?_
          rintro e w2 ⟨rfl, hb2⟩
          have HT2 : Hid (Two2 w2 w.heap.size (.slice ao O.length co) (.slice af F.length cf) O F) := hid ⟨own_stays HT.out.1 hb2, own_stays HT.out.2.1 hb2, HT.out.2.2⟩
          have HK2 := hid ((hb2.block H (lt_of_heap HK.out)).trans HK.out)
          have HB2 := hid (HB.out.trans (hb2.mono HB.out.size))
          clear hb2 c5 d0 d1
          have c5 : w2.cell? ⟨H, 5, none⟩ = some (.slice (some ⟨b1, o1, none⟩) n cv) := cell_of_blk HK2.out 5
          obtain ⟨d0, d1⟩ := HCE.out _ HB2.out
          have hbn := (Below.refl w2.heap.size w2).alloc (Nat.le_refl _) (.cells #[.string xt] 9)
          have HO3 := hid (own_stays HT2.out.1 hbn)
          have HF3 := hid (own_stays HT2.out.2.1 hbn)
          have HK3 := hid ((hbn.block H (lt_of_heap HK2.out)).trans HK2.out)
          have HB3 := hid (HB2.out.trans (hbn.mono HB2.out.size))
          have HHT : Hid ((Value.slice ao O.length co).ownBlock ≠ some H) := hid (own_ne HT2.out.1 HK2.out (by decide))
          clear hbn
          go_wp2_with (at_builtin; refine wpList_append_st rfl _ _ rfl w.heap.size _ O rfl HO3.out w2.heap.size xt rfl (heap_alloc_new w2 _) hOl HB3.out.size ?_; intro v4 w4 hO4 hg4 hl4 hb4; rw [← HO1.out] at hO4; obtain ⟨a4, c4, e4⟩ := own_shape hO4; subst e4; have HT4 : Hid (Two2 w4 w.heap.size (.slice a4 O1.length c4) (.slice af F.length cf) O1 F) := hid ⟨hO4, kept_row HF3.out hg4 HT2.out.2.2, apart_new HF3.out HT2.out.2.2 hl4⟩; have HK4 := hid ((hg4.block H (lt_of_heap HK3.out) (fun e => HHT.out e.symm)).trans HK3.out); have HB4 := hid (HB3.out.trans hb4); clear hO4 hg4 hl4 hb4 c5 d0 d1; have c5 : w4.cell? ⟨H, 5, none⟩ = some (.slice (some ⟨b1, o1, none⟩) n cv) := cell_of_blk HK4.out 5; obtain ⟨d0, d1⟩ := HCE.out _ HB4.out)
          refine (HC2.out _).mono ?_
          rintro e w5 ⟨rfl, hb5⟩
          have HT5 : Hid (Two2 w5 w.heap.size (.slice a4 O1.length c4) (.slice af F.length cf) O1 F) := hid ⟨own_stays HT4.out.1 hb5, own_stays HT4.out.2.1 hb5, HT4.out.2.2⟩
          have HK5 := hid ((hb5.block H (lt_of_heap HK4.out)).trans HK4.out)
          have HB5 := hid (HB4.out.trans (hb5.mono HB4.out.size))
          clear hb5 c5 d0 d1
          have c5 : w5.cell? ⟨H, 5, none⟩ = some (.slice (some ⟨b1, o1, none⟩) n cv) := cell_of_blk HK5.out 5
          obtain ⟨d0, d1⟩ := HCE.out _ HB5.out
          have hbn := (Below.refl w5.heap.size w5).alloc (Nat.le_refl _) (.cells #[.string xt] 9)
          have HO6 := hid (own_stays HT5.out.1 hbn)
          have HF6 := hid (own_stays HT5.out.2.1 hbn)
          have HK6 := hid ((hbn.block H (lt_of_heap HK5.out)).trans HK5.out)
          have HB6 := hid (HB5.out.trans (hbn.mono HB5.out.size))
          have HHF : Hid ((Value.slice af F.length cf).ownBlock ≠ some H) := hid (own_ne HT5.out.2.1 HK5.out (by decide))
          clear hbn
          go_wp2_with (at_builtin; refine wpList_append_st rfl _ _ rfl w.heap.size _ F rfl HF6.out w5.heap.size xt rfl (heap_alloc_new w5 _) hFl HB6.out.size ?_; intro v7 w7 hO7 hg7 hl7 hb7; rw [← HF1.out] at hO7; have HT7 : Hid (Two2 w7 w.heap.size (.slice a4 O1.length c4) v7 O1 F1) := hid ⟨kept_row HO6.out hg7 HT5.out.2.2.symm, hO7, (apart_new HO6.out HT5.out.2.2.symm hl7).symm⟩; have HK7 := hid ((hg7.block H (lt_of_heap HK6.out) (fun e => HHF.out e.symm)).trans HK6.out); have HB7 := hid (HB6.out.trans hb7); clear hO7 hg7 hl7 hb7)
          go_roundw
          case rel => exact ⟨k + 1, O1, F1, by omega, by go_num, HOX, HFX, HT7, HK7, HB7⟩
          case measure => simp [intOf]; omega
        | false =>
          rw [hqf] at HC2 HFM
          obtain ⟨F1, hF1⟩ : ∃ F1, F1 = F ++ [] := ⟨_, rfl⟩
          have HF1 : Hid (F1 = F) := hid (by rw [hF1]; simp)
          have HFX : Hid (F1 = Hu.fres (l.take (k + 1))) := hid (by rw [HFM.out, hF1, HFE.out]; rfl)
          clear hF1 hqo hqf
          go_wp2_with fail
          refine (HC1.out _).mono ?_
          rintro e w2 ⟨rfl, hb2⟩
          have HT2 : Hid (Two2 w2 w.heap.size (.slice ao O.length co) (.slice af F.length cf) O F) := hid ⟨own_stays HT.out.1 hb2, own_stays HT.out.2.1 hb2, HT.out.2.2⟩
          have HK2 := hid ((hb2.block H (lt_of_heap HK.out)).trans HK.out)
          have HB2 := hid (HB.out.trans (hb2.mono HB.out.size))
          clear hb2 c5 d0 d1
          have c5 : w2.cell? ⟨H, 5, none⟩ = some (.slice (some ⟨b1, o1, none⟩) n cv) := cell_of_blk HK2.out 5
          obtain ⟨d0, d1⟩ := HCE.out _ HB2.out
          have hbn := (Below.refl w2.heap.size w2).alloc (Nat.le_refl _) (.cells #[.string xt] 9)
          have HO3 := hid (own_stays HT2.out.1 hbn)
          have HF3 := hid (own_stays HT2.out.2.1 hbn)
          have HK3 := hid ((hbn.block H (lt_of_heap HK2.out)).trans HK2.out)
          have HB3 := hid (HB2.out.trans (hbn.mono HB2.out.size))
          have HHT : Hid ((Value.slice ao O.length co).ownBlock ≠ some H) := hid (own_ne HT2.out.1 HK2.out (by decide))
          clear hbn
          go_wp2_with (at_builtin; refine wpList_append_st rfl _ _ rfl w.heap.size _ O rfl HO3.out w2.heap.size xt rfl (heap_alloc_new w2 _) hOl HB3.out.size ?_; intro v4 w4 hO4 hg4 hl4 hb4; rw [← HO1.out] at hO4; obtain ⟨a4, c4, e4⟩ := own_shape hO4; subst e4; have HT4 : Hid (Two2 w4 w.heap.size (.slice a4 O1.length c4) (.slice af F.length cf) O1 F) := hid ⟨hO4, kept_row HF3.out hg4 HT2.out.2.2, apart_new HF3.out HT2.out.2.2 hl4⟩; have HK4 := hid ((hg4.block H (lt_of_heap HK3.out) (fun e => HHT.out e.symm)).trans HK3.out); have HB4 := hid (HB3.out.trans hb4); clear hO4 hg4 hl4 hb4 c5 d0 d1; have c5 : w4.cell? ⟨H, 5, none⟩ = some (.slice (some ⟨b1, o1, none⟩) n cv) := cell_of_blk HK4.out 5; obtain ⟨d0, d1⟩ := HCE.out _ HB4.out)
          refine (HC2.out _).mono ?_
          rintro e w5 ⟨rfl, hb5⟩
          have HT5 : Hid (Two2 w5 w.heap.size (.slice a4 O1.length c4) (.slice af F.length cf) O1 F) := hid ⟨own_stays HT4.out.1 hb5, own_stays HT4.out.2.1 hb5, HT4.out.2.2⟩
          have HK5 := hid ((hb5.block H (lt_of_heap HK4.out)).trans HK4.out)
          have HB5 := hid (HB4.out.trans (hb5.mono HB4.out.size))
          clear hb5 c5 d0 d1
          have c5 : w5.cell? ⟨H, 5, none⟩ = some (.slice (some ⟨b1, o1, none⟩) n cv) := cell_of_blk HK5.out 5
          obtain ⟨d0, d1⟩ := HCE.out _ HB5.out
          go_wp2_with fail
          go_roundw
          case rel => exact ⟨k + 1, O1, F1, by omega, by go_num, HOX, HFX, hid (by rw [HF1.out]; exact HT5.out), HK5, HB5⟩
          case measure => simp [intOf]; omega
      | false =>
        rw [hqo] at HC1 HOM
        obtain ⟨O1, hO1⟩ : ∃ O1, O1 = O ++ [] := ⟨_, rfl⟩
        have HO1 : Hid (O1 = O) := hid (by rw [hO1]; simp)
        have HOX : Hid (O1 = Hu.olds (l.take (k + 1))) := hid (by rw [HOM.out, hO1, HOE.out]; rfl)
        clear hO1
        cases hqf : Hu.isF ⟨xk, xt⟩ with
        | true =>
          rw [hqf] at HC2 HFM
          obtain ⟨F1, hF1⟩ : ∃ F1, F1 = F ++ [xt] := ⟨_, rfl⟩
          have HF1 : Hid (F1 = F ++ [xt]) := hid (by rw [hF1])
          have HFX : Hid (F1 = Hu.fres (l.take (k + 1))) := hid (by rw [HFM.out, hF1, HFE.out]; rfl)
          clear hF1 hqo hqf
          go_wp2_with fail
          refine (HC1.out _).mono ?_
          rintro e w2 ⟨rfl, hb2⟩
          have HT2 : Hid (Two2 w2 w.heap.size (.slice ao O.length co) (.slice af F.length cf) O F) := hid ⟨own_stays HT.out.1 hb2, own_stays HT.out.2.1 hb2, HT.out.2.2⟩
          have HK2 := hid ((hb2.block H (lt_of_heap HK.out)).trans HK.out)
          have HB2 := hid (HB.out.trans (hb2.mono HB.out.size))
          clear hb2 c5 d0 d1
          have c5 : w2.cell? ⟨H, 5, none⟩ = some (.slice (some ⟨b1, o1, none⟩) n cv) := cell_of_blk HK2.out 5
          obtain ⟨d0, d1⟩ := HCE.out _ HB2.out
          have HT4 : Hid (Two2 w2 w.heap.size (.slice ao O1.length co) (.slice af F.length cf) O1 F) := hid (by rw [HO1.out]; exact HT2.out)
          have hO1l : O1.length = O.length := by rw [HO1.out]
          obtain ⟨w4, hw4⟩ : ∃ w4, w4 = w2 := ⟨_, rfl⟩
          have HK4 := HK2
          have HB4 := HB2
          rw [← hw4] at HT4 HK4 HB4 c5 d0 d1 ⊢
          rw [← hO1l]
          clear hw4 hO1l
          go_wp2_with fail
          refine (HC2.out _).mono ?_
          rintro e w5 ⟨rfl, hb5⟩
          have HT5 : Hid (Two2 w5 w.heap.size (.slice ao O1.length co) (.slice af F.length cf) O1 F) := hid ⟨own_stays HT4.out.1 hb5, own_stays HT4.out.2.1 hb5, HT4.out.2.2⟩
          have HK5 := hid ((hb5.block H (lt_of_heap HK4.out)).trans HK4.out)
          have HB5 := hid (HB4.out.trans (hb5.mono HB4.out.size))
          clear hb5 c5 d0 d1
          have c5 : w5.cell? ⟨H, 5, none⟩ = some (.slice (some ⟨b1, o1, none⟩) n cv) := cell_of_blk HK5.out 5
          obtain ⟨d0, d1⟩ := HCE.out _ HB5.out
          have hbn := (Below.refl w5.heap.size w5).alloc (Nat.le_refl _) (.cells #[.string xt] 9)
          have HO6 := hid (own_stays HT5.out.1 hbn)
          have HF6 := hid (own_stays HT5.out.2.1 hbn)
          have HK6 := hid ((hbn.block H (lt_of_heap HK5.out)).trans HK5.out)
          have HB6 := hid (HB5.out.trans (hbn.mono HB5.out.size))
          have HHF : Hid ((Value.slice af F.length cf).ownBlock ≠ some H) := hid (own_ne HT5.out.2.1 HK5.out (by decide))
          clear hbn
          go_wp2_with (at_builtin; refine wpList_append_st rfl _ _ rfl w.heap.size _ F rfl HF6.out w5.heap.size xt rfl (heap_alloc_new w5 _) hFl HB6.out.size ?_; intro v7 w7 hO7 hg7 hl7 hb7; rw [← HF1.out] at hO7; have HT7 : Hid (Two2 w7 w.heap.size (.slice ao O1.length co) v7 O1 F1) := hid ⟨kept_row HO6.out hg7 HT5.out.2.2.symm, hO7, (apart_new HO6.out HT5.out.2.2.symm hl7).symm⟩; have HK7 := hid ((hg7.block H (lt_of_heap HK6.out) (fun e => HHF.out e.symm)).trans HK6.out); have HB7 := hid (HB6.out.trans hb7); clear hO7 hg7 hl7 hb7)
          go_roundw
          case rel => exact ⟨k + 1, O1, F1, by omega, by go_num, HOX, HFX, HT7, HK7, HB7⟩
          case measure => simp [intOf]; omega
        | false =>
          rw [hqf] at HC2 HFM
          obtain ⟨F1, hF1⟩ : ∃ F1, F1 = F ++ [] := ⟨_, rfl⟩
          have HF1 : Hid (F1 = F) := hid (by rw [hF1]; simp)
          have HFX : Hid (F1 = Hu.fres (l.take (k + 1))) := hid (by rw [HFM.out, hF1, HFE.out]; rfl)
          clear hF1 hqo hqf
          go_wp2_with fail
          refine (HC1.out _).mono ?_
          rintro e w2 ⟨rfl, hb2⟩
          have HT2 : Hid (Two2 w2 w.heap.size (.slice ao O.length co) (.slice af F.length cf) O F) := hid ⟨own_stays HT.out.1 hb2, own_stays HT.out.2.1 hb2, HT.out.2.2⟩
          have HK2 := hid ((hb2.block H (lt_of_heap HK.out)).trans HK.out)
          have HB2 := hid (HB.out.trans (hb2.mono HB.out.size))
          clear hb2 c5 d0 d1
          have c5 : w2.cell? ⟨H, 5, none⟩ = some (.slice (some ⟨b1, o1, none⟩) n cv) := cell_of_blk HK2.out 5
          obtain ⟨d0, d1⟩ := HCE.out _ HB2.out
          have HT4 : Hid (Two2 w2 w.heap.size (.slice ao O1.length co) (.slice af F.length cf) O1 F) := hid (by rw [HO1.out]; exact HT2.out)
          have hO1l : O1.length = O.length := by rw [HO1.out]
          obtain ⟨w4, hw4⟩ : ∃ w4, w4 = w2 := ⟨_, rfl⟩
          have HK4 := HK2
          have HB4 := HB2
          rw [← hw4] at HT4 HK4 HB4 c5 d0 d1 ⊢
          rw [← hO1l]
          clear hw4 hO1l
          go_wp2_with fail
          refine (HC2.out _).mono ?_
          rintro e w5 ⟨rfl, hb5⟩
          have HT5 : Hid (Two2 w5 w.heap.size (.slice ao O1.length co) (.slice af F.length cf) O1 F) := hid ⟨own_stays HT4.out.1 hb5, own_stays HT4.out.2.1 hb5, HT4.out.2.2⟩
          have HK5 := hid ((hb5.block H (lt_of_heap HK4.out)).trans HK4.out)
          have HB5 := hid (HB4.out.trans (hb5.mono HB4.out.size))
          clear hb5 c5 d0 d1
          have c5 : w5.cell? ⟨H, 5, none⟩ = some (.slice (some ⟨b1, o1, none⟩) n cv) := cell_of_blk HK5.out 5
          obtain ⟨d0, d1⟩ := HCE.out _ HB5.out
          go_wp2_with fail
          go_roundw
          case rel => exact ⟨k + 1, O1, F1, by omega, by go_num, HOX, HFX, hid (by rw [HF1.out]; exact HT5.out), HK5, HB5⟩
          case measure => simp [intOf]; omega
    · obtain rfl : k = n := by omega
      have HE1 : Hid (O = Hu.olds l) := hid (by rw [HOE.out, List.take_of_length_le (by have := HN.out; omega)])
      have HE2 : Hid (F = Hu.fres l) := hid (by rw [HFE.out, List.take_of_length_le (by have := HN.out; omega)])
      go_wp2_with fail
      go_ret2
      exact ⟨_, _, rfl, by rw [← HE1.out, ← HE2.out]; exact HT.out, HB.out⟩
theorem rLinesValid_two {w : World} {v : Value} {l : List ByteArray} (hv : RdT w v l) (hl : l.length ≤ 140737488355328) (hs : ∀ x ∈ l, x.size ≤ maxLen) :
    Calls Tryz.prog 44 #[v] w fun e w' => e = .returned (.bool (Hu.valS l)) ∧ w' = w := by
  rcases hv with ⟨h0, a, c, rfl⟩ | ⟨b, o, c, rfl, _, _, hX⟩
  · have e : l = [] := List.length_eq_zero_iff.1 h0
    subst e
    exact Cx.refValid_none a c w
  · exact Cx.refValid_any b o c l w (fun j x hj => hX j _ (stC_get hj)) hl hs
end Go.Proofs.YtddmfdjkkikapaaGreatDoor
