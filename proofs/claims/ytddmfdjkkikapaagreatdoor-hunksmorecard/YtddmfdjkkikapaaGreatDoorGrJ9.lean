/-
  Several texts in one: J9, C7, Ja.
-/
import Derived.Test.YtddmfdjkkikapaaGreatDoorGrJ6
import Derived.Test.YtddmfdjkkikapaaGreatDoorGrC4
import Derived.Test.YtddmfdjkkikapaaGreatDoorGrC
import Derived.Deep.DeepCutAuto
/-
  The walks of hunk and endsFit.
-/
namespace Go.Proofs.YtddmfdjkkikapaaGreatDoor
open Go.RowKit
open Hu (Rw Hk)
open Ed (Ch)

set_option maxHeartbeats 4000000 in
set_option maxRecDepth 100000 in
theorem hunk_any {w : World} {v : Value} {l : List Rw} {x y : Int} (hv : RdW w v l) (hl : l.length < 5864062014800) (hk : Kd l) (hx0 : -4611686018427387904 ≤ x) (hx1 : x ≤ 4611686018427387904) (hy0 : -4611686018427387904 ≤ y) (hy1 : y ≤ 4611686018427387904) :
    Calls Tryz.prog 73 #[SpV x y, v] w fun e w' => e = .returned (HkV (Hu.hunkAt x y l) v) ∧ Below w.heap.size w w' := by
  have HBH := hid (fun w1 (hb : Below w.heap.size w w1) => behind_any (x := x) (y := y) (hv.below hb) hl hk hx0 hx1 hy0 hy1)
  have hol := Hu.olds_len l
  have hfl := Hu.fres_len l
  have HT1 := hid (fun w1 => told_any x (Hu.olds l).length w1 (by omega) (by omega))
  have HT2 := hid (fun w1 => told_any y (Hu.fres l).length w1 (by omega) (by omega))
  unfold SpV at HBH ⊢
  unfold HkV Hu.hunkAt
  dsimp only
  obtain ⟨av, cv, rfl⟩ := hv.shape
  obtain ⟨n, hn⟩ : ∃ n, n = l.length := ⟨_, rfl⟩
  rw [← hn] at HBH hl hol hfl ⊢
  generalize Hu.told x (Hu.olds l).length = TX at HT1 ⊢
  generalize Hu.told y (Hu.fres l).length = TY at HT2 ⊢
  generalize (Hu.olds l).length = o at HBH HT1 hol ⊢
  generalize (Hu.fres l).length = f at HBH HT2 hfl ⊢
  clear hv hn hk
  have hb0 := (Below.refl w.heap.size w).alloc (Nat.le_refl _) (.cells #[.int .i64 x, .int .i64 y] 78)
  have hb1 := hb0.alloc hb0.size (.cells #[.int .i64 0, .int .i64 0, .int .i64 0, .int .i64 0, .string ⟨#[]⟩, .slice none 0 0] 37)
  have hk1 : ((w.alloc (.cells #[.int .i64 x, .int .i64 y] 78)).alloc (.cells #[.int .i64 0, .int .i64 0, .int .i64 0, .int .i64 0, .string ⟨#[]⟩, .slice none 0 0] 37)).heap[w.heap.size]? = some (.cells #[.int .i64 x, .int .i64 y] 78) := (((Below.refl _ _).alloc (Nat.le_refl _) _).block w.heap.size (by simp)).trans (heap_alloc_new w _)
  have hk2 : ((w.alloc (.cells #[.int .i64 x, .int .i64 y] 78)).alloc (.cells #[.int .i64 0, .int .i64 0, .int .i64 0, .int .i64 0, .string ⟨#[]⟩, .slice none 0 0] 37)).heap[w.heap.size + 1]? = some (.cells #[.int .i64 0, .int .i64 0, .int .i64 0, .int .i64 0, .string ⟨#[]⟩, .slice none 0 0] 37) := by
    have := heap_alloc_new (w.alloc (.cells #[.int .i64 x, .int .i64 y] 78)) (.cells #[.int .i64 0, .int .i64 0, .int .i64 0, .int .i64 0, .string ⟨#[]⟩, .slice none 0 0] 37)
    simpa using this
  go_enter Tryz.func73, Tryz.ntmps73
  go_wp2_with fail
  generalize ((w.alloc (.cells #[.int .i64 x, .int .i64 y] 78)).alloc (.cells #[.int .i64 0, .int .i64 0, .int .i64 0, .int .i64 0, .string ⟨#[]⟩, .slice none 0 0] 37)) = w1 at hb1 hk1 hk2 ⊢
  obtain ⟨S, hS⟩ : ∃ S, S = w.heap.size := ⟨_, rfl⟩
  obtain ⟨R, hR⟩ : ∃ R, R = w.heap.size + 1 := ⟨_, rfl⟩
  rw [← hR, ← hS]
  rw [← hS] at hk1
  rw [← hR] at hk2
  have HWR : Hid (w.heap.size ≤ R) := hid (by omega)
  clear hb0 hS hR
  refine (HBH.out w1 hb1).mono ?_
  rintro e w2 ⟨rfl, h2⟩
  have HB2 := hid (hb1.trans (h2.mono hb1.size))
  have HS2 := hid ((h2.block S (lt_of_heap hk1)).trans hk1)
  have HR2 := hid ((h2.block R (lt_of_heap hk2)).trans hk2)
  have hbn := (Below.refl w2.heap.size w2).alloc (Nat.le_refl _) (.cells #[.int .i64 (x + (o : Int)), .int .i64 (y + (f : Int))] 78)
  have HB3 := hid (HB2.out.alloc HB2.out.size (.cells #[.int .i64 (x + (o : Int)), .int .i64 (y + (f : Int))] 78))
  have HS3 := hid ((hbn.block S (lt_of_heap HS2.out)).trans HS2.out)
  have HR3 := hid ((hbn.block R (lt_of_heap HR2.out)).trans HR2.out)
  have HE3 := hid (heap_alloc_new w2 (.cells #[.int .i64 (x + (o : Int)), .int .i64 (y + (f : Int))] 78))
  have t0 : (w2.alloc (.cells #[.int .i64 (x + (o : Int)), .int .i64 (y + (f : Int))] 78)).cell? ⟨S, 0, none⟩ = some (.int .i64 x) := cell_of_blk HS3.out 0
  have t1 : (w2.alloc (.cells #[.int .i64 (x + (o : Int)), .int .i64 (y + (f : Int))] 78)).cell? ⟨S, 1, none⟩ = some (.int .i64 y) := cell_of_blk HS3.out 1
  have i1 : IntKind.i64.wrap (x + (o : Int) - x) = (o : Int) := (wrapOk (by omega) (by omega)).trans (by omega)
  have i2 : IntKind.i64.wrap (y + (f : Int) - y) = (f : Int) := (wrapOk (by omega) (by omega)).trans (by omega)
  clear hb1 hk1 hk2 h2 hbn
  go_wp2_with fail
  go_quiet (fail)
  have HB4 := hid (below_drewN HB3.out nq)
  have HS4 : Hid (((w2.alloc (.cells #[.int .i64 (x + (o : Int)), .int .i64 (y + (f : Int))] 78)).drewN nq).heap[S]? = some (.cells #[.int .i64 x, .int .i64 y] 78)) := hid HS3.out
  have HR4 : Hid (((w2.alloc (.cells #[.int .i64 (x + (o : Int)), .int .i64 (y + (f : Int))] 78)).drewN nq).heap[R]? = some (.cells #[.int .i64 0, .int .i64 0, .int .i64 0, .int .i64 0, .string ⟨#[]⟩, .slice none 0 0] 37)) := hid HR3.out
  generalize (w2.alloc (.cells #[.int .i64 (x + (o : Int)), .int .i64 (y + (f : Int))] 78)).drewN nq = w4 at HB4 HS4 HR4 ⊢
  have u0 : w4.cell? ⟨S, 0, none⟩ = some (.int .i64 x) := cell_of_blk HS4.out 0
  have u1 : w4.cell? ⟨S, 1, none⟩ = some (.int .i64 y) := cell_of_blk HS4.out 1
  clear t0 t1 HS3 HR3 HB3 HE3
  go_wp2_with fail
  refine wp_region_qtail 12 (by kernel_rfl) (by kernel_rfl) ?_
  simp only [List.take_succ_cons, List.take_zero, List.drop_succ_cons, List.drop_zero]
  repeat go_big_quiet_step (fail)
  go_big_quiet_want
  go_big_quiet_op
  refine ⟨_, HT1.out _, ?_⟩
  go_big_quiet_on
  repeat go_big_quiet_step (fail)
  go_big_quiet_want
  go_big_quiet_op
  refine ⟨_, HT2.out _, ?_⟩
  go_big_quiet_on
  repeat go_big_quiet_step (fail)
  refine wpQuiet_nil ?_
  have HB5 := hid (below_drewN HB4.out 1)
  have HR5 : Hid ((w4.drewN 1).heap[R]? = some (.cells #[.int .i64 0, .int .i64 0, .int .i64 0, .int .i64 0, .string ⟨#[]⟩, .slice none 0 0] 37)) := hid HR4.out
  generalize w4.drewN 1 = w5 at HB5 HR5 ⊢
  have z0 : w5.cell? ⟨R, 0, none⟩ = some (.int .i64 0) := cell_of_blk HR5.out 0
  have z1 : w5.cell? ⟨R, 1, none⟩ = some (.int .i64 0) := cell_of_blk HR5.out 1
  have z2 : w5.cell? ⟨R, 2, none⟩ = some (.int .i64 0) := cell_of_blk HR5.out 2
  have z3 : w5.cell? ⟨R, 3, none⟩ = some (.int .i64 0) := cell_of_blk HR5.out 3
  have z4 : w5.cell? ⟨R, 4, none⟩ = some (.string ⟨#[]⟩) := cell_of_blk HR5.out 4
  have z5 : w5.cell? ⟨R, 5, none⟩ = some (.slice none 0 0) := cell_of_blk HR5.out 5
  have zf : ∀ j, w5.frozen? ⟨R, j, none⟩ = false := fun j => frozen_of_blk HR5.out j
  clear u0 u1 HB4 HS4 HR4
  have hk6 := set_heap _ R 5 _ _ (.slice av n cv) (set_heap _ R 4 _ _ (.string ⟨#[]⟩) (set_heap _ R 3 _ _ (.int .i64 (f : Int)) (set_heap _ R 2 _ _ (.int .i64 TY) (set_heap _ R 1 _ _ (.int .i64 (o : Int)) (set_heap _ R 0 _ _ (.int .i64 TX) HR5.out)))))
  have HB6 := hid (below_set (k := 5) (u := .slice av n cv) (below_set (k := 4) (u := .string ⟨#[]⟩) (below_set (k := 3) (u := .int .i64 (f : Int)) (below_set (k := 2) (u := .int .i64 TY) (below_set (k := 1) (u := .int .i64 (o : Int)) (below_set (k := 0) (u := .int .i64 TX) HB5.out HWR.out) HWR.out) HWR.out) HWR.out) HWR.out) HWR.out)
  go_wp2_with fail
  generalize ((((((w5.setCell ⟨R, 0, none⟩ (.int .i64 TX)).setCell ⟨R, 1, none⟩ (.int .i64 (o : Int))).setCell ⟨R, 2, none⟩ (.int .i64 TY)).setCell ⟨R, 3, none⟩ (.int .i64 (f : Int))).setCell ⟨R, 4, none⟩ (.string ⟨#[]⟩)).setCell ⟨R, 5, none⟩ (.slice av n cv)) = w6 at hk6 HB6 ⊢
  have y0 : w6.cell? ⟨R, 0, none⟩ = some (.int .i64 TX) := cell_of_blk hk6 0
  have y1 : w6.cell? ⟨R, 1, none⟩ = some (.int .i64 (o : Int)) := cell_of_blk hk6 1
  have y2 : w6.cell? ⟨R, 2, none⟩ = some (.int .i64 TY) := cell_of_blk hk6 2
  have y3 : w6.cell? ⟨R, 3, none⟩ = some (.int .i64 (f : Int)) := cell_of_blk hk6 3
  have y4 : w6.cell? ⟨R, 4, none⟩ = some (.string ⟨#[]⟩) := cell_of_blk hk6 4
  have y5 : w6.cell? ⟨R, 5, none⟩ = some (.slice av n cv) := cell_of_blk hk6 5
  exact bodyPost_ret (v := .agg #[.int .i64 TX, .int .i64 (o : Int), .int .i64 TY, .int .i64 (f : Int), .string ⟨#[]⟩, .slice av n cv]) (by simp [results, Tryz.results73, go_sem, y0, y1, y2, y3, y4, y5]) rfl ⟨rfl, HB6.out⟩
end Go.Proofs.YtddmfdjkkikapaaGreatDoor
/-
  The walks of Cost, and of the document's Valid and Cost.
-/
namespace Go.Proofs.YtddmfdjkkikapaaGreatDoor
open Go.RowKit
open Ed (Ch Run Pr)

theorem costO_at {s : List Ch} {k : Nat} {c : Ch} {x y : Int} (h : s[k]? = some c) : Ed.costO (s.drop k) x y = if c.a < 0 ∨ c.n < 0 ∨ c.b < 0 ∨ c.m < 0 ∨ 4611686018427387904 - x < c.n ∨ 4611686018427387904 - y < c.m then none else Ed.costO (s.drop (k + 1)) (x + c.n) (y + c.m) := by
  rw [drop_at h]; rfl
theorem min_neg (a n b m : Int) : (if m < (if b < (if n < a then n else a) then b else (if n < a then n else a)) then m else (if b < (if n < a then n else a) then b else (if n < a then n else a))) < 0 ↔ (a < 0 ∨ n < 0 ∨ b < 0 ∨ m < 0) := by
  (repeat' split) <;> omega
theorem run_min2 (x y : Int) (w : World) : (Builtin.min2 (.int .i64 x) (.int .i64 y)).run Tryz.prog w = .ok (.int .i64 (if y < x then y else x)) w := by
  by_cases h : y < x <;> simp [Builtin.min2, go_sem, h]
theorem run_min4 (a n b m : Int) (w : World) : (Builtin.min_ #[3, 3, 3, 3] 3 #[.int .i64 a, .int .i64 n, .int .i64 b, .int .i64 m]).run Tryz.prog w = .ok (.int .i64 (if m < (if b < (if n < a then n else a) then b else (if n < a then n else a)) then m else (if b < (if n < a then n else a) then b else (if n < a then n else a)))) w := by
  simp [Builtin.min_, go_sem, run_min2]
theorem cost_none {s : List Ch} (h : Ed.costO s 0 0 = none) : Ed.costP s = (0, 0) := by unfold Ed.costP; rw [h]; rfl
theorem cost_some {s : List Ch} {x y : Int} (h : Ed.costO s 0 0 = some (x, y)) : Ed.costP s = (x, y) := by unfold Ed.costP; rw [h]; rfl
theorem ret_two {a b : Value} {p q : Int} (h1 : a = .int .i64 p) (h2 : b = .int .i64 q) : Ending.returned (.tuple #[a, b]) = .returned (.tuple #[.int .i64 p, .int .i64 q]) := by rw [h1, h2]

set_option maxHeartbeats 4000000 in
set_option maxRecDepth 100000 in
theorem cost_any {v : Value} {s : List Ch} {w : World} (hr : RdC w v s) (hwf : ∀ c ∈ s, WfC c) (hl : s.length ≤ 10000000000000) :
    Calls Tryz.prog 71 #[v] w fun e w' => e = .returned (.tuple #[.int .i64 (Ed.costP s).1, .int .i64 (Ed.costP s).2]) ∧ Below w.heap.size w w' := by
  obtain ⟨a, c, rfl⟩ := hr.shape
  have HR := hid hr
  have HWF := hid hwf
  clear hr hwf
  have hb0 := Below.refl w.heap.size w
  go_enter Tryz.func71, Tryz.ntmps71
  go_wp2
  go_loopw [4, 5, 10] (fun x y i wr => ∃ (k : Nat) (ca cb : Int), k ≤ s.length ∧ i = .int .i64 k ∧ x = .int .i64 ca ∧ y = .int .i64 cb ∧ 0 ≤ ca ∧ ca ≤ 4611686018427387904 ∧ 0 ≤ cb ∧ cb ≤ 4611686018427387904 ∧ Hid (Ed.costO s 0 0 = Ed.costO (s.drop k) ca cb) ∧ Below w.heap.size w wr) (fun _ _ i _ => s.length - (intOf i).toNat)
  case atStart => exact ⟨0, 0, 0, Nat.zero_le _, rfl, rfl, rfl, by omega, by omega, by omega, by omega, rfl, hb0⟩
  case round =>
    obtain ⟨k, ca, cb, hk, rfl, rfl, rfl, hca0, hca1, hcb0, hcb1, HV, hb⟩ := hrel
    clear hb0
    by_cases hlt : k < s.length
    · obtain ⟨x, hx⟩ : ∃ x, s[k]? = some x := ⟨_, List.getElem?_eq_getElem hlt⟩
      obtain ⟨⟨wa1, wa2⟩, ⟨wn1, wn2⟩, ⟨wb1, wb2⟩, ⟨wm1, wm2⟩⟩ := HWF.out x (List.mem_of_getElem? hx)
      obtain ⟨b, o, rfl, hblt, c0, c1, c2, c3⟩ := rdC_at (HR.out.below hb) hx
      have HV2 := hid (HV.out.trans (costO_at hx))
      have HB1 := hid (hb.alloc hb.size (.cells #[.int .i64 x.a, .int .i64 x.n, .int .i64 x.b, .int .i64 x.m] 42))
      have i1 : (0 : Int) ≤ (k : Int) := by omega
      have i2 : (k : Int) < (s.length : Int) := by omega
      clear hx hb HV
      obtain ⟨M, hM⟩ : ∃ M : Int, M = (if x.m < (if x.b < (if x.n < x.a then x.n else x.a) then x.b else (if x.n < x.a then x.n else x.a)) then x.m else (if x.b < (if x.n < x.a then x.n else x.a) then x.b else (if x.n < x.a then x.n else x.a))) := ⟨_, rfl⟩
      have hM1 : M < 0 ↔ (x.a < 0 ∨ x.n < 0 ∨ x.b < 0 ∨ x.m < 0) := by rw [hM]; exact min_neg _ _ _ _
      have HM := hid hM
      clear hM
      by_cases h1 : M < 0
      · have HE := hid (cost_none (HV2.out.trans (if_pos (by omega))))
        go_wp2
        first | (rw [run_min4]; simp only [Result.andThen_ok]; rw [Oper.upon_value, ← HM.out]) | rw [← HM.out]
        go_wp2
        go_ret2
        exact ⟨by rw [HE.out]; rfl, HB1.out⟩
      by_cases h2 : 4611686018427387904 - ca < x.n
      · have HE := hid (cost_none (HV2.out.trans (if_pos (by omega))))
        go_wp2
        first | (rw [run_min4]; simp only [Result.andThen_ok]; rw [Oper.upon_value, ← HM.out]) | rw [← HM.out]
        go_wp2
        go_ret2
        exact ⟨by rw [HE.out]; rfl, HB1.out⟩
      by_cases h3 : 4611686018427387904 - cb < x.m
      · have HE := hid (cost_none (HV2.out.trans (if_pos (by omega))))
        go_wp2
        first | (rw [run_min4]; simp only [Result.andThen_ok]; rw [Oper.upon_value, ← HM.out]) | rw [← HM.out]
        go_wp2
        go_ret2
        exact ⟨by rw [HE.out]; rfl, HB1.out⟩
      have HE := hid (HV2.out.trans (if_neg (by omega)))
      go_wp2
      first | (rw [run_min4]; simp only [Result.andThen_ok]; rw [Oper.upon_value, ← HM.out]) | rw [← HM.out]
      go_wp2
      go_roundw
      case rel => exact ⟨k + 1, ca + x.n, cb + x.m, by omega, by go_num, by go_num, by go_num, by omega, by omega, by omega, by omega, HE.out, HB1.out⟩
      case measure => simp [intOf]; omega
    · have hkk : s.drop k = [] := List.drop_eq_nil_of_le (by omega)
      have HE := hid (cost_some (HV.out.trans (by rw [hkk]; rfl)))
      have HB := hid hb
      clear hkk HV hb
      go_wp2
      go_ret2
      exact ⟨by rw [HE.out]; rfl, HB.out⟩

end Go.Proofs.YtddmfdjkkikapaaGreatDoor
/-
  The walk of ofGroup: what it leans on.
-/
namespace Go.Proofs.YtddmfdjkkikapaaGreatDoor.Hu
open Ed (Ch)
theorem sl_nat (l : List ByteArray) (x y : Nat) : sl l x y = (l.drop x).take (y - x) := by
  unfold sl
  rw [show ((x : Int)).toNat = x by omega, show ((y : Int) - (x : Int)).toNat = y - x by omega]
theorem ofG_facts {g : List Ch} {ctx : Int} {a b : List ByteArray} (hne : g ≠ []) (hinc : inc g (fromG ctx g) (fromH ctx g) a.length b.length) (h0 : 0 ≤ fromG ctx g) (h1 : 0 ≤ fromH ctx g) (hc0 : 0 ≤ ctx) (ha : a.length ≤ 4194304) (hb : b.length ≤ 4194304) :
    endA (fromG ctx g) g ≤ toG ctx a.length g ∧ toG ctx a.length g ≤ a.length ∧ fromG ctx g ≤ toG ctx a.length g ∧ Ed.costP g = (Ed.goneS g, Ed.comeS g) ∧ ((rowsG a b (fromG ctx g) g (toG ctx a.length g)).length : Int) = toG ctx a.length g - fromG ctx g + Ed.comeS g ∧ 0 ≤ Ed.comeS g ∧ Ed.comeS g ≤ 4194304 := by
  have e1 := endA_last (x := fromG ctx g) hne
  obtain ⟨q1, q2, q3, q4⟩ := endA_ge hinc
  have e2 : toG ctx a.length g = min (endA (fromG ctx g) g + ctx) a.length := by unfold toG; rw [← e1]
  have e3 := cost_inc hinc h0 h1 (Int.le_refl 0) (Int.le_refl 0) h0 h1 (by omega) (by omega)
  have e4 := inc_come hinc
  have h2 : endA (fromG ctx g) g ≤ toG ctx a.length g := by rw [e2]; omega
  have h3 : toG ctx a.length g ≤ a.length := by rw [e2]; omega
  refine ⟨h2, h3, by omega, ?_, len_rowsG hinc h0 h1 h2 h3 (Int.le_refl _), e4.1, by omega⟩
  unfold Ed.costP
  rw [e3]
  simp
end Go.Proofs.YtddmfdjkkikapaaGreatDoor.Hu
namespace Go.Proofs.YtddmfdjkkikapaaGreatDoor
open Go.RowKit
open Hu (Rw Hk)
open Ed (Ch)
theorem under_sliced {w : World} {a : Option Addr} {c x n' c' : Nat} {l : List ByteArray} {B : Nat} (h : RdT w (.slice a l.length c) l) (hu : Under B (.slice a l.length c)) (hx : x + n' ≤ l.length) : Under B (.slice (if c = x then a else a.map (·.add x)) n' c') := by
  intro b o m c2 hv hm
  injection hv with hv1 hv2 hv3
  rcases h with ⟨h0, _⟩ | ⟨b0, o0, c0, hv0, _, _, _⟩
  · omega
  · injection hv0 with e1 e2 e3
    subst e1
    have := hu b0 o0 l.length c rfl (by omega)
    split at hv1
    · cases hv1; exact this
    · rw [Option.map_some, Go.WideShapes.add_plain] at hv1
      cases hv1
      exact this
theorem Kd_app {l m : List Rw} (h1 : Kd l) (h2 : Kd m) : Kd (l ++ m) := fun r hr => (List.mem_append.1 hr).elim (h1 r) (h2 r)
theorem Kd_mk {k : Int} {l : List ByteArray} (h : k = 1 ∨ k = 2 ∨ k = 3) : Kd (Hu.mk k l) := fun r hr => by
  obtain ⟨x, _, rfl⟩ := List.mem_map.1 hr
  exact h
theorem Kd_rowsG (a b : List ByteArray) : ∀ (g : List Ch) (p q : Int), Kd (Hu.rowsG a b p g q)
  | [], _, _ => Kd_mk (.inl rfl)
  | _ :: r, _, q => Kd_app (Kd_mk (.inl rfl)) (Kd_app (Kd_mk (.inr (.inl rfl))) (Kd_app (Kd_mk (.inr (.inr rfl))) (Kd_rowsG a b r _ q)))
end Go.Proofs.YtddmfdjkkikapaaGreatDoor
