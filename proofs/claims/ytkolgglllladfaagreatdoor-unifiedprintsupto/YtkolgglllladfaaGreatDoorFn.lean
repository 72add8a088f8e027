/-
  Unified diffs: the program's InOrder, fault, format.
-/
import Derived.Test.YtkolgglllladfaaGreatDoorFm
namespace Go.Proofs.YtkolgglllladfaaGreatDoor
open Go.RowKit
open Hu (Rw Hk)

/-- a hunk whose numbers are small -/
def SmH (h : Hk) : Prop := 0 ≤ h.a ∧ h.a ≤ 2147483647 ∧ 0 ≤ h.n ∧ h.n ≤ 2147483647 ∧ 0 ≤ h.b ∧ h.b ≤ 2147483647 ∧ 0 ≤ h.m ∧ h.m ≤ 2147483647
theorem plc_le {a n : Int} (h1 : 0 ≤ a) (h2 : a ≤ 2147483647) : -1 ≤ Hu.plc a n ∧ Hu.plc a n ≤ 2147483647 := by
  unfold Hu.plc
  split <;> omega
theorem dec_one {x y : Int} : decide (x + 1 ≤ y + 1) = decide (x ≤ y) := by
  by_cases h : x ≤ y
  · rw [decide_eq_true h, decide_eq_true (by omega)]
  · rw [decide_eq_false h, decide_eq_false (by omega)]
theorem twoF (w : World) (A B : Obj) : Below w.heap.size w ((w.alloc A).alloc B) ∧ ((w.alloc A).alloc B).heap[w.heap.size]? = some A ∧ ((w.alloc A).alloc B).heap[w.heap.size + 1]? = some B := by
  have h1 : (w.alloc A).heap.size = w.heap.size + 1 := by simp
  have hA := (Below.refl w.heap.size w).alloc (Nat.le_refl _) A
  have hB := (Below.refl (w.alloc A).heap.size (w.alloc A)).alloc (Nat.le_refl _) B
  refine ⟨hA.trans (hB.mono hA.size), ?_, ?_⟩
  · exact (hB.block w.heap.size (by omega)).trans (heap_alloc_new w A)
  · rw [← h1]; exact heap_alloc_new (w.alloc A) B
set_option maxHeartbeats 4000000 in
set_option maxRecDepth 100000 in
theorem inOrder_any {w : World} {v : Value} {l : List Hk} {h : Hk} {ua : Option Addr} {un uc : Nat} (hr : RdH w v l) (hl : l.length ≤ 5000000) (hh : SmH h) (hs : ∀ g ∈ l, SmH g) :
    Calls Tryz.prog 28 #[v, HkV h (.slice ua un uc)] w fun e w' => e = .returned (.bool (Un.okO l h)) ∧ Below w.heap.size w w' := by
  obtain ⟨va, vc, rfl⟩ := hr.shape
  obtain ⟨xa, xn, xb, xm, xh, xr⟩ := h
  unfold HkV
  dsimp only
  have hbA := (Below.refl w.heap.size w).alloc (Nat.le_refl _) (.cells #[.int .i64 xa, .int .i64 xn, .int .i64 xb, .int .i64 xm, .string xh, .slice ua un uc] 37)
  have hkA := heap_alloc_new w (.cells #[.int .i64 xa, .int .i64 xn, .int .i64 xb, .int .i64 xm, .string xh, .slice ua un uc] 37)
  rcases Nat.eq_zero_or_pos l.length with h0 | h0
  · have e : l = [] := List.length_eq_zero_iff.1 h0
    subst e
    have HBA := hid hbA
    clear h0 hkA
    go_enter Tryz.func28, Tryz.ntmps28
    go_wp2_with fail
    go_ret
    exact ⟨rfl, HBA.out⟩
  · obtain ⟨g, hg⟩ : ∃ g, l[l.length - 1]? = some g := ⟨_, List.getElem?_eq_getElem (by omega)⟩
    have hlast : l.getLast? = some g := by rw [List.getLast?_eq_getElem?, hg]
    have hok : Un.okO l ⟨xa, xn, xb, xm, xh, xr⟩ = Un.inO g ⟨xa, xn, xb, xm, xh, xr⟩ := by unfold Un.okO; rw [hlast]
    rw [hok]
    have hgs := hs g (List.mem_of_getElem? hg)
    obtain ⟨b, o, u, rfl, hb, c0, c1, c2, c3, c4, c5, hu⟩ := rdH_at (hr.below hbA) hg
    obtain ⟨qa, qc, rfl⟩ := hu.shape
    obtain ⟨ga, gn, gb, gm, gh, gr⟩ := g
    unfold Un.inO
    dsimp only at *
    obtain ⟨s1, s2, s3, s4, s5, s6, s7, s8⟩ := hh
    obtain ⟨t1, t2, t3, t4, t5, t6, t7, t8⟩ := hgs
    dsimp only at *
    have p1 := plc_le (n := xn) s1 s2
    have p2 := plc_le (n := gn) t1 t2
    have p3 := plc_le (n := xm) s5 s6
    have p4 := plc_le (n := gm) t5 t6
    have HF1 := hid (fun w1 => firstLine_any xa xn w1 (by omega) (by omega) s3)
    have HF2 := hid (fun w1 => firstLine_any ga gn w1 (by omega) (by omega) t3)
    have HF3 := hid (fun w1 => firstLine_any xb xm w1 (by omega) (by omega) s7)
    have HF4 := hid (fun w1 => firstLine_any gb gm w1 (by omega) (by omega) t7)
    generalize Hu.plc xa xn = P1 at HF1 p1 ⊢
    generalize Hu.plc ga gn = P2 at HF2 p2 ⊢
    generalize Hu.plc xb xm = P3 at HF3 p3 ⊢
    generalize Hu.plc gb gm = P4 at HF4 p4 ⊢
    have i1 : IntKind.i64.wrap (P2 + 1 + gn) = P2 + 1 + gn := wrapOk (by omega) (by omega)
    have i2 : IntKind.i64.wrap (P4 + 1 + gm) = P4 + 1 + gm := wrapOk (by omega) (by omega)
    obtain ⟨N, hN⟩ : ∃ N, N = l.length := ⟨_, rfl⟩
    rw [← hN] at c0 c1 c2 c3 c4 c5 h0 hl ⊢
    obtain ⟨M, hM⟩ : ∃ M : Nat, M = N - 1 := ⟨_, rfl⟩
    rw [← hM] at c0 c1 c2 c3 c4 c5
    have i3 : IntKind.i64.wrap ((N : Int) - 1) = (M : Int) := by rw [wrapOk (by omega) (by omega)]; omega
    have i4 : (0 : Int) ≤ (M : Int) := by omega
    have i5 : (M : Int) < (N : Int) := by omega
    have i6 : ((N : Int) == 0) = false := ine (by omega)
    have HBA := hid hbA
    have HKA := hid hkA
    clear hr hlast hok hg hs hN hM hu
    have hs0 : (w.alloc (.cells #[.int .i64 xa, .int .i64 xn, .int .i64 xb, .int .i64 xm, .string xh, .slice ua un uc] 37)).heap.size = w.heap.size + 1 := by simp
    have HW2 := hid (twoF w (.cells #[.int .i64 xa, .int .i64 xn, .int .i64 xb, .int .i64 xm, .string xh, .slice ua un uc] 37) (.cells #[.int .i64 ga, .int .i64 gn, .int .i64 gb, .int .i64 gm, .string gh, .slice qa gr.length qc] 37))
    clear hbA hkA HKA
    go_enter Tryz.func28, Tryz.ntmps28
    go_wp2_with fail
    rw [hs0] at *
    obtain ⟨hb2, hk1, hk2⟩ := HW2.out
    have HB2 := hid hb2
    generalize (w.alloc (.cells #[.int .i64 xa, .int .i64 xn, .int .i64 xb, .int .i64 xm, .string xh, .slice ua un uc] 37)).alloc (.cells #[.int .i64 ga, .int .i64 gn, .int .i64 gb, .int .i64 gm, .string gh, .slice qa gr.length qc] 37) = w2 at hk1 hk2 HB2 ⊢
    obtain ⟨H, hH⟩ : ∃ H, H = w.heap.size := ⟨_, rfl⟩
    rw [← hH] at hk1 hk2 ⊢
    have x0 : w2.cell? ⟨H, 0, none⟩ = some (.int .i64 xa) := cell_of_blk hk1 0
    have x1 : w2.cell? ⟨H, 1, none⟩ = some (.int .i64 xn) := cell_of_blk hk1 1
    have x2 : w2.cell? ⟨H, 2, none⟩ = some (.int .i64 xb) := cell_of_blk hk1 2
    have x3 : w2.cell? ⟨H, 3, none⟩ = some (.int .i64 xm) := cell_of_blk hk1 3
    have g0 : w2.cell? ⟨H + 1, 0, none⟩ = some (.int .i64 ga) := cell_of_blk hk2 0
    have g1 : w2.cell? ⟨H + 1, 1, none⟩ = some (.int .i64 gn) := cell_of_blk hk2 1
    have g2 : w2.cell? ⟨H + 1, 2, none⟩ = some (.int .i64 gb) := cell_of_blk hk2 2
    have g3 : w2.cell? ⟨H + 1, 3, none⟩ = some (.int .i64 gm) := cell_of_blk hk2 3
    clear hb2 hk1 hk2 HW2 HBA hs0 c0 c1 c2 c3 c4 c5 hb hH
    by_cases hq : P2 + gn ≤ P1
    · have j1 : P2 + 1 + gn ≤ P1 + 1 := by omega
      have HQ := hid (decide_eq_true hq)
      have HD : Hid (decide (P4 + 1 + gm ≤ P3 + 1) = decide (P4 + gm ≤ P3)) := hid (by rw [show P4 + 1 + gm = P4 + gm + 1 by omega]; exact dec_one)
      clear hq
      go_quiet ((go_at_call 55; first | with_reducible exact Calls.quiet_of_same (HF1.out _) | with_reducible exact Calls.quiet_of_same (HF2.out _) | with_reducible exact Calls.quiet_of_same (HF3.out _) | with_reducible exact Calls.quiet_of_same (HF4.out _)))
      have HB3 := hid (below_drewN HB2.out nq)
      go_wp2_with fail
      go_ret
      exact ⟨by rw [HQ.out, Bool.true_and, ← HD.out]; rfl, HB3.out⟩
    · have j1 : ¬ (P2 + 1 + gn ≤ P1 + 1) := by omega
      have HQ := hid (decide_eq_false hq)
      clear hq
      go_quiet ((go_at_call 55; first | with_reducible exact Calls.quiet_of_same (HF1.out _) | with_reducible exact Calls.quiet_of_same (HF2.out _) | with_reducible exact Calls.quiet_of_same (HF3.out _) | with_reducible exact Calls.quiet_of_same (HF4.out _)))
      have HB3 := hid (below_drewN HB2.out nq)
      go_wp2_with fail
      go_ret
      exact ⟨by rw [HQ.out, Bool.false_and]; rfl, HB3.out⟩
end Go.Proofs.YtkolgglllladfaaGreatDoor
