/-
  The walk of the law HunksNarrow.
-/
import Derived.Test.YtnamioihapnefabGreatDoorMk
import Derived.Test.YtnamioihapnefabGreatDoorGrKf
import Derived.Test.YtnamioihapnefabGreatDoorGrJw
namespace Go.Proofs.YtnamioihapnefabGreatDoor
open Go.RowKit
open Hu (Rw Hk)

set_option maxHeartbeats 1500000 in
set_option maxRecDepth 100000 in
theorem narrow_any {w : World} {h : Hk} {v : Value} {ctx : Int} (hv : RdW w v h.rows) (hz : SzH h) :
    Calls Tryz.prog 11 #[HkV h v, .int .i64 ctx] w fun e w' => ∃ v', e = .returned (.tuple #[v', errV (narN h ctx)]) ∧ OwnH w' w.heap.size v' (narA h ctx) ∧ Below w.heap.size w w' := by
  by_cases hc : ctxOk ctx = true
  · have hc2 := hc
    unfold ctxOk at hc2
    simp at hc2
    by_cases hvl : Hu.vld h = true
    · have e1 : narN h ctx = 0 := by unfold narN; rw [if_pos hc, if_pos hvl]
      have := narrow_ok hv hz hvl hc2.1 hc2.2
      unfold narA
      rw [if_pos e1, e1, errV_zero]
      obtain ⟨c, rfl⟩ := Int.eq_ofNat_of_zero_le hc2.1
      rw [Int.toNat_natCast] at this ⊢
      rw [nD_groups (Hu.vld_parts hvl).1]
      exact this
    · have e1 : narN h ctx = 100 := by unfold narN; rw [if_pos hc, if_neg hvl]
      have e2 : narA h ctx = [] := by unfold narA; rw [e1]; rfl
      rw [e1, e2]
      have HIC := hid (fun w1 => isContext_any ctx w1)
      rw [hc] at HIC
      have HVA := hid (fun w1 (hb : Below w.heap.size w w1) => hvalid_any (h := h) (hv.below hb) hz)
      rw [show vldN h = 100 by unfold vldN; rw [if_neg hvl], errV_pos (by decide)] at HVA
      rw [errV_pos (by decide)]
      obtain ⟨av, cv, rfl⟩ := hv.shape
      obtain ⟨xa, xn, xb, xm, xh, xr⟩ := h
      dsimp only at HVA ⊢
      unfold HkV at HVA ⊢
      dsimp only at HVA ⊢
      obtain ⟨N, hN⟩ : ∃ N, N = xr.length := ⟨_, rfl⟩
      rw [← hN] at HVA ⊢
      have hbH := (Below.refl w.heap.size w).alloc (Nat.le_refl _) (.cells #[.int .i64 xa, .int .i64 xn, .int .i64 xb, .int .i64 xm, .string xh, .slice av N cv] 37)
      have hkH := heap_alloc_new w (.cells #[.int .i64 xa, .int .i64 xn, .int .i64 xb, .int .i64 xm, .string xh, .slice av N cv] 37)
      clear hv hz hvl hc e1 e2 hN hc2
      go_enter Tryz.func11, Tryz.ntmps11
      go_wp2_with fail
      obtain ⟨H, hH⟩ : ∃ H, H = w.heap.size := ⟨_, rfl⟩
      have HH := hid hH
      rw [← hH] at hkH ⊢
      generalize w.alloc (.cells #[.int .i64 xa, .int .i64 xn, .int .i64 xb, .int .i64 xm, .string xh, .slice av N cv] 37) = w1 at hbH hkH ⊢
      refine (HIC.out w1).mono ?_
      rintro e w1' ⟨rfl, h1⟩
      rw [h1]
      clear h1 hH
      have q0 : w1.cell? ⟨H, 0, none⟩ = some (.int .i64 xa) := cell_of_blk hkH 0
      have q1 : w1.cell? ⟨H, 1, none⟩ = some (.int .i64 xn) := cell_of_blk hkH 1
      have q2 : w1.cell? ⟨H, 2, none⟩ = some (.int .i64 xb) := cell_of_blk hkH 2
      have q3 : w1.cell? ⟨H, 3, none⟩ = some (.int .i64 xm) := cell_of_blk hkH 3
      have q4 : w1.cell? ⟨H, 4, none⟩ = some (.string xh) := cell_of_blk hkH 4
      have q5 : w1.cell? ⟨H, 5, none⟩ = some (.slice av N cv) := cell_of_blk hkH 5
      clear hkH
      go_wp2_with fail
      refine (HVA.out w1 hbH).mono ?_
      rintro e w2 ⟨rfl, hb2⟩
      have HB2 := hid (hbH.trans (hb2.mono hbH.size))
      clear hbH hb2 HVA q0 q1 q2 q3 q4 q5
      go_wp2_with fail
      go_ret2
      exact ⟨_, rfl, OwnH.nil _ _, HH.out ▸ HB2.out⟩
  · have e1 : narN h ctx = 1 := by unfold narN; rw [if_neg hc]
    have e2 : narA h ctx = [] := by unfold narA; rw [e1]; rfl
    rw [e1, e2, errV_pos (by decide)]
    have HIC := hid (fun w1 => isContext_any ctx w1)
    rw [Bool.not_eq_true] at hc
    rw [hc] at HIC
    obtain ⟨av, cv, rfl⟩ := hv.shape
    obtain ⟨xa, xn, xb, xm, xh, xr⟩ := h
    dsimp only
    unfold HkV
    dsimp only
    have hbH := (Below.refl w.heap.size w).alloc (Nat.le_refl _) (.cells #[.int .i64 xa, .int .i64 xn, .int .i64 xb, .int .i64 xm, .string xh, .slice av xr.length cv] 37)
    clear hv hz e1 e2 hc
    go_enter Tryz.func11, Tryz.ntmps11
    go_wp2_with fail
    refine (HIC.out _).mono ?_
    rintro e w1' ⟨rfl, h1⟩
    rw [h1]
    clear h1
    go_wp2_with fail
    go_ret2
    exact ⟨_, rfl, OwnH.nil _ _, hbH⟩
end Go.Proofs.YtnamioihapnefabGreatDoor
