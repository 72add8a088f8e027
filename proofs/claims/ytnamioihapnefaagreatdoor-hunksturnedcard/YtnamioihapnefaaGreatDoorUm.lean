/-
  The walk of Reverse, where there are no rows; both together.
-/
import Derived.Test.YtnamioihapnefaaGreatDoorUl
namespace Go.Proofs.YtnamioihapnefaaGreatDoor
open Go.RowKit
open Hu (Rw Hk)

set_option maxHeartbeats 1000000 in
set_option maxRecDepth 100000 in
theorem clone_nil {w : World} {v : Value} (hv : RdW w v []) (hA : ArgS v) :
    Calls Tryz.prog 64 #[v] w fun e w' => ∃ v', e = .returned v' ∧ OwnW w' w.heap.size v' [] ∧ Below w.heap.size w w' := by
  obtain ⟨a, c, e⟩ := hv.shape
  subst e
  rcases hA with hA | ⟨ad, n, c', hA⟩
  · injection hA with e1 e2 e3
    subst e1
    subst e3
    have hrun : (binOp .eql 27 (.slice none 0 0) (.slice none 0 0)).run Tryz.prog w = .ok (.bool true) w := by kernel_rfl
    rw [List.length_nil]
    go_enter Tryz.func64, Tryz.ntmps64
    go_wp2_with fail
    go_ret
    exact ⟨_, rfl, World.ownsRow_nil _ _ _ _, Below.refl _ _⟩
  · injection hA with e1 e2 e3
    subst e1
    subst e3
    have hrun : (binOp .eql 27 (.slice (some ad) 0 c) (.slice none 0 0)).run Tryz.prog w = .ok (.bool false) w := by kernel_rfl
    have hb1 := (Below.refl w.heap.size w).alloc (Nat.le_refl _) (.cells #[] 63)
    have hk1 := heap_alloc_new w (.cells #[] 63)
    have HB1 := hid hb1
    have HO1 : Hid ((w.alloc (.cells #[] 63)).ownsRow w.heap.size 63 2 (.slice (some ⟨w.heap.size, 0, none⟩) 0 0) 0 []) := hid ⟨rfl, .inr ⟨w.heap.size, 0, #[], rfl, Nat.le_refl _, hk1, Nat.le_refl _, by decide, rfl, rfl⟩⟩
    rw [List.length_nil]
    clear hb1 hk1 hv e2
    go_enter Tryz.func64, Tryz.ntmps64
    go_wp2_with fail
    go_ret
    exact ⟨_, rfl, HO1.out, HB1.out⟩
theorem nil_takes {w6 : World} {rb : Nat} : Takes 65 #[.pointer (some ⟨rb, 0, none⟩)] w6.heap.size w6.heap.size w6 (Hu.runsR [] 0 0) (fun _ X _ => ∀ g, ¬ X g) where
  ent := fun _ _ => by kernel_rfl
  far := fun d X w1 w2 hI hf => hI
  ge := fun d X w1 hI g hg => absurd hg (hI g)
  step := fun d X r w1 hI hb hrest => by
    obtain ⟨rest, hrs⟩ := hrest
    have := congrArg List.length hrs
    simp [Hu.runsR, Hu.run1] at this
set_option maxHeartbeats 2000000 in
set_option maxRecDepth 100000 in
theorem reverse_nil {w : World} {h : Hk} {v : Value} (hv : RdW w v h.rows) (hA : ArgS v) (hne : h.rows = []) :
    Calls Tryz.prog 28 #[HkV h v] w fun e w' => ∃ v', e = .returned (HkV (Hu.revH h) v') ∧ OwnW w' w.heap.size v' (Hu.revH h).rows ∧ Below w.heap.size w w' := by
  rw [hne] at hv
  have HCL := hid (fun w1 (hb : Below w.heap.size w w1) => clone_nil (hv.below hb) hA)
  obtain ⟨av, cv, rfl⟩ := hv.shape
  obtain ⟨xa, xn, xb, xm, xh, xr⟩ := h
  dsimp only at HCL hne ⊢
  unfold HkV Hu.revH
  dsimp only
  subst hne
  rw [List.length_nil] at HCL ⊢
  have hS : Hu.srtD (([] : List Rw).map Hu.flp) [] = [] := rfl
  rw [hS]
  obtain ⟨t1, t2, t3, t4⟩ := two' w (.cells #[.int .i64 xa, .int .i64 xn, .int .i64 xb, .int .i64 xm, .string xh, .slice av 0 cv] 29) (.cells #[.int .i64 0, .int .i64 0, .int .i64 0, .int .i64 0, .string ⟨#[]⟩, .slice none 0 0] 29)
  clear hv hA hS
  go_enter Tryz.func28, Tryz.ntmps28
  go_wp2_with fail
  obtain ⟨H, hH⟩ : ∃ H, H = w.heap.size := ⟨_, rfl⟩
  have HH := hid hH
  rw [← hH] at t2 t3 t4 ⊢
  generalize (w.alloc (.cells #[.int .i64 xa, .int .i64 xn, .int .i64 xb, .int .i64 xm, .string xh, .slice av 0 cv] 29)).alloc (.cells #[.int .i64 0, .int .i64 0, .int .i64 0, .int .i64 0, .string ⟨#[]⟩, .slice none 0 0] 29) = w1 at t1 t2 t3 t4 ⊢
  refine (HCL.out w1 t1).mono ?_
  rintro e w2 ⟨v2, rfl, hO2, hb2⟩
  obtain ⟨a2, c2, ev⟩ := own_shape hO2
  rw [List.length_nil] at ev
  subst ev
  have HB2 := hid (t1.trans (hb2.mono t1.size))
  have HK2 := hid ((hb2.block H (lt_of_heap t2)).trans t2)
  have HZ2 := hid ((hb2.block (H + 1) (lt_of_heap t3)).trans t3)
  have HO2 := hid (own_mono hO2 t1.size)
  have hbA := (Below.refl w2.heap.size w2).alloc (Nat.le_refl _) (.cells #[.slice a2 0 c2] 27)
  have hkA := heap_alloc_new w2 (.cells #[.slice a2 0 c2] 27)
  clear t1 t2 t3 t4 hO2 hb2 hH
  go_wp2_with fail
  obtain ⟨A, hA⟩ : ∃ A, A = w2.heap.size := ⟨_, rfl⟩
  have HB3 := hid (HB2.out.trans (hbA.mono HB2.out.size))
  have HK3 := hid ((hbA.block H (lt_of_heap HK2.out)).trans HK2.out)
  have HZ3 := hid ((hbA.block (H + 1) (lt_of_heap HZ2.out)).trans HZ2.out)
  have HO3 := hid (own_stays HO2.out hbA)
  have HA3 := hid hkA
  rw [← hA] at HA3 ⊢
  generalize w2.alloc (.cells #[.slice a2 0 c2] 27) = w3 at HB3 HK3 HZ3 HO3 HA3 ⊢
  clear hbA hkA HB2 HK2 HZ2 HO2 hA
  have a0 : w3.cell? ⟨A, 0, none⟩ = some (.slice a2 0 c2) := cell_of_blk HA3.out 0
  have HER := hid (hEachRun_in (w := w3) (a := a2) (c := c2) (l := []) (B := w3.heap.size) (I := fun _ X _ => ∀ g, ¬ X g) (fun d X w1 i x hI hr he hx => by simp at hx) (Nat.le_refl _) (by decide) (nil_takes (rb := A)) (X0 := fun _ => False) (fun g h => h) (fun g h => absurd h (fun h => h)))
  rw [List.length_nil] at HER
  go_wp2_with fail
  go_loopw [11] (fun ii wr => ii = .int .i64 (0 : Nat) ∧ wr = w3) (fun ii _ => 0)
  case atStart => exact ⟨rfl, rfl⟩
  case round =>
    obtain ⟨rfl, rfl⟩ := hrel
    go_wp2_with fail
    refine HER.out.mono ?_
    rintro e w5 ⟨rfl, hb5, X5, _⟩
    have HK5 := hid ((hb5.block H (lt_of_heap HK3.out)).trans HK3.out)
    have HZ5 := hid ((hb5.block (H + 1) (lt_of_heap HZ3.out)).trans HZ3.out)
    have HA5 := hid ((hb5.block A (lt_of_heap HA3.out)).trans HA3.out)
    have HO5 := hid (own_stays HO3.out hb5)
    have HB5 := hid (HB3.out.trans (hb5.mono HB3.out.size))
    have y0 : w5.cell? ⟨A, 0, none⟩ = some (.slice a2 0 c2) := cell_of_blk HA5.out 0
    have q0 : w5.cell? ⟨H, 0, none⟩ = some (.int .i64 xa) := cell_of_blk HK5.out 0
    have q1 : w5.cell? ⟨H, 1, none⟩ = some (.int .i64 xn) := cell_of_blk HK5.out 1
    have q2 : w5.cell? ⟨H, 2, none⟩ = some (.int .i64 xb) := cell_of_blk HK5.out 2
    have q3 : w5.cell? ⟨H, 3, none⟩ = some (.int .i64 xm) := cell_of_blk HK5.out 3
    have q4 : w5.cell? ⟨H, 4, none⟩ = some (.string xh) := cell_of_blk HK5.out 4
    have hHw : w.heap.size ≤ H + 1 := by have := HH.out; omega
    clear hb5 a0
    go_wp2_with (guard_target =~ wpList _ _ _ (_ :: _) _ _; refine wpList_stH rfl rfl HZ5.out rfl ⟨xb, xm, xa, xn, xh, []⟩ (.slice a2 0 c2) rfl rfl rfl ?_; intro w8 hk8 ho8 hb8; have y0 : w8.cell? ⟨H + 1, 0, none⟩ = some (.int .i64 xb) := cell_of_blk hk8 0; have y1 : w8.cell? ⟨H + 1, 1, none⟩ = some (.int .i64 xm) := cell_of_blk hk8 1; have y2 : w8.cell? ⟨H + 1, 2, none⟩ = some (.int .i64 xa) := cell_of_blk hk8 2; have y3 : w8.cell? ⟨H + 1, 3, none⟩ = some (.int .i64 xn) := cell_of_blk hk8 3; have y4 : w8.cell? ⟨H + 1, 4, none⟩ = some (.string xh) := cell_of_blk hk8 4; have y5 : w8.cell? ⟨H + 1, 5, none⟩ = some (.slice a2 0 c2) := cell_of_blk hk8 5; have HB8 := hid (hb8 _ _ HB5.out hHw); have HO8 := hid (own_far HO5.out (fun i hi => ho8 i (fun e => own_ne HO5.out HZ5.out (by decide) (e ▸ hi)))); clear hk8 ho8 hb8)
    exact bodyPost_ret (v := .agg #[.int .i64 xb, .int .i64 xm, .int .i64 xa, .int .i64 xn, .string xh, .slice a2 0 c2]) (by simp [results, Tryz.results28, go_sem, y0, y1, y2, y3, y4, y5]) rfl ⟨_, rfl, HO8.out, HB8.out⟩
theorem reverse_any {w : World} {h : Hk} {v : Value} (hv : RdW w v h.rows) (hA : ArgS v) (hl : h.rows.length < 5864062014800) :
    Calls Tryz.prog 28 #[HkV h v] w fun e w' => ∃ v', e = .returned (HkV (Hu.revH h) v') ∧ OwnW w' w.heap.size v' (Hu.revH h).rows ∧ Below w.heap.size w w' := by
  by_cases hne : h.rows = []
  · exact reverse_nil hv hA hne
  · exact reverse_some hv hne hl
end Go.Proofs.YtnamioihapnefaaGreatDoor
