/-
  The walk of num, the number of an error: of none 0, of an api.Errno its own.
-/
import Derived.Test.YtnbonghlmdnabaaDoorAs2
namespace Go.Proofs.YtnbonghlmdnabaaDoor
open Go.RowKit

theorem hidN {p : Prop} (h : p) : Hid p := h

/-- what errors.errorType holds -/
def ErrVar (w : World) : Prop := w.cell? ⟨0, 0, none⟩ = some (.iface 95 (.agg #[.pointer (some ⟨5, 25, none⟩)]))
theorem ErrVar.pos {w : World} (h : ErrVar w) : 0 < w.heap.size := by
  unfold ErrVar at h
  rcases Nat.eq_zero_or_pos w.heap.size with h0 | h1
  · simp [World.cell?, h0] at h
  · exact h1
theorem ErrVar.below {w w' : World} (h : ErrVar w) (hb : Below w.heap.size w w') : ErrVar w' := by
  have hp := h.pos
  unfold ErrVar at h ⊢
  rw [hb.cell (p := ⟨0, 0, none⟩) hp]
  exact h

theorem asWorld_below (w : World) (t : Addr) (n : Int) (B : Nat) (hB : B ≤ t.block) (hz : B ≤ w.heap.size) : Below B w (asWorld w t n) := by
  unfold asWorld
  refine Below.setCell (((((Below.refl B w).alloc hz _).alloc ?_ _).alloc ?_ _).alloc ?_ _) hB _ <;> simp <;> omega
theorem asWorld_cell (w : World) (t : Addr) (n : Int) (old : Value) (h : w.cell? t = some old) : (asWorld w t n).cell? t = some (.int .i64 n) := by
  have htl : t.block < w.heap.size := by
    rcases Nat.lt_or_ge t.block w.heap.size with h' | h'
    · exact h'
    · simp [World.cell?, Array.getElem?_eq_none h'] at h
  unfold asWorld
  refine World.cell?_setCell_same _ _ _ (u := old) ?_
  rw [World.cell?_alloc_lt _ _ t (by simp; omega), World.cell?_alloc_lt _ _ t (by simp; omega), World.cell?_alloc_lt _ _ t (by simp; omega), World.cell?_alloc_lt _ _ t htl]
  exact h

set_option maxHeartbeats 400000 in
theorem num_nil (w : World) : Calls Tryd.prog 9 #[.nilIface] w fun e w' => e = .returned (.int .i64 0) ∧ Below w.heap.size w w' := by
  go_enter Tryd.func9, Tryd.ntmps9
  go_wp2
  go_ret
  first
    | exact ⟨rfl, Below.refl _ _⟩
    | exact ⟨rfl, (Below.refl _ _).alloc (Nat.le_refl _) _⟩

set_option maxHeartbeats 400000 in
theorem num_errno (n : Int) (w : World) (hg : ErrVar w) : Calls Tryd.prog 9 #[.iface 57 (.int .i64 n)] w fun e w' => e = .returned (.int .i64 n) ∧ Below w.heap.size w w' := by
  have hb0 : Below w.heap.size w (w.alloc (.cells #[.int .i64 0] 57)) := (Below.refl _ _).alloc (Nat.le_refl _) _
  have hg1 := hg.below hb0
  have hc : (w.alloc (.cells #[.int .i64 0] 57)).cell? ⟨w.heap.size, 0, none⟩ = some (.int .i64 0) := by simp
  have hf : (w.alloc (.cells #[.int .i64 0] 57)).frozen? ⟨w.heap.size, 0, none⟩ = false := by simp
  have hA := as_hit n ⟨w.heap.size, 0, none⟩ (.int .i64 0) _ hg1 hc hf
  have hcell := asWorld_cell _ _ n _ hc
  have hbel := asWorld_below (w.alloc (.cells #[.int .i64 0] 57)) ⟨w.heap.size, 0, none⟩ n w.heap.size (Nat.le_refl _) (by simp)
  have HA := hidN hA
  have HB := hidN (hb0.trans hbel)
  obtain ⟨w2, hw2⟩ : ∃ w2, w2 = asWorld (w.alloc (.cells #[.int .i64 0] 57)) ⟨w.heap.size, 0, none⟩ n := ⟨_, rfl⟩
  rw [← hw2] at hcell HB
  have HW := hidN hw2
  clear hA hbel hb0 hg1 hc hf hw2 hg
  go_enter Tryd.func9, Tryd.ntmps9
  go_wp2_with fail
  refine HA.out.mono ?_
  rintro e w3 ⟨rfl, hw3⟩
  rw [hw3, ← HW.out]
  go_wp2
  go_ret
  exact ⟨rfl, HB.out⟩
end Go.Proofs.YtnbonghlmdnabaaDoor
