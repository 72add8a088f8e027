/-
  Rows of counts of the call's own, written over (for both Sums).
-/
import Derived.Test.YtnbonghlmdnabaaDoorBo
import Derived.Deep.DeepHandedRow
namespace Go.Proofs.YtnbonghlmdnabaaDoor.Sx
open Go.RowKit

theorem own_setX {w : World} {B g n c sz j : Nat} {e : TypeId} {xs : List Value} (h : w.ownsRow B e sz (.slice (some ⟨g, 0, none⟩) n c) n xs) (u : Value) : (w.setCell ⟨g, j, none⟩ u).ownsRow B e sz (.slice (some ⟨g, 0, none⟩) n c) n (xs.set j u) := (h.stored j u).1
theorem ctsC_setA : ∀ {l : List Ct} {k : Nat} {c : Ct} (z : Int), l[k]? = some c → (ctsC l).set (k * 3 + 1) (.int .i64 z) = ctsC (l.set k ⟨c.nm, z, c.d⟩)
  | x :: r, 0, c, z, h => by cases h; rfl
  | x :: r, k + 1, c, z, h => by
    have ih := ctsC_setA (l := r) (k := k) z (by simpa using h)
    show (ctC x ++ ctsC r).set ((k + 1) * 3 + 1) _ = ctC x ++ ctsC (r.set k ⟨c.nm, z, c.d⟩)
    rw [← ih, show (k + 1) * 3 + 1 = (ctC x).length + (k * 3 + 1) by show _ = 3 + _; omega, List.set_append_right _ _ (Nat.le_add_right _ _), Nat.add_sub_cancel_left]
theorem ctsC_setD : ∀ {l : List Ct} {k : Nat} {c : Ct} (z : Int), l[k]? = some c → (ctsC l).set (k * 3 + 2) (.int .i64 z) = ctsC (l.set k ⟨c.nm, c.a, z⟩)
  | x :: r, 0, c, z, h => by cases h; rfl
  | x :: r, k + 1, c, z, h => by
    have ih := ctsC_setD (l := r) (k := k) z (by simpa using h)
    show (ctC x ++ ctsC r).set ((k + 1) * 3 + 2) _ = ctC x ++ ctsC (r.set k ⟨c.nm, c.a, z⟩)
    rw [← ih, show (k + 1) * 3 + 2 = (ctC x).length + (k * 3 + 2) by show _ = 3 + _; omega, List.set_append_right _ _ (Nat.le_add_right _ _), Nat.add_sub_cancel_left]
theorem ctsC_setN : ∀ {l : List Ct} {k : Nat} {c : Ct} (z : ByteArray), l[k]? = some c → (ctsC l).set (k * 3) (.string z) = ctsC (l.set k ⟨z, c.a, c.d⟩)
  | x :: r, 0, c, z, h => by cases h; rfl
  | x :: r, k + 1, c, z, h => by
    have ih := ctsC_setN (l := r) (k := k) z (by simpa using h)
    show (ctC x ++ ctsC r).set ((k + 1) * 3) _ = ctC x ++ ctsC (r.set k ⟨z, c.a, c.d⟩)
    rw [← ih, show (k + 1) * 3 = (ctC x).length + k * 3 by show _ = 3 + _; omega, List.set_append_right _ _ (Nat.le_add_right _ _), Nat.add_sub_cancel_left]
/-- one number more at a place -/
theorem own_setA {w : World} {B g n c k : Nat} {e : TypeId} {l : List Ct} {x : Ct} (h : w.ownsRow B e 3 (.slice (some ⟨g, 0, none⟩) n c) n (ctsC l)) (hx : l[k]? = some x) (z : Int) : (w.setCell ⟨g, k * 3 + 1, none⟩ (.int .i64 z)).ownsRow B e 3 (.slice (some ⟨g, 0, none⟩) n c) n (ctsC (l.set k ⟨x.nm, z, x.d⟩)) := by
  rw [← ctsC_setA z hx]
  exact own_setX h _
theorem own_setD {w : World} {B g n c k : Nat} {e : TypeId} {l : List Ct} {x : Ct} (h : w.ownsRow B e 3 (.slice (some ⟨g, 0, none⟩) n c) n (ctsC l)) (hx : l[k]? = some x) (z : Int) : (w.setCell ⟨g, k * 3 + 2, none⟩ (.int .i64 z)).ownsRow B e 3 (.slice (some ⟨g, 0, none⟩) n c) n (ctsC (l.set k ⟨x.nm, x.a, z⟩)) := by
  rw [← ctsC_setD z hx]
  exact own_setX h _
/-- a row that is not empty lies in a block of its own, and can be written over -/
theorem own_atK {w : World} {B n : Nat} {e : TypeId} {v : Value} {l : List Ct} {k : Nat} {x : Ct} (h : w.ownsRow B e 3 v n (ctsC l)) (hx : l[k]? = some x) : ∃ g c, v = .slice (some ⟨g, 0, none⟩) n c ∧ B ≤ g ∧ g < w.heap.size ∧ w.cell? ⟨g, k * 3, none⟩ = some (.string x.nm) ∧ w.cell? ⟨g, k * 3 + 1, none⟩ = some (.int .i64 x.a) ∧ w.cell? ⟨g, k * 3 + 2, none⟩ = some (.int .i64 x.d) ∧ ∀ j, w.frozen? ⟨g, j, none⟩ = false := by
  have h0 := h
  obtain ⟨h1, h2⟩ := h
  rcases h2 with ⟨hv, hn⟩ | ⟨g, cap, cur, hv, hg, hh, hc, hm, hsz, ht⟩
  · rw [hn] at h1
    rw [ctsC_length] at h1
    have := (List.getElem?_eq_some_iff.1 hx).1
    omega
  · subst hv
    have hl : k * 3 + 2 < (ctsC l).length := by
      have := (List.getElem?_eq_some_iff.1 hx).1
      rw [ctsC_length]; omega
    refine ⟨g, cap, rfl, hg, lt_of_heap hh, ?_, ?_, ?_, fun j => h0.frozenAt j⟩
    · rw [h0.cellAt (k * 3) (by omega)]; exact (ctsC_get hx 0 (by omega)).trans rfl
    · rw [h0.cellAt (k * 3 + 1) (by omega)]; exact (ctsC_get hx 1 (by omega)).trans rfl
    · rw [h0.cellAt (k * 3 + 2) (by omega)]; exact (ctsC_get hx 2 (by omega)).trans rfl
/-- what is written over lies in a block of the call's own -/
theorem below_setX {B g j : Nat} {w0 w : World} {u : Value} (h : Below B w0 w) (hg : B ≤ g) : Below B w0 (w.setCell ⟨g, j, none⟩ u) := by
  refine h.trans ⟨by simp [World.setCell], by simp [World.setCell], by simp [World.setCell], by simp [World.setCell], fun i hi => ?_⟩
  exact Below.heap_setCell _ _ _ _ (by show i ≠ g; omega)
end Go.Proofs.YtnbonghlmdnabaaDoor.Sx
