/-
  What the walk of the document's rule holds.
-/
import Derived.Test.YtfjhjhjdneihbaaGreatDoorI4b
namespace Go.Proofs.YtfjhjhjdneihbaaGreatDoor
open Go.RowKit

/-- what rule answers -/
def RlP (B : Nat) (l : List UInt8) (e : Ending) (w' : World) : Prop :=
  (drP l = none ∧ (ruN l = 2 ∨ ruN l = 40) ∧ ∃ b0 b1 b2 a n c, e = .returned (.tuple #[.agg #[.bool b0, .bool b1, .bool b2, .slice a n c], .int .i64 (ruN l)])) ∨
  ∃ (d : DR) (v : Value), drP l = some d ∧ e = .returned (.tuple #[.agg #[.bool d.back, .bool d.dir, .bool d.rooted, v], .int .i64 0]) ∧ OwnDp w' B v d.ps
theorem pre_cons (c d : UInt8) (r : List UInt8) : Lib.hasPrefix (c :: r) [d] = decide (d = c) := by
  unfold Lib.hasPrefix
  rw [Bool.eq_iff_iff, List.isPrefixOf_iff_prefix, decide_eq_true_iff]
  constructor
  · rintro ⟨t, ht⟩; injection ht
  · rintro rfl; exact ⟨r, rfl⟩
theorem two_objs (w : World) (A B : Obj) : ((w.alloc A).alloc B).heap[w.heap.size]? = some A ∧ ((w.alloc A).alloc B).heap[w.heap.size + 1]? = some B ∧ Below w.heap.size w ((w.alloc A).alloc B) := by
  have h1 := heap_alloc_new w A
  have h2 := heap_alloc_new (w.alloc A) B
  have hb2 := (Below.refl (w.alloc A).heap.size (w.alloc A)).alloc (Nat.le_refl _) B
  refine ⟨(hb2.block w.heap.size (lt_of_heap h1)).trans h1, by simpa using h2, ((Below.refl _ _).alloc (Nat.le_refl _) _).alloc (by simp) _⟩
theorem setc_heap (w : World) (g k : Nat) (cs : Array Value) (t : TypeId) (u : Value) (h : w.heap[g]? = some (.cells cs t (0, 0))) : (w.setCell ⟨g, k, none⟩ u).heap[g]? = some (.cells (cs.setIfInBounds k u) t (0, 0)) := by
  have hl := lt_of_heap h
  have he : w.heap[g] = .cells cs t (0, 0) := by rw [Array.getElem?_eq_getElem hl] at h; exact Option.some.inj h
  simp [World.setCell, hl, Array.getElem_modify, he]
theorem setc_other (w : World) {g k j : Nat} {u : Value} (h : j ≠ g) : (w.setCell ⟨g, k, none⟩ u).heap[j]? = w.heap[j]? := by
  simp [World.setCell, Array.getElem?_modify, Ne.symm h]
theorem setc_size (w : World) (g k : Nat) (u : Value) : (w.setCell ⟨g, k, none⟩ u).heap.size = w.heap.size := by simp [World.setCell]
theorem setc_below {B g k : Nat} {w wr : World} {u : Value} (h : Below B w wr) (hg : B ≤ g) : Below B w (wr.setCell ⟨g, k, none⟩ u) :=
  ⟨h.os, h.tape, h.output, by rw [setc_size]; exact h.size, fun i hi => (setc_other wr (by omega)).trans (h.block i hi)⟩
theorem frz_of_blk {w : World} {g : Nat} {cs : Array Value} {t : TypeId} (h : w.heap[g]? = some (.cells cs t (0, 0))) (o : Nat) : w.frozen? ⟨g, o, none⟩ = false := by
  simp [World.frozen?, h]
theorem four_set {w : World} {g : Nat} {a b c d x y z u : Value} {t : TypeId} (h : w.heap[g]? = some (.cells #[a, b, c, d] t (0, 0))) : ((((w.setCell ⟨g, 0, none⟩ x).setCell ⟨g, 1, none⟩ y).setCell ⟨g, 2, none⟩ z).setCell ⟨g, 3, none⟩ u).heap[g]? = some (.cells #[x, y, z, u] t (0, 0)) :=
  setc_heap _ g 3 _ _ u (setc_heap _ g 2 _ _ z (setc_heap _ g 1 _ _ y (setc_heap _ g 0 _ _ x h)))
theorem four_below {B g : Nat} {w wr : World} {x y z u : Value} (h : Below B w wr) (hg : B ≤ g) : Below B w ((((wr.setCell ⟨g, 0, none⟩ x).setCell ⟨g, 1, none⟩ y).setCell ⟨g, 2, none⟩ z).setCell ⟨g, 3, none⟩ u) := setc_below (setc_below (setc_below (setc_below h hg) hg) hg) hg
theorem four_cells {W : World} {g : Nat} {x y z u : Value} {t : TypeId} (h : W.heap[g]? = some (.cells #[x, y, z, u] t (0, 0))) : W.cell? ⟨g, 0, none⟩ = some x ∧ W.cell? ⟨g, 1, none⟩ = some y ∧ W.cell? ⟨g, 2, none⟩ = some z ∧ W.cell? ⟨g, 3, none⟩ = some u := ⟨cell_of_blk h 0, cell_of_blk h 1, cell_of_blk h 2, cell_of_blk h 3⟩
/-- the rule that is being made -/
structure RlSt (w wr : World) (g2 g4 : Nat) (b0 b1 b2 : Bool) (v : Value) : Prop where
  res : wr.heap[g2]? = some (.cells #[.bool false, .bool false, .bool false, .slice none 0 0] 52 (0, 0))
  cur : wr.heap[g4]? = some (.cells #[.bool b0, .bool b1, .bool b2, v] 52 (0, 0))
  bel : Below w.heap.size w wr
theorem RlSt.later {w wr w' : World} {g2 g4 : Nat} {b0 b1 b2 : Bool} {v : Value} (h : RlSt w wr g2 g4 b0 b1 b2 v) (hb : Below wr.heap.size wr w') : RlSt w w' g2 g4 b0 b1 b2 v :=
  ⟨(hb.block g2 (lt_of_heap h.res)).trans h.res, (hb.block g4 (lt_of_heap h.cur)).trans h.cur, h.bel.trans (hb.mono h.bel.size)⟩
theorem OwnP.mono {w : World} {B B' : Nat} {v : Value} {P : List Pg.Pt} (h : OwnP w B v P) (hb : B' ≤ B) : OwnP w B' v P := ⟨h.1, by
    rcases h.2 with q | ⟨g, cap, cur, hv, hg, r⟩
    · exact .inl q
    · exact .inr ⟨g, cap, cur, hv, Nat.le_trans hb hg, r⟩⟩
theorem own_set' {w : World} {B n sz g k : Nat} {e : TypeId} {v u : Value} {xs : List Value} (h : w.ownsRow B e sz v n xs) (hg : g < B) : (w.setCell ⟨g, k, none⟩ u).ownsRow B e sz v n xs :=
  World.ownsRow.kept h (grown_set w g k u) (by
    cases hu : v.ownBlock with
    | none => exact .inl rfl
    | some i => exact .inr fun e => by have := (own_ge' h i hu).1; cases e; omega)
theorem OwnDp.set {w : World} {B g k : Nat} {v u : Value} {ps : List Pg.Pi} (h : OwnDp w B v ps) (hg : g < B) : OwnDp (w.setCell ⟨g, k, none⟩ u) B v ps := by
  obtain ⟨cs, h1, h2⟩ := h
  exact ⟨cs, own_set' h1 hg, fun j q hj => by
    obtain ⟨x, y, e1, e2, e3, e4, e5⟩ := h2 j q hj
    exact ⟨x, y, e1, e2, e3, e4, fun P hP => ⟨own_set' (e5 P hP).1 hg, (e5 P hP).2⟩⟩⟩
/-- the rule so far -/
structure RlLp (w w5 wr : World) (g2 g4 : Nat) (bk dr rt : Bool) (X : List (List UInt8)) (j : Nat) (v4 : Value) (ps : List Pg.Pi) : Prop where
  done : pcsR rt (X.take j) = some ps
  st : RlSt w wr g2 g4 bk dr rt v4
  row : OwnDp wr w5.heap.size v4 ps
  kept : ∀ i, i < w5.heap.size → i ≠ g4 → wr.heap[i]? = w5.heap[i]?
  size : w5.heap.size ≤ wr.heap.size
theorem RlLp.later {w w5 wr w' : World} {g2 g4 j : Nat} {bk dr rt : Bool} {X : List (List UInt8)} {v4 : Value} {ps : List Pg.Pi} (h : RlLp w w5 wr g2 g4 bk dr rt X j v4 ps) (hb : Below wr.heap.size wr w') : RlLp w w5 w' g2 g4 bk dr rt X j v4 ps :=
  ⟨h.done, h.st.later hb, h.row.later hb, fun i hi hne => (hb.block i (Nat.lt_of_lt_of_le hi h.size)).trans (h.kept i hi hne), Nat.le_trans h.size hb.size⟩
theorem RlLp.put {w w5 wr w' : World} {g2 g4 j : Nat} {bk dr rt : Bool} {X : List (List UInt8)} {v4 v' : Value} {ps : List Pg.Pi} {q : Pg.Pi} (h : RlLp w w5 wr g2 g4 bk dr rt X j v4 ps) (h2 : g2 < w5.heap.size) (h4 : g4 < w5.heap.size) (hne : g2 ≠ g4) (hw : w.heap.size ≤ g4)
    (hO : OwnDp w' w5.heap.size v' (ps ++ [q])) (hg : wr.grownBy w' v4.ownBlock) (hd : pcsR rt (X.take (j + 1)) = some (ps ++ [q])) : RlLp w w5 (w'.setCell ⟨g4, 3, none⟩ v') g2 g4 bk dr rt X (j + 1) v' (ps ++ [q]) := by
  have hk : ∀ i, i < w5.heap.size → w'.heap[i]? = wr.heap[i]? := fun i hi => hg.block i (Nat.lt_of_lt_of_le hi h.size) (fun e => by
    obtain ⟨cs, h1, _⟩ := h.row
    have := (own_ge' h1 i e.symm).1
    omega)
  have hb : Below w.heap.size w w' := h.st.bel.grown hg h.st.bel.size (fun i e => by
    obtain ⟨cs, h1, _⟩ := h.row
    have := (own_ge' h1 i e).1
    omega)
  refine ⟨hd, ⟨(setc_other _ hne).trans ((hk g2 h2).trans h.st.res), ?_, setc_below hb hw⟩, hO.set h4, fun i hi hn => (setc_other _ hn).trans ((hk i hi).trans (h.kept i hi hn)), by rw [setc_size]; exact Nat.le_trans h.size hg.size⟩
  exact setc_heap _ g4 3 _ _ v' ((hk g4 h4).trans h.st.cur)
end Go.Proofs.YtfjhjhjdneihbaaGreatDoor
