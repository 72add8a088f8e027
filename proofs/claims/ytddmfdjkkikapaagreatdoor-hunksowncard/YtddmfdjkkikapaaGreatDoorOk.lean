/-
  Hunks that are written over: what stays.
-/
import Derived.Test.YtddmfdjkkikapaaGreatDoorGrMa
import Derived.Test.YtddmfdjkkikapaaGreatDoorGrLb
namespace Go.Proofs.YtddmfdjkkikapaaGreatDoor
open Go.RowKit
open Hu (Rw Hk)

theorem set_sizeN (w : World) (g k : Nat) (u : Value) : (w.setCell ⟨g, k, none⟩ u).heap.size = w.heap.size := by
  simp [World.setCell]
theorem Kept.setN {X : Nat → Prop} {w w' : World} (h : Kept X w w') {g k : Nat} (hx : X g) (u : Value) : Kept X w (w'.setCell ⟨g, k, none⟩ u) :=
  ⟨h.os, h.tape, h.output, by rw [set_sizeN]; exact h.size, fun j hj hn => (set_other w' (fun e => hn (by rw [e]; exact hx))).trans (h.block j hj hn)⟩
/-- a row of hunks' block whose hunks' rows can be written over, all in blocks from B to E -/
structure SpB (w : World) (B E g n : Nat) (cur : Array Value) : Prop where
  hp : w.heap[g]? = some (.cells cur 37)
  lo : B ≤ g
  hi : g < E
  sz : n * 6 ≤ cur.size
  row : ∀ i, i < n → ∃ x m c, cur[i * 6 + 5]? = some (.slice x m c) ∧ m < 5864062014800 ∧ (0 < m → ∃ g' cr, x = some ⟨g', 0, none⟩ ∧ B ≤ g' ∧ g' < E ∧ w.heap[g']? = some (.cells cr 59) ∧ m * 2 ≤ cr.size)
theorem SpB.ne {w : World} {B E g n g' : Nat} {cur cr : Array Value} (h : SpB w B E g n cur) (hr : w.heap[g']? = some (.cells cr 59)) : g ≠ g' := by
  intro e
  have h1 := h.hp
  rw [e, hr] at h1
  simp at h1
theorem SpB.setRow {w : World} {B E g n g' j : Nat} {cur cr : Array Value} {u : Value} (h : SpB w B E g n cur) (hr : w.heap[g']? = some (.cells cr 59)) : SpB (w.setCell ⟨g', j, none⟩ u) B E g n cur := by
  refine ⟨(set_other _ (h.ne hr)).trans h.hp, h.lo, h.hi, h.sz, fun i hi => ?_⟩
  obtain ⟨x, m, c, h1, hm, h2⟩ := h.row i hi
  refine ⟨x, m, c, h1, hm, fun hm => ?_⟩
  obtain ⟨g2, c2, e1, e2, e3, e4, e5⟩ := h2 hm
  by_cases hg : g2 = g'
  · subst hg
    rw [hr] at e4
    have e6 : c2 = cr := by simp at e4; exact e4.symm
    subst e6
    exact ⟨g2, _, e1, e2, e3, set_heap _ _ j _ _ u hr, by simpa using e5⟩
  · exact ⟨g2, c2, e1, e2, e3, (set_other _ hg).trans e4, e5⟩
theorem SpB.setHunk {w : World} {B E g n i : Nat} {cur : Array Value} {u0 u1 u2 u3 u4 : Value} (h : SpB w B E g n cur) (hi : i < n) :
    ∃ cur', SpB ((((((w.setCell ⟨g, i * 6, none⟩ u0).setCell ⟨g, i * 6 + 1, none⟩ u1).setCell ⟨g, i * 6 + 2, none⟩ u2).setCell ⟨g, i * 6 + 3, none⟩ u3).setCell ⟨g, i * 6 + 4, none⟩ u4).setCell ⟨g, i * 6 + 5, none⟩ (.slice none 0 0)) B E g n cur' := by
  have hh := set_heap _ g (i * 6 + 5) _ _ (.slice none 0 0) (set_heap _ g (i * 6 + 4) _ _ u4 (set_heap _ g (i * 6 + 3) _ _ u3 (set_heap _ g (i * 6 + 2) _ _ u2 (set_heap _ g (i * 6 + 1) _ _ u1 (set_heap w g (i * 6) _ _ u0 h.hp)))))
  refine ⟨_, hh, h.lo, h.hi, by simpa using h.sz, fun i' hi' => ?_⟩
  have hsz := h.sz
  by_cases he : i' = i
  · subst he
    refine ⟨none, 0, 0, ?_, by decide, fun hm => absurd hm (by decide)⟩
    rw [Array.getElem?_setIfInBounds_self_of_lt (by simp; omega)]
  · obtain ⟨x, m, c, h1, hm, h2⟩ := h.row i' hi'
    refine ⟨x, m, c, ?_, hm, fun hm => ?_⟩
    · rw [Array.getElem?_setIfInBounds_ne (by omega), Array.getElem?_setIfInBounds_ne (by omega), Array.getElem?_setIfInBounds_ne (by omega), Array.getElem?_setIfInBounds_ne (by omega), Array.getElem?_setIfInBounds_ne (by omega), Array.getElem?_setIfInBounds_ne (by omega)]
      exact h1
    · obtain ⟨g2, c2, e1, e2, e3, e4, e5⟩ := h2 hm
      have hne : g2 ≠ g := fun e => h.ne e4 e.symm
      exact ⟨g2, c2, e1, e2, e3, (set_other _ hne).trans ((set_other _ hne).trans ((set_other _ hne).trans ((set_other _ hne).trans ((set_other _ hne).trans ((set_other _ hne).trans e4))))), e5⟩
/-- a list of hunks that can be written over -/
def SpL (w : World) (B E : Nat) (a : Option Addr) (n : Nat) : Prop := 0 < n → ∃ g cur, a = some ⟨g, 0, none⟩ ∧ SpB w B E g n cur
theorem OwnH.sp {w : World} {B n c : Nat} {a : Option Addr} {l : List Hk} (h : OwnH w B (.slice a n c) l) (hz : ∀ x ∈ l, x.rows.length < 5864062014800) : SpL w B w.heap.size a n := by
  intro hn
  obtain ⟨p, h1, h2, h3⟩ := h
  obtain ⟨g1, ⟨hv, hv2⟩ | ⟨g, cap, cur, hv, hB, hh, hc, hm, hsz, htk⟩⟩ := h2
  · exfalso
    simp only [Value.slice.injEq] at hv
    omega
  · simp only [Value.slice.injEq] at hv
    obtain ⟨rfl, rfl, rfl⟩ := hv
    refine ⟨g, cur, rfl, hh, hB, lt_of_heap hh, by rw [hsz]; exact Nat.mul_le_mul_right 6 hc, fun i hi => ?_⟩
    have hpl : p.length = l.length := by rw [← h1, List.length_map]
    obtain ⟨q, hq⟩ : ∃ q, p[i]? = some q := ⟨_, List.getElem?_eq_getElem (by omega)⟩
    have hrow := h3 q (List.mem_of_getElem? hq)
    have hql : q.1.rows.length < 5864062014800 := hz q.1 (by rw [← h1]; exact List.mem_map.2 ⟨q, List.mem_of_getElem? hq, rfl⟩)
    have hcell : cur[i * 6 + 5]? = some q.2 := by
      have h5 := hksC_get hq 5 (by omega)
      rw [← htk, List.getElem?_take, if_pos (by omega), Array.getElem?_toList] at h5
      exact h5
    obtain ⟨_, ⟨hv, hn0⟩ | ⟨g', cap', cr, hv, hB', hh', hc', hm', hsz', _⟩⟩ := hrow
    · exact ⟨none, 0, 0, by rw [hcell, hv], by decide, fun hm => absurd hm (by decide)⟩
    · exact ⟨_, _, _, by rw [hcell, hv], hql, fun _ => ⟨g', cr, rfl, hB', lt_of_heap hh', hh', by rw [hsz']; exact Nat.mul_le_mul_right 2 hc'⟩⟩
theorem SpL.stays {w w' : World} {B E n : Nat} {a : Option Addr} (h : SpL w B E a n) (hb : Below w.heap.size w w') : SpL w' B E a n := by
  intro hn
  obtain ⟨g, cur, ha, h1, h2, h3, h4, h5⟩ := h hn
  refine ⟨g, cur, ha, (hb.block g (lt_of_heap h1)).trans h1, h2, h3, h4, fun i hi => ?_⟩
  obtain ⟨x, m, c, e1, hm, e2⟩ := h5 i hi
  refine ⟨x, m, c, e1, hm, fun hm => ?_⟩
  obtain ⟨g', cr, f1, f2, f3, f4, f5⟩ := e2 hm
  exact ⟨g', cr, f1, f2, f3, (hb.block g' (lt_of_heap f4)).trans f4, f5⟩
/-- a list of hunks of the call's own, where nothing of its own was written -/
theorem OwnH.farN {w w' : World} {B : Nat} {v : Value} {l : List Hk} (h : OwnH w B v l) (hg : ∀ g, B ≤ g → g < w.heap.size → w'.heap[g]? = w.heap[g]?) : OwnH w' B v l := by
  obtain ⟨p, h1, h2, h3⟩ := h
  exact ⟨p, h1, own_far h2 (fun g k => hg g (own_ge h2 g k) (own_lt h2 g k)), fun q hq => own_far (h3 q hq) (fun g k => hg g (own_ge (h3 q hq) g k) (own_lt (h3 q hq) g k))⟩
theorem SpL.farN {w w' : World} {B E n : Nat} {a : Option Addr} (h : SpL w B E a n) (hg : ∀ g, B ≤ g → g < E → w'.heap[g]? = w.heap[g]?) : SpL w' B E a n := by
  intro hn
  obtain ⟨g, cur, ha, h1, h2, h3, h4, h5⟩ := h hn
  refine ⟨g, cur, ha, (hg g h2 h3).trans h1, h2, h3, h4, fun i hi => ?_⟩
  obtain ⟨x, m, c, e1, hm, e2⟩ := h5 i hi
  refine ⟨x, m, c, e1, hm, fun hm => ?_⟩
  obtain ⟨g', cr, f1, f2, f3, f4, f5⟩ := e2 hm
  exact ⟨g', cr, f1, f2, f3, (hg g' f2 f3).trans f4, f5⟩
end Go.Proofs.YtddmfdjkkikapaaGreatDoor
