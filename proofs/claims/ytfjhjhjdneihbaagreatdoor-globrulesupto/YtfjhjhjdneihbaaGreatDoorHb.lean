/-
  Plain: how rules are read, a line after the other; a rule more in the row.
-/
import Derived.Test.YtfjhjhjdneihbaaGreatDoorHa
namespace Go.Proofs.YtfjhjhjdneihbaaGreatDoor
open Go.RowKit

theorem trm_len (l : List UInt8) : (trm l).length ≤ l.length := by
  have h : (Lib.trimRightB l 32).length ≤ l.length := by
    unfold Lib.trimRightB
    rw [List.length_reverse]
    exact Nat.le_trans (List.dropWhile_sublist _).length_le (Nat.le_of_eq (List.length_reverse ..))
  unfold trm
  split
  · rw [List.length_take]; omega
  · exact h
theorem cut_first (l : List UInt8) : (Lib.cut l [10]).1.length ≤ l.length := by
  unfold Lib.cut
  split
  · show (l.take _).length ≤ _
    rw [List.length_take]; omega
  · exact Nat.le_refl _
theorem cut_rest (l : List UInt8) (h : l ≠ []) : (Lib.cut l [10]).2.1.length < l.length := by
  have := List.length_pos_iff.2 h
  unfold Lib.cut
  split
  · show (l.drop _).length < _
    rw [List.length_drop, List.length_singleton]; omega
  · exact this
/-- the rules of a text, or the first line that is none, and why -/
def rdF : Nat → List UInt8 → Nat → List Ru → Sum (Nat × Nat) (List Ru)
  | 0, _, _, rs => .inr rs
  | f + 1, l, k, rs => if l = [] then .inr rs else if trm (Lib.cut l [10]).1 = [] ∨ Lib.hasPrefix (trm (Lib.cut l [10]).1) [35] = true then rdF f (Lib.cut l [10]).2.1 (k + 1) rs else
    match ruP (trm (Lib.cut l [10]).1) with
    | none => .inl (k, ruN (trm (Lib.cut l [10]).1))
    | some r => rdF f (Lib.cut l [10]).2.1 (k + 1) (rs ++ [r])
def RdTo (l : List UInt8) (k : Nat) (rs : List Ru) (X : Sum (Nat × Nat) (List Ru)) : Prop := ∃ f, l.length ≤ f ∧ rdF f l k rs = X
theorem RdTo.start (l : List UInt8) : RdTo l 1 [] (rdF l.length l 1 []) := ⟨_, Nat.le_refl _, rfl⟩
theorem RdTo.nil {k : Nat} {rs : List Ru} {X : Sum (Nat × Nat) (List Ru)} (h : RdTo [] k rs X) : X = .inr rs := by
  obtain ⟨f, _, h⟩ := h
  rw [← h]
  cases f with
  | zero => rfl
  | succ f => rw [rdF, if_pos rfl]
theorem RdTo.skip {l : List UInt8} {k : Nat} {rs : List Ru} {X : Sum (Nat × Nat) (List Ru)} (h : RdTo l k rs X) (hl : l ≠ []) (hc : trm (Lib.cut l [10]).1 = [] ∨ Lib.hasPrefix (trm (Lib.cut l [10]).1) [35] = true) : RdTo (Lib.cut l [10]).2.1 (k + 1) rs X := by
  obtain ⟨f, hf, h⟩ := h
  have hlt := cut_rest l hl
  cases f with
  | zero => exact absurd (List.length_eq_zero_iff.1 (Nat.le_zero.1 hf)) hl
  | succ f =>
    rw [rdF, if_neg hl, if_pos hc] at h
    exact ⟨f, by omega, h⟩
theorem RdTo.bad {l : List UInt8} {k : Nat} {rs : List Ru} {X : Sum (Nat × Nat) (List Ru)} (h : RdTo l k rs X) (hl : l ≠ []) (h1 : trm (Lib.cut l [10]).1 ≠ []) (h2 : Lib.hasPrefix (trm (Lib.cut l [10]).1) [35] = false) (h3 : ruP (trm (Lib.cut l [10]).1) = none) : X = .inl (k, ruN (trm (Lib.cut l [10]).1)) := by
  obtain ⟨f, hf, h⟩ := h
  cases f with
  | zero => exact absurd (List.length_eq_zero_iff.1 (Nat.le_zero.1 hf)) hl
  | succ f =>
    rw [rdF, if_neg hl, if_neg (by rw [h2]; simp [h1]), h3] at h
    exact h.symm
theorem RdTo.rule {l : List UInt8} {k : Nat} {rs : List Ru} {X : Sum (Nat × Nat) (List Ru)} {r : Ru} (h : RdTo l k rs X) (hl : l ≠ []) (h1 : trm (Lib.cut l [10]).1 ≠ []) (h2 : Lib.hasPrefix (trm (Lib.cut l [10]).1) [35] = false) (h3 : ruP (trm (Lib.cut l [10]).1) = some r) : RdTo (Lib.cut l [10]).2.1 (k + 1) (rs ++ [r]) X := by
  obtain ⟨f, hf, h⟩ := h
  have hlt := cut_rest l hl
  cases f with
  | zero => exact absurd (List.length_eq_zero_iff.1 (Nat.le_zero.1 hf)) hl
  | succ f =>
    rw [rdF, if_neg hl, if_neg (by rw [h2]; simp [h1]), h3] at h
    exact ⟨f, by omega, h⟩

theorem own_blk_lt {w : World} {B t k n i : Nat} {v : Value} {cs : List Value} (h : w.ownsRow B t k v n cs) (hi : v.ownBlock = some i) : i < w.heap.size := by
  rcases h.2 with ⟨hv, _⟩ | ⟨g, cap, cur, hv, hg, hh, _⟩
  · rw [hv] at hi; simp [Value.ownBlock] at hi
  · rw [hv] at hi
    have e : g = i := by simpa [Value.ownBlock] using hi
    subst e
    exact lt_of_heap hh
theorem RuC.later {w w' : World} {S : Nat → Prop} {cs : List Value} {rs : List Ru} (h : RuC w S cs rs) (hb : Below w.heap.size w w') : RuC w' S cs rs := fun j r hj => by
  obtain ⟨bp, c, k1, k2, k3, k4⟩ := h j r hj
  exact ⟨bp, c, k1, k2, k3, k4.grown (grown_of_below hb none) (fun i _ => by simp)⟩
theorem PcS.later {w w' : World} {S : Nat → Prop} {b : Nat} {ps : List Pg.Pi} (h : PcS w S b ps) (hb : Below w.heap.size w w') : PcS w' S b ps := h.grown (grown_of_below hb none) (fun i _ => by simp)
theorem grown_set (w : World) (b k : Nat) (u : Value) : w.grownBy (w.setCell ⟨b, k, none⟩ u) (some b) := ⟨by simp [World.setCell], by simp [World.setCell], by simp [World.setCell], by simp [World.setCell], fun i _ hne => Below.heap_setCell w ⟨b, k, none⟩ u i (fun e => hne (by rw [e]))⟩
theorem OwnRu.set {w : World} {B br k : Nat} {v u : Value} {rs : List Ru} (h : OwnRu w B br v rs) : OwnRu (w.setCell ⟨br, k, none⟩ u) B br v rs := by
  obtain ⟨cs, h1, h2, h3⟩ := h
  refine ⟨cs, ownsRow_setCell_other h1 (a := ⟨br, k, none⟩) h3 u, fun j r hj => ?_, h3⟩
  obtain ⟨bp, c, k1, k2, k3, k4⟩ := h2 j r hj
  exact ⟨bp, c, k1, k2, k3, k4.grown (grown_set w br k u) (fun i hA e => hA.2 (Option.some.inj e))⟩
/-- fresh blocks are neither the row's nor the rules' own -/
theorem away_fresh {w : World} {B br n : Nat} {v : Value} {rs : List Ru} (h : OwnRu w B br v rs) (hn : w.heap.size ≤ n) (hbr : br < w.heap.size) : ∀ i, n ≤ i → Away v br i := fun i hi => ⟨fun e => by
  obtain ⟨cs, h1, _⟩ := h
  have := own_blk_lt h1 e
  omega, by omega⟩
/-- a rule more -/
theorem own_rule {w w' : World} {B br bp c g cap : Nat} {v : Value} {rs : List Ru} {r : Ru} {cs : List Value} (h1 : w.ownsRow B 46 3 v rs.length cs) (h2 : RuC w (Away v br) cs rs) (h3 : v.ownBlock ≠ some br) (hq : PcS w (Away v br) bp r.ps) (hbr : br < w.heap.size)
    (g2 : w'.ownsRow B 46 3 (.slice (some ⟨g, 0, none⟩) (rs.length + 1) cap) (rs.length + 1) (cs ++ [.slice (some ⟨bp, 0, none⟩) r.ps.length c, .bool r.dirs, .bool r.back])) (g3 : w.grownBy w' v.ownBlock) (g4 : v.ownBlock = some g ∨ g = w.heap.size) : OwnRu w' B br (.slice (some ⟨g, 0, none⟩) (rs.length + 1) cap) (rs ++ [r]) := by
  have hl := h1.1
  have hS : ∀ i, i < w.heap.size → Away v br i → Away (.slice (some ⟨g, 0, none⟩) (rs.length + 1) cap) br i := by
    intro i hi hA
    refine ⟨fun e => ?_, hA.2⟩
    have e' : g = i := by cases e; rfl
    rcases g4 with g4 | g4
    · exact hA.1 (by rw [g4, e'])
    · omega
  have hgr : ∀ i, Away v br i → some i ≠ v.ownBlock := fun i hA e => hA.1 e.symm
  have hfin : ∀ q : Ru, ∀ b, PcS w (Away v br) b q.ps → PcS w' (Away (.slice (some ⟨g, 0, none⟩) (rs.length + 1) cap) br) b q.ps := fun q b hb => by
    have h4 := (PcS.imp hb (S' := fun i => Away v br i ∧ Away (.slice (some ⟨g, 0, none⟩) (rs.length + 1) cap) br i) (fun i hi hA => ⟨hA, hS i hi hA⟩)).grown g3 (fun i hA => hgr i hA.1)
    exact h4.imp fun i _ hA => hA.2
  refine ⟨_, by rw [List.length_append]; exact g2, ?_, ?_⟩
  · intro j q hj
    by_cases hjl : j < rs.length
    · rw [List.getElem?_append_left hjl] at hj
      obtain ⟨bq, cq, k1, k2, k3, k4⟩ := h2 j q hj
      rw [List.getElem?_append_left (by omega), List.getElem?_append_left (by omega), List.getElem?_append_left (by omega)]
      exact ⟨bq, cq, k1, k2, k3, hfin q bq k4⟩
    · have hjl2 : j < (rs ++ [r]).length := by
        rcases Nat.lt_or_ge j (rs ++ [r]).length with k | k
        · exact k
        · rw [List.getElem?_eq_none k] at hj; cases hj
      have hje : j = rs.length := by rw [List.length_append, List.length_singleton] at hjl2; omega
      subst hje
      rw [List.getElem?_append_right (Nat.le_refl _), Nat.sub_self] at hj
      have hr : r = q := by simpa using hj
      subst hr
      rw [List.getElem?_append_right (by omega), List.getElem?_append_right (by omega), List.getElem?_append_right (by omega), hl, Nat.sub_self, show rs.length * 3 + 1 - rs.length * 3 = 1 by omega, show rs.length * 3 + 2 - rs.length * 3 = 2 by omega]
      exact ⟨bp, c, rfl, rfl, rfl, hfin r bp hq⟩
  · intro e
    have e' : g = br := by cases e; rfl
    rcases g4 with g4 | g4
    · exact h3 (by rw [g4, e'])
    · omega
end Go.Proofs.YtfjhjhjdneihbaaGreatDoor
