/-
  Gathered by wip/genref.py: wpList_append_in, own_setI, Apart.symm, apart_none, kept_row, apart_new, lit_rd.
-/
import Derived.Test.YtdilmgcdebobaaaV5
namespace Go.Proofs.Ytdilmgcdebobaaa
open Go.RowKit
open Ed (Ch Run Pr)

abbrev OwnI (w : World) (B : Nat) (v : Value) (l : List Int) : Prop := w.ownsRow B 3 1 v l.length (isC l)
theorem lit_rd {w : World} {g : Nat} {cs : List Value} {t : TypeId} {n : Nat} (h : w.heap[g]? = some (.cells cs.toArray t)) : RdX w (.slice (some ⟨g, 0, none⟩) n n) n cs :=
  .inr ⟨g, 0, n, rfl, Nat.le_refl _, lt_of_heap h, fun j u hj => by rw [Nat.zero_add, cell_of_blk h]; simpa using hj⟩
def Apart (u v : Value) : Prop := ∀ k, u.ownBlock = some k → v.ownBlock ≠ some k
theorem Apart.symm {u v : Value} (h : Apart u v) : Apart v u := fun k h1 h2 => h k h2 h1
theorem apart_none (v : Value) : Apart (.slice none 0 0) v := fun k h => by cases h
theorem kept_row {w w' : World} {base n size : Nat} {e : TypeId} {v u : Value} {xs : List Value} (h : w.ownsRow base e size u n xs) (hg : w.grownBy w' v.ownBlock) (ha : Apart v u) : w'.ownsRow base e size u n xs :=
  World.ownsRow.kept h hg (by
    cases hu : u.ownBlock with
    | none => exact .inl rfl
    | some k => exact .inr fun e => ha k e.symm hu)
theorem apart_new {w : World} {base n size : Nat} {e : TypeId} {v v' u : Value} {xs : List Value} (h : w.ownsRow base e size u n xs) (ha : Apart v u) (hl : ∀ k, v'.ownBlock = some k → v.ownBlock = some k ∨ w.heap.size ≤ k) : Apart v' u := by
  intro k h1 h2
  rcases hl k h1 with h3 | h3
  · exact ha k h3 h2
  · have := own_lt h k h2
    omega
/-- what an append does to the world, where its row lies -/
def Grew (w w' : World) (v v' : Value) : Prop := w.grownBy w' v.ownBlock ∧ (∀ k, v'.ownBlock = some k → v.ownBlock = some k ∨ w.heap.size ≤ k)
/-- append of one number, at a plain region -/
theorem wpList_append_in {w : World} {ops : Array Oper} {rest : List Oper} {o : Oper} {a : Act} {Q : Exit → Act → World → Prop} (hgd : o.guard = none) (s x : Operand)
    (ho : o.op = .call { callee := .builtin .append, args := #[s, x], argTypes := #[22, 22] }) (B : Nat) (v : Value) (l : List Int) (hs : a.eval s = v) (hown : OwnI w B v l)
    (g0 cp : Nat) (n : Int) (hx : a.eval x = .slice (some ⟨g0, 0, none⟩) 1 cp) (hy : w.cell? ⟨g0, 0, none⟩ = some (.int .i64 n)) (hfit : l.length ≤ 1000000000) (hB : B ≤ w.heap.size)
    (h : ∀ v' w', OwnI w' B v' (l ++ [n]) → Grew w w' v v' → wpList Try.prog ops Q rest (a.put o.dst v') w') : wpList Try.prog ops Q (o :: rest) a w := by
  obtain ⟨i0, hi, hz0, hz1, hz2⟩ := info_parts Try.infoInt
  refine wpList_append_lies _ hgd s x 22 ho B 3 i0 (.int .i64 0) 1 8 Try.underlying22 hi hz0 hz1 hz2 rfl (by decide) v l.length (isC l) hs hown ⟨g0, 0, none⟩ 1 cp [.int .i64 n] hx rfl ?_ ?_ (by decide) ?_ ?_ hB w.heap.size rfl ?_
  · intro j u hj
    match j, hj with
    | 0, hj => simp at hj; subst hj; rw [Go.WideShapes.add_plain]; exact hy
  · intro u hu; simp at hu; subst hu; rfl
  · unfold maxLen; omega
  · omega
  · intro g cap w' h2 h3 h4 _
    refine h _ w' ?_ ⟨h3, ?_⟩
    · show w'.ownsRow _ _ _ _ _ _
      rw [List.length_append, isC_append]
      exact h2
    · intro k hk
      cases hk
      rcases h4 with h4 | h4
      · exact .inl h4
      · exact .inr (Nat.le_of_eq h4.symm)
theorem own_setI {w : World} {B g n c k : Nat} {l : List Int} (h : w.ownsRow B 3 1 (.slice (some ⟨g, 0, none⟩) n c) n (isC l)) (z : Int) : (w.setCell ⟨g, k, none⟩ (.int .i64 z)).ownsRow B 3 1 (.slice (some ⟨g, 0, none⟩) n c) n (isC (l.set k z)) := by
  obtain ⟨h1, h2⟩ := h
  rcases h2 with ⟨hv, _⟩ | ⟨g', cap, cur, hv, hg, hh, hc, hm, hsz, ht⟩
  · cases hv
  · cases hv
    refine ⟨by rw [isC_length, List.length_set, ← isC_length]; exact h1, .inr ⟨g, c, _, rfl, hg, set_heap _ g k _ _ _ hh, hc, hm, by simpa using hsz, ?_⟩⟩
    rw [show isC (l.set k z) = (isC l).set k (.int .i64 z) by unfold isC; rw [List.map_set], ← ht]
    simp only [Array.toList_setIfInBounds, List.take_set]
end Go.Proofs.Ytdilmgcdebobaaa
