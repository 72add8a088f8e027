/-
  The walks of isCount, isWithin, Valid.
-/
import Derived.Test.YtagjjhlegojpbaaC0
namespace Go.Proofs.Ytagjjhlegojpbaa
open Go.RowKit
open Ed (Ch Run Pr)

theorem okC_split {a b n m : Int} {c : Ch} (h : ¬ Ed.okC a b n m c) : Ed.within c.a c.n a n = false ∨ (Ed.within c.a c.n a n = true ∧ Ed.within c.b c.m b m = false) ∨ (Ed.within c.a c.n a n = true ∧ Ed.within c.b c.m b m = true ∧ c.n = 0 ∧ c.m = 0) ∨
    (Ed.within c.a c.n a n = true ∧ Ed.within c.b c.m b m = true ∧ ¬(c.n = 0 ∧ c.m = 0) ∧ c.a - a ≠ c.b - b) := by
  cases h1 : Ed.within c.a c.n a n with
  | false => exact .inl rfl
  | true =>
    cases h2 : Ed.within c.b c.m b m with
    | false => exact .inr (.inl ⟨rfl, rfl⟩)
    | true =>
      by_cases h3 : c.n = 0 ∧ c.m = 0
      · exact .inr (.inr (.inl ⟨rfl, rfl, h3.1, h3.2⟩))
      · refine .inr (.inr (.inr ⟨rfl, rfl, h3, fun h4 => h ?_⟩))
        exact ⟨Ed.within_iff.1 h1, Ed.within_iff.1 h2, h3, h4⟩
theorem drop_at {α : Type} {l : List α} {k : Nat} {x : α} (h : l[k]? = some x) : l.drop k = x :: l.drop (k + 1) := by
  have hl : k < l.length := by
    rcases Nat.lt_or_ge k l.length with q | q
    · exact q
    · rw [List.getElem?_eq_none q] at h; cases h
  rw [List.drop_eq_getElem_cons hl]
  congr 1
  exact List.getElem_eq_iff hl |>.2 h

end Go.Proofs.Ytagjjhlegojpbaa
