/-
  The walks of sameInts and works.
-/
import Derived.Test.YtjgjfnmljmmplaaDoorC5
import Derived.Test.YtjgjfnmljmmplaaDoorNum
namespace Go.Proofs.YtjgjfnmljmmplaaDoor
open Go.RowKit
open Ed (Ch Run Pr)

theorem num_any (n : Nat) (w : World) (hg : ErrVar w) : Calls Tryd.prog 10 #[errV n] w fun e w' => e = .returned (.int .i64 n) ∧ Below w.heap.size w w' := by
  unfold errV
  split
  · next h => subst h; exact num_nil w
  · exact num_errno n w hg
theorem eq_at {l m : List Int} (hl : l.length = m.length) (h : ∀ (k : Nat) x, l[k]? = some x → m[k]? = some x) : l = m := by
  apply List.ext_getElem?
  intro k
  cases hk : l[k]? with
  | some x => rw [h k x hk]
  | none =>
    have : l.length ≤ k := List.getElem?_eq_none_iff.1 hk
    rw [List.getElem?_eq_none (by omega)]

def wkS : List Ch := [⟨0, 1, 0, 0⟩, ⟨1, 0, 0, 2⟩]
theorem wk_val : Ed.Val wkS 2 3 := ⟨by decide, by decide, by decide⟩
theorem wk_normal : Ed.normal wkS 2 3 = [⟨0, 1, 0, 2⟩] := by decide
theorem wk_apply : Ed.apP (Ed.runs wkS 2 0 0) [1, 2] [8, 9, 2] = [8, 9, 2] := by decide
theorem wk_bad : Ed.validN wkS 3 3 = 60 := by decide
theorem wk_good : Ed.validN wkS 2 3 = 0 := by decide
theorem wk_wf : ∀ c ∈ wkS, WfC c := by
  intro c hc
  unfold wkS at hc
  simp at hc
  rcases hc with rfl | rfl <;> (unfold WfC I64; simp)
theorem lit_rd {w : World} {g : Nat} {cs : List Value} {t : TypeId} {n : Nat} (h : w.heap[g]? = some (.cells cs.toArray t)) : RdX w (.slice (some ⟨g, 0, none⟩) n n) n cs :=
  .inr ⟨g, 0, n, rfl, Nat.le_refl _, lt_of_heap h, fun j u hj => by rw [Nat.zero_add, cell_of_blk h]; simpa using hj⟩

end Go.Proofs.YtjgjfnmljmmplaaDoor
