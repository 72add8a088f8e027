/-
  The walk of Invert.
-/
import Derived.Test.YtjgjfnmljmmplaaDoorC5
namespace Go.Proofs.YtjgjfnmljmmplaaDoor
open Go.RowKit
open Ed (Ch Run Pr)

def z0 : Ch := ⟨0, 0, 0, 0⟩
def CRow (w : World) (g : Nat) (l : List Ch) : Prop := w.heap[g]? = some (.cells (csC l).toArray 45)
theorem made_cs (n : Nat) : (madeCells (Value.agg #[.int .i64 0, .int .i64 0, .int .i64 0, .int .i64 0]).cells (n * 4)).toList = csC (List.replicate n z0) := by
  apply List.ext_getElem?
  intro j
  by_cases hj : j < n * 4
  · obtain ⟨c, hc⟩ : ∃ c, (List.replicate n z0)[j / 4]? = some c := ⟨_, List.getElem?_eq_getElem (by rw [List.length_replicate]; omega)⟩
    have hc' : c = z0 := List.eq_of_mem_replicate (List.mem_of_getElem? hc)
    have h1 := csC_get hc (j % 4) (by omega)
    rw [show j / 4 * 4 + j % 4 = j by omega] at h1
    rw [h1, hc']
    have hm : j % 4 < 4 := by omega
    simp only [madeCells, Value.cells]
    rw [Array.getElem?_toList, Array.getElem?_eq_getElem (by simpa using hj)]
    simp
    generalize j % 4 = q at hm ⊢
    match q, hm with
    | 0, _ => rfl
    | 1, _ => rfl
    | 2, _ => rfl
    | 3, _ => rfl
  · rw [List.getElem?_eq_none, List.getElem?_eq_none]
    · rw [csC_length, List.length_replicate]; omega
    · simp [madeCells]; omega
theorem made_crow {w : World} {B g n : Nat} (h : w.ownsRow B 45 4 (.slice (some ⟨g, 0, none⟩) n n) n (madeCells (Value.agg #[.int .i64 0, .int .i64 0, .int .i64 0, .int .i64 0]).cells (n * 4)).toList) : CRow w g (List.replicate n z0) := by
  rcases h.2 with ⟨hv, _⟩ | ⟨g', cap, cur, hv, hg, hh, hc, _, hsz, ht⟩
  · cases hv
  · cases hv
    have e : cur.toList = csC (List.replicate n z0) := by
      rw [← made_cs, ← ht, List.take_of_length_le]
      rw [Array.length_toList, hsz]
      exact Nat.le_refl _
    have e2 : cur = (csC (List.replicate n z0)).toArray := by
      apply Array.ext'
      rw [e]
    rw [e2] at hh
    exact hh
theorem csC_set (l : List Ch) (k : Nat) (c : Ch) (hk : k < l.length) : ((((csC l).set (k * 4) (.int .i64 c.a)).set (k * 4 + 1) (.int .i64 c.n)).set (k * 4 + 2) (.int .i64 c.b)).set (k * 4 + 3) (.int .i64 c.m) = csC (l.set k c) := by
  induction l generalizing k with
  | nil => simp at hk
  | cons x l ih =>
    cases k with
    | zero => rfl
    | succ k =>
      have ih' := ih k (by simpa using hk)
      rw [List.set_cons_succ]
      show (((((cC x ++ csC l).set ((k + 1) * 4) _).set ((k + 1) * 4 + 1) _).set ((k + 1) * 4 + 2) _).set ((k + 1) * 4 + 3) _) = cC x ++ csC (l.set k c)
      rw [← ih']
      have e : ∀ (j : Nat) (y : List Value) (u : Value), (cC x ++ y).set ((k + 1) * 4 + j) u = cC x ++ y.set (k * 4 + j) u := fun j y u => by
        rw [List.set_append, if_neg (by show ¬ (k + 1) * 4 + j < 4; omega)]
        congr 2
        show (k + 1) * 4 + j - 4 = k * 4 + j
        omega
      have e0 : ∀ (y : List Value) (u : Value), (cC x ++ y).set ((k + 1) * 4) u = cC x ++ y.set (k * 4) u := fun y u => e 0 y u
      rw [e0, e, e, e]
theorem CRow.set {w : World} {g : Nat} {l : List Ch} (h : CRow w g l) (k : Nat) (c : Ch) (hk : k < l.length) : CRow ((((w.setCell ⟨g, k * 4, none⟩ (.int .i64 c.a)).setCell ⟨g, k * 4 + 1, none⟩ (.int .i64 c.n)).setCell ⟨g, k * 4 + 2, none⟩ (.int .i64 c.b)).setCell ⟨g, k * 4 + 3, none⟩ (.int .i64 c.m)) g (l.set k c) := by
  have h1 := set_heap _ g (k * 4) _ _ (.int .i64 c.a) h
  have h2 := set_heap _ g (k * 4 + 1) _ _ (.int .i64 c.n) h1
  have h3 := set_heap _ g (k * 4 + 2) _ _ (.int .i64 c.b) h2
  have h4 := set_heap _ g (k * 4 + 3) _ _ (.int .i64 c.m) h3
  unfold CRow
  rw [h4, ← csC_set l k c hk]
  simp
theorem CRow.own {w : World} {B g n : Nat} {l : List Ch} (h : CRow w g l) (hl : l.length = n) (hB : B ≤ g) (hn : n ≤ maxLen) : OwnC w B (.slice (some ⟨g, 0, none⟩) n n) l := by
  subst hl
  exact ⟨by rw [csC_length], .inr ⟨g, l.length, (csC l).toArray, rfl, hB, h, Nat.le_refl _, hn, by rw [List.size_toArray, csC_length], by rw [List.toList_toArray]; exact List.take_of_length_le (Nat.le_of_eq (csC_length l))⟩⟩
/-- the changes so far, the rest nothing -/
def rowC (A : List Ch) (k : Nat) : List Ch := A.take k ++ List.replicate (A.length - k) z0
theorem rowC_len (A : List Ch) (k : Nat) (h : k ≤ A.length) : (rowC A k).length = A.length := by unfold rowC; simp; omega
theorem rowC_zero (A : List Ch) : rowC A 0 = List.replicate A.length z0 := by simp [rowC]
theorem rowC_all (A : List Ch) (k : Nat) (h : A.length ≤ k) : rowC A k = A := by
  unfold rowC
  rw [List.take_of_length_le h, Nat.sub_eq_zero_of_le h]; simp
theorem rowC_set (A : List Ch) (k : Nat) (n : Ch) (h : A[k]? = some n) : (rowC A k).set k n = rowC A (k + 1) := by
  have hl : k < A.length := by
    rcases Nat.lt_or_ge k A.length with q | q
    · exact q
    · rw [List.getElem?_eq_none q] at h; cases h
  unfold rowC
  have hk : (A.take k).length = k := by rw [List.length_take]; omega
  rw [List.set_append, if_neg (by omega), hk, Nat.sub_self]
  obtain ⟨m, hm⟩ : ∃ m, A.length - k = m + 1 := ⟨A.length - k - 1, by omega⟩
  have hm' : A.length - (k + 1) = m := by omega
  rw [hm, hm', List.replicate_succ, List.set_cons_zero, List.take_add_one, h]
  simp

end Go.Proofs.YtjgjfnmljmmplaaDoor
