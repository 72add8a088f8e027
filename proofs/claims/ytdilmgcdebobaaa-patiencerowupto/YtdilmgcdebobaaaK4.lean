/-
  The walks of sweep and crossing.
-/
import Derived.Test.YtdilmgcdebobaaaK3
namespace Go.Proofs.Ytdilmgcdebobaaa
open Go.RowKit
open Ed (Ch Run Pr)
open My (Ats En)

/-- the row of what is reached, by diagonal -/
def AtR (w : World) (gr cap : Nat) (t : Ats) (lo hi : Nat) : Prop :=
  ∃ cur, w.heap[gr]? = some (.cells cur 146) ∧ cur.size = cap * 2 ∧ ∀ k : Nat, lo ≤ k → k ≤ hi → cur[k * 2]? = some (.int .i64 (t k).1) ∧ cur[k * 2 + 1]? = some (.int .i64 (t k).2)
theorem AtR.far {w w' : World} {gr cap lo hi : Nat} {t : Ats} (h : AtR w gr cap t lo hi) (hb : w'.heap[gr]? = w.heap[gr]?) : AtR w' gr cap t lo hi := by
  obtain ⟨cur, h1, h2⟩ := h
  exact ⟨cur, hb.trans h1, h2⟩
theorem AtR.lt {w : World} {gr cap lo hi : Nat} {t : Ats} (h : AtR w gr cap t lo hi) : gr < w.heap.size := by
  obtain ⟨cur, h1, h2⟩ := h
  exact lt_of_heap h1
theorem AtR.cells {w : World} {gr cap lo hi : Nat} {t : Ats} (h : AtR w gr cap t lo hi) {k : Nat} (h1 : lo ≤ k) (h2 : k ≤ hi) : w.cell? ⟨gr, k * 2, none⟩ = some (.int .i64 (t k).1) ∧ w.cell? ⟨gr, k * 2 + 1, none⟩ = some (.int .i64 (t k).2) := by
  obtain ⟨cur, g1, g2, g3⟩ := h
  exact ⟨(cell_of_blk g1 _).trans (g3 k h1 h2).1, (cell_of_blk g1 _).trans (g3 k h1 h2).2⟩
theorem AtR.frozen {w : World} {gr cap lo hi : Nat} {t : Ats} (h : AtR w gr cap t lo hi) (o : Nat) : w.frozen? ⟨gr, o, none⟩ = false := by
  obtain ⟨cur, g1, _⟩ := h
  exact frozen_of_blk g1 o
theorem AtR.set {w : World} {gr cap lo hi : Nat} {t : Ats} (h : AtR w gr cap t lo hi) (k : Nat) (hk : k < cap) (e : En) : AtR ((w.setCell ⟨gr, k * 2, none⟩ (.int .i64 e.1)).setCell ⟨gr, k * 2 + 1, none⟩ (.int .i64 e.2)) gr cap (My.put t k e) lo hi := by
  obtain ⟨cur, g1, g2, g3⟩ := h
  have h1 := set_heap _ gr (k * 2) _ _ (.int .i64 e.1) g1
  have h2 := set_heap _ gr (k * 2 + 1) _ _ (.int .i64 e.2) h1
  refine ⟨_, h2, by simpa using g2, fun j q1 q2 => ?_⟩
  obtain ⟨e1, e2⟩ := g3 j q1 q2
  by_cases hj : j = k
  · subst hj
    rw [My.put_same]
    constructor
    · rw [Array.getElem?_setIfInBounds_ne (by omega), Array.getElem?_setIfInBounds_self_of_lt (by omega)]
    · rw [Array.getElem?_setIfInBounds_self_of_lt (by simp; omega)]
  · rw [My.put_other _ _ (by omega)]
    constructor
    · rw [Array.getElem?_setIfInBounds_ne (by omega), Array.getElem?_setIfInBounds_ne (by omega)]; exact e1
    · rw [Array.getElem?_setIfInBounds_ne (by omega), Array.getElem?_setIfInBounds_ne (by omega)]; exact e2
/-- a sweep, either way -/
def swG (a b : List Int) (d : Int) : Nat → Ats → Int → Ats
  | 0, t, _ => t
  | n + 1, t, k => swG a b d n (My.put t k (My.stepE a b k (t (k - 1)) (t (k + 1)))) (k + d)
theorem swG_up (a b : List Int) : ∀ (n : Nat) (t : Ats) (k : Int), swG a b 1 n t k = My.swU a b n t k
  | 0, _, _ => rfl
  | n + 1, t, k => by rw [swG, My.swU, swG_up]
theorem swG_down (a b : List Int) : ∀ (n : Nat) (t : Ats) (k : Int), swG a b (-1) n t k = My.swD a b n t k
  | 0, _, _ => rfl
  | n + 1, t, k => by rw [swG, My.swD, swG_down]; rfl
/-- what a step must find -/
def candY (t : Ats) (k : Int) : Int := if (t (k + 1)).1 < (t (k - 1)).1 + 1 then (t (k - 1)).1 + 1 else (t (k + 1)).1
def StOk (a b : List Int) (t : Ats) (k : Int) : Prop :=
  0 ≤ candY t k ∧ candY t k ≤ b.length ∧ 0 ≤ My.xOf a k (candY t k) ∧ My.xOf a k (candY t k) ≤ a.length ∧ -1 ≤ (t (k - 1)).1 ∧ (t (k - 1)).1 ≤ b.length ∧ -1 ≤ (t (k + 1)).1 ∧ (t (k + 1)).1 ≤ b.length
def FineG (a b : List Int) (d : Int) : Nat → Ats → Int → Prop
  | 0, _, _ => True
  | n + 1, t, k => StOk a b t k ∧ FineG a b d n (My.put t k (My.stepE a b k (t (k - 1)) (t (k + 1)))) (k + d)
theorem swG_snoc (a b : List Int) (d : Int) : ∀ (n : Nat) (t : Ats) (k : Int), swG a b d (n + 1) t k = My.put (swG a b d n t k) (k + d * n) (My.stepE a b (k + d * n) (swG a b d n t k (k + d * n - 1)) (swG a b d n t k (k + d * n + 1)))
  | 0, t, k => by
    simp [swG]
  | n + 1, t, k => by
    rw [swG, swG_snoc a b d n, swG]
    have e : k + d + d * (n : Int) = k + d * ((n + 1 : Nat) : Int) := by
      rw [Int.natCast_add, Int.mul_add, Int.natCast_one, Int.mul_one]; omega
    rw [e]
theorem fine_at (a b : List Int) (d : Int) : ∀ (n j : Nat) (t : Ats) (k : Int), FineG a b d n t k → j < n → StOk a b (swG a b d j t k) (k + d * j)
  | 0, j, t, k, _, h => by omega
  | n + 1, 0, t, k, h, _ => by
    simp [swG]
    exact h.1
  | n + 1, j + 1, t, k, h, hj => by
    have := fine_at a b d n j _ _ h.2 (by omega)
    rw [swG]
    have e : k + d + d * (j : Int) = k + d * ((j + 1 : Nat) : Int) := by
      rw [Int.natCast_add, Int.mul_add, Int.natCast_one, Int.mul_one]; omega
    rw [e] at this
    exact this
theorem slide_le {a b : List Int} {k : Int} : ∀ (f : Nat) (y : Int), y ≤ b.length → My.slide a b k f y ≤ b.length
  | 0, y, h => h
  | f + 1, y, h => by
    rw [My.slide]
    split
    · next hm => exact slide_le f (y + 1) (by have := (My.mAt_lt hm).2; omega)
    · exact h
theorem slide_lex {a b : List Int} {k : Int} : ∀ (f : Nat) (y : Int), My.xOf a k y ≤ a.length → My.xOf a k (My.slide a b k f y) ≤ a.length
  | 0, y, h => h
  | f + 1, y, h => by
    rw [My.slide]
    split
    · next hm => exact slide_lex f (y + 1) (by have := (My.mAt_lt hm).1; unfold My.xOf at *; omega)
    · exact h
end Go.Proofs.Ytdilmgcdebobaaa
