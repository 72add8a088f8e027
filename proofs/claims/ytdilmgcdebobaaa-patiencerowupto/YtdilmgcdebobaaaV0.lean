/-
  Plain: longest rising rows: how long one that ends at a place is (lg), the piles, the row that both the program and the document answer.
-/
import Derived.Test.YtdilmgcdebobaaaC0
namespace Go.Proofs.Ytdilmgcdebobaaa.Pn

/-- the longest of what may stand ahead, and one more -/
def mxl (f : Nat → Int) (t : Nat → Nat) (n : Nat) : Nat → Nat
  | 0 => 1
  | k + 1 => if f k < f n ∧ mxl f t n k < t k + 1 then t k + 1 else mxl f t n k
/-- the place ahead -/
def ah (f : Nat → Int) (t : Nat → Nat) (n : Nat) : Nat → Option Nat
  | 0 => none
  | k + 1 => if f k < f n ∧ mxl f t n k < t k + 1 then some k else ah f t n k
def lgT (f : Nat → Int) : Nat → Nat → Nat
  | 0 => fun _ => 0
  | n + 1 => fun i => if i = n then mxl f (lgT f n) n n else lgT f n i
/-- how long the longest rising row is that ends there -/
def lg (f : Nat → Int) (i : Nat) : Nat := lgT f (i + 1) i
theorem lgT_lg (f : Nat → Int) : ∀ n i, i < n → lgT f n i = lg f i
  | n + 1, i, h => by
    by_cases e : i = n
    · subst e; rfl
    · show (if i = n then _ else lgT f n i) = _
      rw [if_neg e]
      exact lgT_lg f n i (by omega)
theorem mxl_congr (f : Nat → Int) {t t' : Nat → Nat} (n : Nat) : ∀ k, (∀ j, j < k → t j = t' j) → mxl f t n k = mxl f t' n k ∧ ah f t n k = ah f t' n k
  | 0, _ => ⟨rfl, rfl⟩
  | k + 1, h => by
    have h1 := mxl_congr f (t := t) (t' := t') n k (fun j hj => h j (by omega))
    unfold mxl ah
    rw [h1.1, h1.2, h k (by omega)]
    exact ⟨rfl, rfl⟩
theorem lg_eq (f : Nat → Int) (n : Nat) : lg f n = mxl f (lg f) n n := by
  unfold lg lgT
  rw [if_pos rfl]
  exact (mxl_congr f n n (fun j hj => lgT_lg f n j hj)).1
theorem mxl_pos (f : Nat → Int) (t : Nat → Nat) (n : Nat) : ∀ k, 1 ≤ mxl f t n k
  | 0 => Nat.le_refl _
  | k + 1 => by
    have := mxl_pos f t n k
    unfold mxl
    split <;> omega
theorem mxl_ge (f : Nat → Int) (t : Nat → Nat) (n : Nat) : ∀ k j, j < k → f j < f n → t j + 1 ≤ mxl f t n k
  | k + 1, j, hj, hf => by
    unfold mxl
    by_cases e : j = k
    · subst e
      split
      · omega
      · next h => have : ¬ mxl f t n j < t j + 1 := fun h2 => h ⟨hf, h2⟩; omega
    · have := mxl_ge f t n k j (by omega) hf
      split <;> omega
theorem ah_none (f : Nat → Int) (t : Nat → Nat) (n : Nat) : ∀ k, ah f t n k = none → mxl f t n k = 1
  | 0, _ => rfl
  | k + 1, h => by
    unfold ah at h
    unfold mxl
    split at h
    · cases h
    · next h2 => rw [if_neg h2]; exact ah_none f t n k h
theorem ah_some (f : Nat → Int) (t : Nat → Nat) (n : Nat) : ∀ k j, ah f t n k = some j → j < k ∧ f j < f n ∧ mxl f t n k = t j + 1 ∧ ∀ i, i < j → f i < f n → t i + 1 < t j + 1
  | k + 1, j, h => by
    unfold ah at h
    unfold mxl
    split at h
    · next h2 =>
      cases h
      rw [if_pos h2]
      exact ⟨by omega, h2.1, rfl, fun i hi hf => by have := mxl_ge f t n k i hi hf; omega⟩
    · next h2 =>
      rw [if_neg h2]
      obtain ⟨h3, h4, h5, h6⟩ := ah_some f t n k j h
      exact ⟨by omega, h4, h5, h6⟩
theorem lg_pos (f : Nat → Int) (n : Nat) : 1 ≤ lg f n := by rw [lg_eq]; exact mxl_pos _ _ _ _
theorem lg_up {f : Nat → Int} {i j : Nat} (h : i < j) (hf : f i < f j) : lg f i + 1 ≤ lg f j := by
  rw [lg_eq f j]; exact mxl_ge _ _ _ _ _ h hf
theorem lg_same {f : Nat → Int} {i j : Nat} (h : i < j) (he : lg f i = lg f j) : f j ≤ f i := by
  rcases Int.lt_or_le (f i) (f j) with q | q
  · have := lg_up h q; omega
  · exact q
theorem lg_ahead {f : Nat → Int} {j : Nat} (h : 2 ≤ lg f j) : ∃ i, i < j ∧ f i < f j ∧ lg f i + 1 = lg f j := by
  rw [lg_eq] at h
  cases e : ah f (lg f) j j with
  | none => rw [ah_none _ _ _ _ e] at h; omega
  | some i =>
    obtain ⟨h1, h2, h3, _⟩ := ah_some _ _ _ _ _ e
    exact ⟨i, h1, h2, by rw [lg_eq f j]; omega⟩
theorem lg_chain (f : Nat → Int) : ∀ d j m, lg f j = m + d → 1 ≤ m → 1 ≤ d → ∃ i, i < j ∧ f i < f j ∧ lg f i = m
  | d + 1, j, m, h, hm, _ => by
    obtain ⟨i, h1, h2, h3⟩ := lg_ahead (f := f) (j := j) (by omega)
    by_cases e : d = 0
    · exact ⟨i, h1, h2, by omega⟩
    · obtain ⟨i', h4, h5, h6⟩ := lg_chain f d i m (by omega) hm (by omega)
      exact ⟨i', by omega, by omega, h6⟩
theorem lg_le (f : Nat → Int) : ∀ n i, i < n → lg f i ≤ i + 1
  | n + 1, i, h => by
    by_cases e : 2 ≤ lg f i
    · obtain ⟨j, h1, _, h3⟩ := lg_ahead e
      have := lg_le f n j (by omega)
      omega
    · omega

/-- the piles: of each the first place and the last one -/
abbrev Piles := List (Nat × Nat)
/-- what the piles of the first n places are -/
structure PilesOk (f : Nat → Int) (n : Nat) (P : Piles) : Prop where
  most : ∀ i, i < n → lg f i ≤ P.length
  at_ : ∀ (k : Nat) (p : Nat × Nat), P[k]? = some p → p.1 ≤ p.2 ∧ p.2 < n ∧ lg f p.1 = k + 1 ∧ lg f p.2 = k + 1 ∧ (∀ i, i < p.1 → lg f i ≠ k + 1) ∧ (∀ i, p.2 < i → i < n → lg f i ≠ k + 1)
/-- the next place of the same pile -/
def BelowOk (f : Nat → Int) (n : Nat) (B : List Int) : Prop := ∀ p q : Nat, p < q → q < n → lg f p = lg f q → (∀ r, p < r → r < q → lg f r ≠ lg f p) → B[p]? = some (q : Int)
theorem piles_none (f : Nat → Int) : PilesOk f 0 [] := ⟨fun i h => by omega, fun k p h => by simp at h⟩
theorem below_none (f : Nat → Int) (B : List Int) : BelowOk f 0 B := fun p q _ h => by omega
theorem lg_most {f : Nat → Int} {n : Nat} {P : Piles} (h : PilesOk f n P) : lg f n ≤ P.length + 1 := by
  by_cases e : 2 ≤ lg f n
  · obtain ⟨i, h1, _, h3⟩ := lg_ahead e
    have := h.most i h1
    omega
  · omega
/-- what is searched for: the first pile whose last element is not smaller -/
theorem piles_search {f : Nat → Int} {n : Nat} {P : Piles} (h : PilesOk f n P) {k : Nat} {p : Nat × Nat} (hk : P[k]? = some p) : f n ≤ f p.2 ↔ lg f n - 1 ≤ k := by
  obtain ⟨h1, h2, h3, h4, h5, h6⟩ := h.at_ k p hk
  constructor
  · intro hf
    rcases Nat.lt_or_ge k (lg f n - 1) with q | q
    · obtain ⟨i, i1, i2, i3⟩ := lg_chain f (lg f n - (k + 1)) n (k + 1) (by omega) (by omega) (by omega)
      have : i ≤ p.2 := by
        rcases Nat.lt_or_ge p.2 i with r | r
        · exact absurd i3 (h6 i r i1)
        · exact r
      rcases Nat.lt_or_ge i p.2 with r | r
      · have := lg_same (f := f) r (by omega); omega
      · have : i = p.2 := by omega
        subst this
        omega
    · exact q
  · intro hle
    rcases Int.lt_or_le (f p.2) (f n) with q | q
    · have := lg_up h2 q; omega
    · exact q
theorem piles_new {f : Nat → Int} {n : Nat} {P : Piles} (h : PilesOk f n P) (hk : lg f n - 1 = P.length) : PilesOk f (n + 1) (P ++ [(n, n)]) := by
  have hp := lg_pos f n
  refine ⟨fun i hi => ?_, fun k p hkp => ?_⟩
  · rw [List.length_append, List.length_singleton]
    by_cases e : i = n
    · subst e; omega
    · have := h.most i (by omega); omega
  · rcases Nat.lt_or_ge k P.length with q | q
    · rw [List.getElem?_append_left q] at hkp
      obtain ⟨h1, h2, h3, h4, h5, h6⟩ := h.at_ k p hkp
      refine ⟨h1, by omega, h3, h4, h5, fun i hi hn => ?_⟩
      by_cases e : i = n
      · subst e; omega
      · exact h6 i hi (by omega)
    · rw [List.getElem?_append_right q] at hkp
      have hk0 : k - P.length = 0 := by
        rcases Nat.eq_zero_or_pos (k - P.length) with r | r
        · exact r
        · rw [List.getElem?_eq_none (by simp; omega)] at hkp; cases hkp
      rw [hk0] at hkp
      simp at hkp
      subst hkp
      refine ⟨Nat.le_refl _, by omega, by simp; omega, by simp; omega, fun i hi => ?_, fun i hi hn => by simp at hi; omega⟩
      have := h.most i hi
      omega
theorem piles_put {f : Nat → Int} {n : Nat} {P : Piles} (h : PilesOk f n P) {p : Nat × Nat} (hk : P[lg f n - 1]? = some p) : PilesOk f (n + 1) (P.set (lg f n - 1) (p.1, n)) := by
  have hp := lg_pos f n
  have hl : lg f n - 1 < P.length := by
    rcases Nat.lt_or_ge (lg f n - 1) P.length with q | q
    · exact q
    · rw [List.getElem?_eq_none q] at hk; cases hk
  refine ⟨fun i hi => ?_, fun k q hkq => ?_⟩
  · rw [List.length_set]
    by_cases e : i = n
    · subst e; omega
    · exact h.most i (by omega)
  · by_cases e : k = lg f n - 1
    · subst e
      rw [List.getElem?_set_self hl] at hkq
      cases hkq
      obtain ⟨h1, h2, h3, h4, h5, h6⟩ := h.at_ _ p hk
      exact ⟨by show p.1 ≤ n; omega, Nat.lt_succ_self n, h3, by show lg f n = _; omega, h5, fun i hi hn => by have : n < i := hi; omega⟩
    · rw [List.getElem?_set_ne (Ne.symm e)] at hkq
      obtain ⟨h1, h2, h3, h4, h5, h6⟩ := h.at_ k q hkq
      refine ⟨h1, by omega, h3, h4, h5, fun i hi hn => ?_⟩
      by_cases e2 : i = n
      · subst e2; omega
      · exact h6 i hi (by omega)
theorem below_new {f : Nat → Int} {n : Nat} {P : Piles} {B : List Int} (h : PilesOk f n P) (hB : BelowOk f n B) (hk : lg f n - 1 = P.length) : BelowOk f (n + 1) B := by
  intro p q h1 h2 h3 h4
  by_cases e : q = n
  · subst e
    have := h.most p h1
    have := lg_pos f q
    omega
  · exact hB p q h1 (by omega) h3 h4
theorem below_put {f : Nat → Int} {n : Nat} {P : Piles} {B : List Int} (h : PilesOk f n P) (hB : BelowOk f n B) {p : Nat × Nat} (hk : P[lg f n - 1]? = some p) (hl : n ≤ B.length) : BelowOk f (n + 1) (B.set p.2 (n : Int)) := by
  obtain ⟨g1, g2, g3, g4, g5, g6⟩ := h.at_ _ p hk
  have hp := lg_pos f n
  intro a b h1 h2 h3 h4
  by_cases e : b = n
  · subst e
    have ha : a = p.2 := by
      rcases Nat.lt_trichotomy a p.2 with q | q | q
      · exact absurd (show lg f p.2 = lg f a by omega) (h4 p.2 q g2)
      · exact q
      · exact absurd (show lg f a = lg f b - 1 + 1 by omega) (g6 a q h1)
    subst ha
    exact List.getElem?_set_self (by omega)
  · by_cases ea : a = p.2
    · subst ea
      exact absurd (show lg f b = lg f n - 1 + 1 by omega) (g6 b h1 (by omega))
    · rw [List.getElem?_set_ne (Ne.symm ea)]
      exact hB a b h1 (by omega) h3 h4

/-- the row that is answered: from its end on each place the least that can be -/
structure RowOk (f : Nat → Int) (n : Nat) (R : List Nat) : Prop where
  most : ∀ i, i < n → lg f i ≤ R.length
  last : ∀ p, R[R.length - 1]? = some p → p < n ∧ lg f p = R.length ∧ ∀ i, i < p → lg f i ≠ R.length
  step : ∀ (k p q : Nat), R[k]? = some p → R[k + 1]? = some q → p < q ∧ f p < f q ∧ lg f p = k + 1 ∧ ∀ i, i < p → lg f i = k + 1 → f q ≤ f i
theorem least_eq {X : Nat → Prop} {p q : Nat} (h1 : X p) (h2 : ∀ i, i < p → ¬ X i) (h3 : X q) (h4 : ∀ i, i < q → ¬ X i) : p = q := by
  rcases Nat.lt_trichotomy p q with h | h | h
  · exact absurd h1 (h4 p h)
  · exact h
  · exact absurd h3 (h2 q h)
theorem row_eq {f : Nat → Int} {n : Nat} {R S : List Nat} (hR : RowOk f n R) (hS : RowOk f n S) (hl : R.length = S.length) : R = S := by
  have key : ∀ d k, d + k + 1 = R.length → R[k]? = S[k]? := by
    intro d
    induction d with
    | zero =>
      intro k hk
      obtain ⟨p, hp⟩ : ∃ p, R[R.length - 1]? = some p := ⟨_, List.getElem?_eq_getElem (by omega)⟩
      obtain ⟨q, hq⟩ : ∃ q, S[S.length - 1]? = some q := ⟨_, List.getElem?_eq_getElem (by omega)⟩
      obtain ⟨a1, a2, a3⟩ := hR.last p hp
      obtain ⟨b1, b2, b3⟩ := hS.last q hq
      have : p = q := least_eq (X := fun i => lg f i = R.length) a2 a3 (by omega) (fun i hi => by rw [hl]; exact b3 i hi)
      rw [show k = R.length - 1 by omega, hp, show R.length - 1 = S.length - 1 by omega, hq, this]
    | succ d ih =>
      intro k hk
      have e := ih (k + 1) (by omega)
      obtain ⟨p, hp⟩ : ∃ p, R[k]? = some p := ⟨_, List.getElem?_eq_getElem (by omega)⟩
      obtain ⟨q, hq⟩ : ∃ q, S[k]? = some q := ⟨_, List.getElem?_eq_getElem (by omega)⟩
      obtain ⟨r, hr⟩ : ∃ r, R[k + 1]? = some r := ⟨_, List.getElem?_eq_getElem (by omega)⟩
      obtain ⟨_, a2, a3, a4⟩ := hR.step k p r hp hr
      obtain ⟨_, b2, b3, b4⟩ := hS.step k q r hq (e ▸ hr)
      have : p = q := least_eq (X := fun i => lg f i = k + 1 ∧ f i < f r) ⟨a3, a2⟩ (fun i hi h => by have := a4 i hi h.1; omega) ⟨b3, b2⟩ (fun i hi h => by have := b4 i hi h.1; omega)
      rw [hp, hq, this]
  apply List.ext_getElem?
  intro k
  by_cases hk : k < R.length
  · exact key (R.length - 1 - k) k (by omega)
  · rw [List.getElem?_eq_none (by omega), List.getElem?_eq_none (by omega)]
end Go.Proofs.Ytdilmgcdebobaaa.Pn
