/-
  Plain: how the document finds the row.
-/
import Derived.Test.YtdilmgcdebobaaaV6a
namespace Go.Proofs.Ytdilmgcdebobaaa.Pn

def optI : Option Nat → Int
  | none => -1
  | some j => (j : Int)
def longL (f : Nat → Int) (n : Nat) : List Int := (List.range n).map fun i => (lg f i : Int)
def aheadL (f : Nat → Int) (n : Nat) : List Int := (List.range n).map fun i => optI (ah f (lg f) i i)
theorem longL_len (f : Nat → Int) (n : Nat) : (longL f n).length = n := by unfold longL; simp
theorem aheadL_len (f : Nat → Int) (n : Nat) : (aheadL f n).length = n := by unfold aheadL; simp
theorem longL_get (f : Nat → Int) {n i : Nat} (h : i < n) : (longL f n)[i]? = some (lg f i : Int) := by unfold longL; rw [List.getElem?_map, List.getElem?_range h]; rfl
theorem aheadL_get (f : Nat → Int) {n i : Nat} (h : i < n) : (aheadL f n)[i]? = some (optI (ah f (lg f) i i)) := by unfold aheadL; rw [List.getElem?_map, List.getElem?_range h]; rfl
theorem longL_next (f : Nat → Int) (n : Nat) : longL f (n + 1) = longL f n ++ [(lg f n : Int)] := by unfold longL; rw [List.range_succ, List.map_append]; rfl
theorem aheadL_next (f : Nat → Int) (n : Nat) : aheadL f (n + 1) = aheadL f n ++ [optI (ah f (lg f) n n)] := by unfold aheadL; rw [List.range_succ, List.map_append]; rfl
/-- the first place at which a longest row ends -/
def lst (f : Nat → Int) : Nat → Option Nat
  | 0 => none
  | n + 1 => match lst f n with
    | none => some n
    | some m => if lg f m < lg f n then some n else some m
theorem lst_none {f : Nat → Int} : ∀ {n}, lst f n = none → n = 0
  | 0, _ => rfl
  | n + 1, h => by
    unfold lst at h
    cases e : lst f n with
    | none => rw [e] at h; cases h
    | some m =>
      rw [e] at h
      simp only at h
      split at h <;> cases h
theorem lst_some {f : Nat → Int} : ∀ {n m}, lst f n = some m → m < n ∧ (∀ i, i < n → lg f i ≤ lg f m) ∧ ∀ i, i < m → lg f i < lg f m
  | n + 1, m, h => by
    unfold lst at h
    cases e : lst f n with
    | none =>
      rw [e] at h
      have h0 := lst_none e
      subst h0
      cases h
      exact ⟨by omega, fun i hi => by rw [show i = 0 by omega]; exact Nat.le_refl _, fun i hi => by omega⟩
    | some m' =>
      rw [e] at h
      simp only at h
      obtain ⟨a1, a2, a3⟩ := lst_some e
      split at h
      · next hl =>
        cases h
        refine ⟨by omega, fun i hi => ?_, fun i hi => ?_⟩
        · by_cases e2 : i = n
          · subst e2; exact Nat.le_refl _
          · have := a2 i (by omega); omega
        · have := a2 i hi; omega
      · next hl =>
        cases h
        refine ⟨by omega, fun i hi => ?_, a3⟩
        by_cases e2 : i = n
        · subst e2; omega
        · exact a2 i (by omega)
/-- p is what stands ahead of q in the row -/
def Prev (f : Nat → Int) (q p : Nat) : Prop := p < q ∧ f p < f q ∧ lg f p + 1 = lg f q ∧ ∀ i, i < p → lg f i + 1 = lg f q → f q ≤ f i
theorem prev_of {f : Nat → Int} {q p : Nat} (h : ah f (lg f) q q = some p) : Prev f q p := by
  obtain ⟨h1, h2, h3, h4⟩ := ah_some _ _ _ _ _ h
  rw [← lg_eq] at h3
  refine ⟨h1, h2, h3.symm, fun i hi e => ?_⟩
  rcases Int.lt_or_le (f i) (f q) with r | r
  · have := h4 i hi r; omega
  · exact r
theorem one_of {f : Nat → Int} {q : Nat} (h : ah f (lg f) q q = none) : lg f q = 1 := by rw [lg_eq]; exact ah_none _ _ _ _ h
/-- the row, from its end, so far -/
structure BkOk (f : Nat → Int) (n K : Nat) (bs : List Nat) (cur : Option Nat) : Prop where
  most : ∀ i, i < n → lg f i ≤ K
  pair : ∀ (j p q : Nat), bs[j]? = some q → bs[j + 1]? = some p → Prev f q p
  len : ∀ (j q : Nat), bs[j]? = some q → lg f q + j = K ∧ q < n
  first : ∀ q, bs[0]? = some q → ∀ i, i < q → lg f i ≠ K
  none_ : cur = none → bs.length = K
  some_ : ∀ c, cur = some c → lg f c + bs.length = K ∧ c < n ∧ (bs = [] → ∀ i, i < c → lg f i ≠ K) ∧ ∀ q, bs[bs.length - 1]? = some q → bs ≠ [] → Prev f q c
theorem bk_start (f : Nat → Int) (n : Nat) : BkOk f n (match lst f n with | none => 0 | some m => lg f m) [] (lst f n) := by
  cases e : lst f n with
  | none =>
    have := lst_none e
    subst this
    exact ⟨fun i h => by omega, fun j p q h => by simp at h, fun j q h => by simp at h, fun q h => by simp at h, fun _ => rfl, fun c h => by cases h⟩
  | some m =>
    obtain ⟨a1, a2, a3⟩ := lst_some e
    refine ⟨a2, fun j p q h => by simp at h, fun j q h => by simp at h, fun q h => by simp at h, fun h => (by cases h), fun c h => ?_⟩
    cases h
    exact ⟨rfl, a1, fun _ i hi => by have := a3 i hi; simp only; omega, fun q h => by simp at h⟩
theorem bk_next {f : Nat → Int} {n K : Nat} {bs : List Nat} {c : Nat} (h : BkOk f n K bs (some c)) : BkOk f n K (bs ++ [c]) (ah f (lg f) c c) := by
  obtain ⟨s1, s2, s3, s4⟩ := h.some_ c rfl
  have hget : ∀ j q, (bs ++ [c])[j]? = some q → (bs[j]? = some q ∧ j < bs.length) ∨ (j = bs.length ∧ q = c) := fun j q hq => by
    rcases Nat.lt_trichotomy j bs.length with r | r | r
    · rw [List.getElem?_append_left r] at hq; exact .inl ⟨hq, r⟩
    · subst r
      rw [List.getElem?_append_right (Nat.le_refl _), Nat.sub_self] at hq
      simp at hq
      exact .inr ⟨rfl, hq.symm⟩
    · rw [List.getElem?_eq_none (by simp; omega)] at hq; cases hq
  refine ⟨h.most, fun j p q hq hp => ?_, fun j q hq => ?_, fun q hq => ?_, fun e => ?_, fun d e => ?_⟩
  · rcases hget j q hq with ⟨q1, q2⟩ | ⟨q1, q2⟩
    · rcases hget (j + 1) p hp with ⟨p1, p2⟩ | ⟨p1, p2⟩
      · exact h.pair j p q q1 p1
      · subst p2
        exact s4 q (by rw [show bs.length - 1 = j by omega]; exact q1) (fun e => by rw [e] at q2; simp at q2)
    · rw [List.getElem?_eq_none (by simp; omega)] at hp; cases hp
  · rcases hget j q hq with ⟨q1, q2⟩ | ⟨q1, q2⟩
    · exact h.len j q q1
    · subst q2; subst q1; exact ⟨s1, s2⟩
  · rcases hget 0 q hq with ⟨q1, q2⟩ | ⟨q1, q2⟩
    · exact h.first q q1
    · subst q2
      exact s3 (List.length_eq_zero_iff.1 q1.symm)
  · have := one_of e
    rw [List.length_append, List.length_singleton]
    omega
  · have hp := prev_of e
    refine ⟨by rw [List.length_append, List.length_singleton]; have := hp.2.2.1; omega, by have := hp.1; omega, fun e => by simp at e, fun q hq _ => ?_⟩
    rcases hget _ q hq with ⟨q1, q2⟩ | ⟨q1, q2⟩
    · rw [List.length_append, List.length_singleton] at q2; omega
    · subst q2; exact hp
theorem bk_end {f : Nat → Int} {n K : Nat} {bs : List Nat} (h : BkOk f n K bs none) : RowOk f n bs.reverse := by
  have hl := h.none_ rfl
  have hrev : ∀ k p, bs.reverse[k]? = some p → k < bs.length ∧ bs[bs.length - 1 - k]? = some p := fun k p hp => by
    have hk : k < bs.length := by
      rcases Nat.lt_or_ge k bs.length with r | r
      · exact r
      · rw [List.getElem?_eq_none (by simpa using r)] at hp; cases hp
    rw [List.getElem?_reverse hk] at hp
    exact ⟨hk, hp⟩
  refine ⟨by rw [List.length_reverse, hl]; exact h.most, fun p hp => ?_, fun k p q hp hq => ?_⟩
  · rw [List.length_reverse] at hp ⊢
    obtain ⟨h1, h2⟩ := hrev _ p hp
    rw [show bs.length - 1 - (bs.length - 1) = 0 by omega] at h2
    obtain ⟨h3, h4⟩ := h.len 0 p h2
    exact ⟨h4, by omega, fun i hi => by rw [hl]; exact h.first p h2 i hi⟩
  · obtain ⟨p1, p2⟩ := hrev _ p hp
    obtain ⟨q1, q2⟩ := hrev _ q hq
    have hpr := h.pair (bs.length - 1 - (k + 1)) p q q2 (by rw [show bs.length - 1 - (k + 1) + 1 = bs.length - 1 - k by omega]; exact p2)
    obtain ⟨h3, _⟩ := h.len _ q q2
    obtain ⟨a1, a2, a3, a4⟩ := hpr
    exact ⟨a1, a2, by omega, fun i hi e => a4 i hi (by omega)⟩
theorem row_len {f : Nat → Int} {n : Nat} {R S : List Nat} (hR : RowOk f n R) (hS : RowOk f n S) : R.length = S.length := by
  have key : ∀ {A B : List Nat}, RowOk f n A → RowOk f n B → A.length ≤ B.length := fun {A B} hA hB => by
    rcases Nat.eq_zero_or_pos A.length with r | r
    · omega
    · obtain ⟨p, hp⟩ : ∃ p, A[A.length - 1]? = some p := ⟨_, List.getElem?_eq_getElem (by omega)⟩
      obtain ⟨a1, a2, _⟩ := hA.last p hp
      have := hB.most p a1
      omega
  exact Nat.le_antisymm (key hR hS) (key hS hR)
theorem row_one {f : Nat → Int} {n : Nat} {R S : List Nat} (hR : RowOk f n R) (hS : RowOk f n S) : R = S := row_eq hR hS (row_len hR hS)
end Go.Proofs.Ytdilmgcdebobaaa.Pn
