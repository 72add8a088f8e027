/-
  Plain laws: a text's lines and the places of their last bytes.
-/
import Derived.Test.YtghdlfpjbmohbaaPlMore
namespace Go.Proofs.Ytghdlfpjbmohbaa.Pl
open Go

theorem ok1_split {x : List UInt8} (h : ok1 x = true) : x ≠ [] ∧ (10 : UInt8) ∉ x.take (x.length - 1) := by
  unfold ok1 at h
  rw [Bool.and_eq_true, decide_eq_true_eq, Bool.not_eq_true'] at h
  obtain ⟨h1, h2⟩ := h
  refine ⟨fun e => by rw [e] at h1; simp at h1, fun hm => ?_⟩
  obtain ⟨j, hj⟩ := List.getElem?_of_mem hm
  have hl : j < (x.take (x.length - 1)).length := (List.getElem?_eq_some_iff.1 hj).1
  rw [List.length_take] at hl
  rw [List.getElem?_take, if_pos (by omega)] at hj
  exact fl_part x j hj (by omega) h2
theorem ok1_mk {x : List UInt8} (h1 : x ≠ []) (h2 : (10 : UInt8) ∉ x.take (x.length - 1)) : ok1 x = true := by
  unfold ok1
  rw [Bool.and_eq_true, decide_eq_true_eq, Bool.not_eq_true']
  exact ⟨by rw [← Bool.not_eq_true, List.isEmpty_iff]; exact h1, fl_full x h2⟩

theorem snoc_form {x : List UInt8} (h : x ≠ []) : x = x.take (x.length - 1) ++ [x.getLast h] := by
  rw [← List.dropLast_eq_take]
  exact (List.dropLast_concat_getLast h).symm
theorem wh_form {x : List UInt8} (h : ok1 x = true) (hw : wh x = true) : ∃ p, x = p ++ [10] ∧ (10 : UInt8) ∉ p := by
  obtain ⟨h1, h2⟩ := ok1_split h
  refine ⟨x.take (x.length - 1), ?_, h2⟩
  have e := snoc_form h1
  have : x.getLast h1 = 10 := by
    unfold wh at hw
    rw [List.getLast?_eq_some_getLast h1] at hw
    exact Option.some.inj (eq_of_beq hw)
  rw [this] at e
  exact e

/-- a text's lines are lines -/
theorem valid_cut (l : List UInt8) : valid (cut l) = true := by
  generalize hn : l.length = n
  induction n using Nat.strongRecOn generalizing l with
  | ind n ih =>
    subst hn
    rcases parts l 10 with h | ⟨p, q, rfl, hp⟩
    · by_cases hl : l = []
      · subst hl; rfl
      · rw [cut_last l h hl]
        exact ok1_mk hl (fun hm => h (List.mem_of_mem_take hm))
    · rw [cut_first p q hp]
      have h1 : ok1 (p ++ [10]) = true := ok1_mk (by simp) (by simpa using hp)
      rw [valid_good _ _ h1 (.inr (by rw [wh_snoc]; rfl))]
      exact ih q.length (by simp; omega) q rfl

/-- lines are the lines of their text -/
theorem cut_valid (l : List (List UInt8)) (h : valid l = true) : cut l.flatten = l := by
  induction l with
  | nil => rfl
  | cons x r ih =>
    have h1 : ok1 x = true := by
      cases hx : ok1 x with
      | true => rfl
      | false => rw [valid_bad1 x r hx] at h; cases h
    by_cases hr : r = []
    · subst hr
      simp only [List.flatten_cons, List.flatten_nil, List.append_nil]
      obtain ⟨hne, hno⟩ := ok1_split h1
      cases hw : wh x with
      | true =>
        obtain ⟨p, rfl, hp⟩ := wh_form h1 hw
        have := cut_first p [] hp
        rw [this]; rfl
      | false =>
        refine cut_last x ?_ hne
        intro hm
        rw [snoc_form hne] at hm
        rcases List.mem_append.1 hm with hm | hm
        · exact hno hm
        · simp at hm
          unfold wh at hw
          rw [List.getLast?_eq_some_getLast hne, ← hm] at hw
          simp at hw
    · have hw : wh x = true := by
        cases hx : wh x with
        | true => rfl
        | false => rw [valid_bad2 x r hr hx] at h; cases h
      rw [valid_good x r h1 (.inr hw)] at h
      obtain ⟨p, rfl, hp⟩ := wh_form h1 hw
      rw [List.flatten_cons, List.append_assoc]
      show cut (p ++ 10 :: r.flatten) = _
      rw [cut_first p _ hp, ih h]

theorem valid_at {l : List (List UInt8)} (h : valid l = true) : ∀ (i : Nat) x, l[i]? = some x → ok1 x = true ∧ (i + 1 < l.length → wh x = true) := by
  induction l with
  | nil => intro i x hx; simp at hx
  | cons y r ih =>
    have h1 : ok1 y = true := by
      cases hx : ok1 y with
      | true => rfl
      | false => rw [valid_bad1 y r hx] at h; cases h
    have h2 : r ≠ [] → wh y = true := by
      intro hr
      cases hx : wh y with
      | true => rfl
      | false => rw [valid_bad2 y r hr hx] at h; cases h
    have hv : valid r = true := by
      by_cases hr : r = []
      · rw [hr]; rfl
      · rw [valid_good y r h1 (.inr (h2 hr))] at h; exact h
    intro i x hx
    cases i with
    | zero =>
      simp at hx
      subst hx
      refine ⟨h1, fun hl => h2 ?_⟩
      intro e; subst e; simp at hl
    | succ i =>
      rw [List.getElem?_cons_succ] at hx
      obtain ⟨a, b⟩ := ih hv i x hx
      exact ⟨a, fun hl => b (by simp at hl; omega)⟩

/-- the text of the first k lines -/
def pre (l : List (List UInt8)) (k : Nat) : List UInt8 := (l.take k).flatten
theorem pre_zero (l : List (List UInt8)) : pre l 0 = [] := rfl
theorem pre_succ (l : List (List UInt8)) (k : Nat) (x : List UInt8) (h : l[k]? = some x) : pre l (k + 1) = pre l k ++ x := by
  unfold pre; rw [List.take_add_one, h]; simp
theorem pre_all (l : List (List UInt8)) (k : Nat) (x : List UInt8) (h : l[k]? = some x) : l.flatten = pre l k ++ x ++ (l.drop (k + 1)).flatten := by
  rw [← pre_succ l k x h]
  unfold pre
  rw [← List.flatten_append, List.take_append_drop]

/-- each of the first k lines has its end: so many bytes 10 stand there, and the last byte is one -/
theorem pre_count {l : List (List UInt8)} (h : valid l = true) : ∀ k, k < l.length → (pre l k).count 10 = k ∧ (k ≠ 0 → wh (pre l k) = true) := by
  intro k
  induction k with
  | zero => intro _; exact ⟨rfl, fun h => absurd rfl h⟩
  | succ k ih =>
    intro hk
    obtain ⟨x, hx⟩ : ∃ x, l[k]? = some x := ⟨_, List.getElem?_eq_getElem (by omega)⟩
    obtain ⟨a, b⟩ := valid_at h k x hx
    obtain ⟨p, rfl, hp⟩ := wh_form a (b hk)
    obtain ⟨c, _⟩ := ih (by omega)
    rw [pre_succ l k _ hx]
    refine ⟨?_, fun _ => ?_⟩
    · rw [List.count_append, c, List.count_append, List.count_eq_zero_of_not_mem hp]; simp
    · rw [wh_append _ _ (by simp), wh_snoc]; rfl

/-- a line's last byte, in the text: how many bytes 10 stand ahead of it, and where the last of them stands -/
theorem line_place {l : List (List UInt8)} (h : valid l = true) (k : Nat) (x : List UInt8) (hx : l[k]? = some x) :
    0 < x.length ∧ (pre l k).length + x.length ≤ l.flatten.length ∧
    (l.flatten.take ((pre l k).length + x.length - 1)).count 10 = k ∧
    (∀ j, (pre l k).length ≤ j → j < (pre l k).length + x.length - 1 → l.flatten[j]? ≠ some 10) ∧
    ((pre l k).length ≠ 0 → l.flatten[(pre l k).length - 1]? = some 10) := by
  have hk : k < l.length := (List.getElem?_eq_some_iff.1 hx).1
  obtain ⟨a, _⟩ := valid_at h k x hx
  obtain ⟨hne, hno⟩ := ok1_split a
  have hp : 0 < x.length := List.length_pos_iff.2 hne
  obtain ⟨c, d⟩ := pre_count h k hk
  have e := pre_all l k x hx
  refine ⟨hp, by rw [e]; simp, ?_, ?_, ?_⟩
  · have e1 : (pre l k).length + x.length - 1 = (pre l k).length + (x.length - 1) := by omega
    rw [e, e1, List.append_assoc, List.take_length_add_append, List.take_append_of_le_length (by omega), List.count_append, c, List.count_eq_zero_of_not_mem hno]
    rfl
  · intro j h1 h2 hj
    rw [e, List.append_assoc, List.getElem?_append_right h1, List.getElem?_append_left (by omega)] at hj
    refine hno (List.mem_of_getElem? (i := j - (pre l k).length) ?_)
    rw [List.getElem?_take, if_pos (by omega)]
    exact hj
  · intro h0
    have hk0 : k ≠ 0 := by
      intro e0
      subst e0
      exact h0 rfl
    have hw := d hk0
    rw [e, List.append_assoc, List.getElem?_append_left (by omega), ← List.getLast?_eq_getElem?]
    unfold wh at hw
    exact eq_of_beq hw

/-- whether a line has its end -/
theorem line_whole {l : List (List UInt8)} (h : valid l = true) (k : Nat) (x : List UInt8) (hx : l[k]? = some x) :
    wh x = (decide (k + 1 < l.length) || wh l.flatten) := by
  have hk : k < l.length := (List.getElem?_eq_some_iff.1 hx).1
  obtain ⟨a, b⟩ := valid_at h k x hx
  by_cases hl : k + 1 < l.length
  · rw [decide_eq_true hl, b hl]; rfl
  · rw [decide_eq_false hl, Bool.false_or, pre_all l k x hx, List.drop_eq_nil_of_le (by omega), List.flatten_nil, List.append_nil, wh_append _ _ (ok1_split a).1]
end Go.Proofs.Ytghdlfpjbmohbaa.Pl
