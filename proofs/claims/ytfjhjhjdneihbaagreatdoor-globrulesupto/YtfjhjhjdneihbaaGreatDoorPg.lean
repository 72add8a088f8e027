/-
  Patterns of names over lists of bytes: what a row of parts means, and what is true of it: two rows one behind the other, the way by the last star alone, the way place by place.
-/
namespace Go.Proofs.YtfjhjhjdneihbaaGreatDoor.Pg

/-- a part: many bytes, or one of a set -/
structure Pt where
  star : Bool
  set : UInt8 → Bool

/-- does one of the ends of a name meet f? -/
def ends (f : List UInt8 → Bool) : List UInt8 → Bool
  | [] => f []
  | c :: n => f (c :: n) || ends f n
def one (p : Pt) (f : List UInt8 → Bool) : List UInt8 → Bool
  | [] => false
  | c :: n => p.set c && f n
/-- do the parts mean a name? -/
def mt : List Pt → List UInt8 → Bool
  | [] => fun n => n.isEmpty
  | p :: r => if p.star then ends (mt r) else one p (mt r)

theorem ends_iff (f : List UInt8 → Bool) : ∀ n, ends f n = true ↔ ∃ k, k ≤ n.length ∧ f (n.drop k) = true
  | [] => by
    refine ⟨fun h => ⟨0, by simp, h⟩, ?_⟩
    rintro ⟨k, hk, h⟩
    rw [List.drop_nil] at h
    exact h
  | c :: n => by
    have ih := ends_iff f n
    unfold ends
    rw [Bool.or_eq_true, ih]
    constructor
    · rintro (h | ⟨k, hk, h⟩)
      · exact ⟨0, by simp, h⟩
      · exact ⟨k + 1, by simpa using hk, by simpa using h⟩
    · rintro ⟨k, hk, h⟩
      cases k with
      | zero => exact .inl (by simpa using h)
      | succ k => exact .inr ⟨k, by simpa using hk, by simpa using h⟩
theorem mt_nil (n : List UInt8) : mt [] n = n.isEmpty := rfl
theorem mt_star {p : Pt} (r : List Pt) (n : List UInt8) (h : p.star = true) : mt (p :: r) n = ends (mt r) n := by
  show (if p.star then ends (mt r) else one p (mt r)) n = _
  rw [h]; rfl
theorem mt_one {p : Pt} (r : List Pt) (n : List UInt8) (h : p.star = false) : mt (p :: r) n = one p (mt r) n := by
  show (if p.star then ends (mt r) else one p (mt r)) n = _
  rw [h]; rfl
theorem mt_one_nil {p : Pt} (r : List Pt) (h : p.star = false) : mt (p :: r) [] = false := by rw [mt_one r [] h]; rfl
theorem mt_one_cons {p : Pt} (r : List Pt) (c : UInt8) (n : List UInt8) (h : p.star = false) : mt (p :: r) (c :: n) = (p.set c && mt r n) := by rw [mt_one r _ h]; rfl
theorem mt_star_iff {p : Pt} (r : List Pt) (n : List UInt8) (h : p.star = true) : mt (p :: r) n = true ↔ ∃ k, k ≤ n.length ∧ mt r (n.drop k) = true := by
  rw [mt_star r n h, ends_iff]
theorem mt_one_iff {p : Pt} (r : List Pt) (n : List UInt8) (h : p.star = false) : mt (p :: r) n = true ↔ ∃ c n', n = c :: n' ∧ p.set c = true ∧ mt r n' = true := by
  cases n with
  | nil => rw [mt_one_nil r h]; simp
  | cons c n =>
    rw [mt_one_cons r c n h, Bool.and_eq_true]
    constructor
    · rintro ⟨a, b⟩; exact ⟨c, n, rfl, a, b⟩
    · rintro ⟨c', n', e, a, b⟩
      injection e with e1 e2
      subst e1 e2
      exact ⟨a, b⟩

/-- two rows of parts, one behind the other -/
theorem mt_append : ∀ (P Q : List Pt) (n : List UInt8), mt (P ++ Q) n = true ↔ ∃ k, k ≤ n.length ∧ mt P (n.take k) = true ∧ mt Q (n.drop k) = true
  | [], Q, n => by
    constructor
    · intro h; exact ⟨0, by simp, by simp [mt_nil], by simpa using h⟩
    · rintro ⟨k, hk, h1, h2⟩
      rw [mt_nil, List.isEmpty_iff, List.take_eq_nil_iff] at h1
      rcases h1 with h1 | h1
      · subst h1; simpa using h2
      · subst h1; simpa using h2
  | p :: P, Q, n => by
    have ih := mt_append P Q
    rw [List.cons_append]
    cases hs : p.star with
    | true =>
      rw [mt_star_iff _ _ hs]
      constructor
      · rintro ⟨k, hk, h⟩
        obtain ⟨j, hj, h1, h2⟩ := (ih _).1 h
        rw [List.length_drop] at hj
        refine ⟨k + j, by omega, ?_, by rw [List.drop_drop] at h2; exact h2⟩
        rw [mt_star_iff _ _ hs]
        refine ⟨k, by rw [List.length_take]; omega, ?_⟩
        rw [List.drop_take]
        rw [show k + j - k = j by omega]
        exact h1
      · rintro ⟨k, hk, h1, h2⟩
        obtain ⟨j, hj, h3⟩ := (mt_star_iff _ _ hs).1 h1
        rw [List.length_take] at hj
        refine ⟨j, by omega, (ih _).2 ⟨k - j, by rw [List.length_drop]; omega, ?_, ?_⟩⟩
        · rw [List.drop_take] at h3; exact h3
        · rw [List.drop_drop, show j + (k - j) = k by omega]; exact h2
    | false =>
      rw [mt_one_iff _ _ hs]
      constructor
      · rintro ⟨c, n', rfl, a, h⟩
        obtain ⟨j, hj, h1, h2⟩ := (ih _).1 h
        refine ⟨j + 1, by simpa using hj, ?_, by simpa using h2⟩
        rw [List.take_succ_cons, mt_one_cons _ _ _ hs, a, h1]; rfl
      · rintro ⟨k, hk, h1, h2⟩
        obtain ⟨c, n', e, a, h3⟩ := (mt_one_iff _ _ hs).1 h1
        cases n with
        | nil => simp at e
        | cons d n =>
          cases k with
          | zero => simp at e
          | succ k =>
            rw [List.take_succ_cons] at e
            injection e with e1 e2
            subst e1 e2
            exact ⟨d, n, rfl, a, (ih _).2 ⟨k, by simpa using hk, h3, by simpa using h2⟩⟩

/-! ### the way by the last star alone -/
theorem seg : ∀ (d : Nat) (P : List Pt) (n : List UInt8), d ≤ P.length → (∀ k p, k < d → P[k]? = some p → p.star = false) → mt P n = true → d ≤ n.length ∧ mt (P.drop d) (n.drop d) = true
  | 0, P, n, _, _, h => ⟨by omega, by simpa using h⟩
  | d + 1, P, n, hl, hs, h => by
    cases P with
    | nil => simp at hl
    | cons p P =>
      have h0 : p.star = false := hs 0 p (by omega) rfl
      obtain ⟨c, n', rfl, a, h1⟩ := (mt_one_iff _ _ h0).1 h
      obtain ⟨h2, h3⟩ := seg d P n' (by simpa using hl) (fun k q hk hq => hs (k + 1) q (by omega) (by simpa using hq)) h1
      exact ⟨by simpa using h2, by simpa using h3⟩

/-- what is left to be asked at a place of the walk: from the part and the byte on, or from the part behind the last star on, further on -/
def left (P : List Pt) (N : List UInt8) (at' i : Nat) (star : Option (Nat × Nat)) : Prop :=
  mt (P.drop at') (N.drop i) = true ∨ ∃ ag fr, star = some (ag, fr) ∧ ∃ j, fr < j ∧ j ≤ N.length ∧ mt (P.drop ag) (N.drop j) = true
/-- the walk's state -/
def St (P : List Pt) (N : List UInt8) (at' i : Nat) (star : Option (Nat × Nat)) : Prop :=
  at' ≤ P.length ∧ i ≤ N.length ∧ (mt P N = true ↔ left P N at' i star) ∧
  ∀ ag fr, star = some (ag, fr) → ag ≤ at' ∧ fr ≤ i ∧ i - fr = at' - ag ∧ ∀ k p, ag ≤ k → k < at' → P[k]? = some p → p.star = false

theorem St.start (P : List Pt) (N : List UInt8) : St P N 0 0 none := by
  refine ⟨by omega, by omega, ?_, fun _ _ h => by cases h⟩
  unfold left
  simp
theorem drop_at {P : List Pt} {k : Nat} {p : Pt} (h : P[k]? = some p) : P.drop k = p :: P.drop (k + 1) := by
  obtain ⟨hk, e⟩ := List.getElem?_eq_some_iff.1 h
  rw [List.drop_eq_getElem_cons hk, e]
theorem dropN_at {N : List UInt8} {k : Nat} {c : UInt8} (h : N[k]? = some c) : N.drop k = c :: N.drop (k + 1) := by
  obtain ⟨hk, e⟩ := List.getElem?_eq_some_iff.1 h
  rw [List.drop_eq_getElem_cons hk, e]
theorem lt_at {α : Type} {P : List α} {k : Nat} {p : α} (h : P[k]? = some p) : k < P.length := (List.getElem?_eq_some_iff.1 h).1

theorem St.many {P : List Pt} {N : List UInt8} {at' i : Nat} {star : Option (Nat × Nat)} {p : Pt} (h : St P N at' i star) (hp : P[at']? = some p) (hs : p.star = true) : St P N (at' + 1) i (some (at' + 1, i)) := by
  obtain ⟨h1, h2, h3, h4⟩ := h
  have hlt := lt_at hp
  refine ⟨by omega, h2, ?_, ?_⟩
  · rw [h3]
    constructor
    · have key : mt (P.drop at') (N.drop i) = true → left P N (at' + 1) i (some (at' + 1, i)) := by
        intro h
        rw [drop_at hp, mt_star_iff _ _ hs] at h
        obtain ⟨k, hk, h⟩ := h
        rw [List.length_drop] at hk
        rw [List.drop_drop] at h
        by_cases hk0 : k = 0
        · subst hk0; exact .inl h
        · exact .inr ⟨_, _, rfl, i + k, by omega, by omega, h⟩
      rintro (h | ⟨ag, fr, e, j, hj1, hj2, h⟩)
      · exact key h
      · obtain ⟨a1, a2, a3, a4⟩ := h4 ag fr e
        have sg := seg (at' - ag) (P.drop ag) (N.drop j) (by rw [List.length_drop]; omega) (fun k q hk hq => a4 (ag + k) q (by omega) (by omega) (by rw [List.getElem?_drop] at hq; exact hq)) h
        obtain ⟨b1, b2⟩ := sg
        rw [List.length_drop] at b1
        rw [List.drop_drop, List.drop_drop, show ag + (at' - ag) = at' by omega] at b2
        refine key ?_
        rw [drop_at hp, mt_star_iff _ _ hs] at b2 ⊢
        obtain ⟨k, hk, h⟩ := b2
        rw [List.length_drop] at hk
        rw [List.drop_drop] at h
        refine ⟨j + (at' - ag) - i + k, by rw [List.length_drop]; omega, ?_⟩
        rw [List.drop_drop, show i + (j + (at' - ag) - i + k) = j + (at' - ag) + k by omega]
        exact h
    · rintro (h | ⟨ag, fr, e, j, hj1, hj2, h⟩)
      · refine .inl ?_
        rw [drop_at hp, mt_star_iff _ _ hs]
        exact ⟨0, by omega, by simpa using h⟩
      · obtain ⟨rfl, rfl⟩ : at' + 1 = ag ∧ i = fr := by injection e with e; injection e with e1 e2; exact ⟨e1, e2⟩
        refine .inl ?_
        rw [drop_at hp, mt_star_iff _ _ hs]
        refine ⟨j - i, by rw [List.length_drop]; omega, ?_⟩
        rw [List.drop_drop, show i + (j - i) = j by omega]
        exact h
  · intro ag fr e
    obtain ⟨rfl, rfl⟩ : at' + 1 = ag ∧ i = fr := by injection e with e; injection e with e1 e2; exact ⟨e1, e2⟩
    exact ⟨by omega, by omega, by omega, fun k q a b => by omega⟩
theorem St.has {P : List Pt} {N : List UInt8} {at' i : Nat} {star : Option (Nat × Nat)} {p : Pt} {c : UInt8} (h : St P N at' i star) (hp : P[at']? = some p) (hs : p.star = false) (hc : N[i]? = some c) (hh : p.set c = true) : St P N (at' + 1) (i + 1) star := by
  obtain ⟨h1, h2, h3, h4⟩ := h
  have hlt := lt_at hp
  have hlc := lt_at hc
  refine ⟨by omega, by omega, ?_, ?_⟩
  · rw [h3]
    have e : mt (P.drop at') (N.drop i) = mt (P.drop (at' + 1)) (N.drop (i + 1)) := by
      rw [drop_at hp, dropN_at hc, mt_one_cons _ _ _ hs, hh]; rfl
    unfold left
    rw [e]
  · intro ag fr e
    obtain ⟨a1, a2, a3, a4⟩ := h4 ag fr e
    refine ⟨by omega, by omega, by omega, fun k q b1 b2 hq => ?_⟩
    by_cases hk : k < at'
    · exact a4 k q b1 hk hq
    · obtain rfl : k = at' := by omega
      rw [hp] at hq
      cases hq
      exact hs
theorem mt_stuck {P : List Pt} {N : List UInt8} {at' i : Nat} {c : UInt8} (hc : N[i]? = some c) (hp : ∀ p, P[at']? = some p → p.star = false ∧ p.set c = false) : mt (P.drop at') (N.drop i) = false := by
  cases hq : P[at']? with
  | none =>
    rw [List.drop_eq_nil_of_le (List.getElem?_eq_none_iff.1 hq), dropN_at hc]; rfl
  | some p =>
    obtain ⟨h1, h2⟩ := hp p hq
    rw [drop_at hq, dropN_at hc, mt_one_cons _ _ _ h1, h2]; rfl
theorem St.again {P : List Pt} {N : List UInt8} {at' i ag fr : Nat} {c : UInt8} (h : St P N at' i (some (ag, fr))) (hc : N[i]? = some c) (hp : ∀ p, P[at']? = some p → p.star = false ∧ p.set c = false) : St P N ag (fr + 1) (some (ag, fr + 1)) := by
  obtain ⟨h1, h2, h3, h4⟩ := h
  have hlc := lt_at hc
  obtain ⟨a1, a2, a3, a4⟩ := h4 ag fr rfl
  refine ⟨by omega, by omega, ?_, ?_⟩
  · rw [h3]
    have e := mt_stuck hc hp
    constructor
    · rintro (h | ⟨ag', fr', e', j, hj1, hj2, h⟩)
      · rw [e] at h; cases h
      · obtain ⟨rfl, rfl⟩ : ag = ag' ∧ fr = fr' := by injection e' with e'; injection e' with e1 e2; exact ⟨e1, e2⟩
        by_cases hj : j = fr + 1
        · subst hj; exact .inl h
        · exact .inr ⟨_, _, rfl, j, by omega, hj2, h⟩
    · rintro (h | ⟨ag', fr', e', j, hj1, hj2, h⟩)
      · exact .inr ⟨_, _, rfl, fr + 1, by omega, by omega, h⟩
      · obtain ⟨rfl, rfl⟩ : ag = ag' ∧ fr + 1 = fr' := by injection e' with e'; injection e' with e1 e2; exact ⟨e1, e2⟩
        exact .inr ⟨_, _, rfl, j, by omega, hj2, h⟩
  · intro ag' fr' e'
    obtain ⟨rfl, rfl⟩ : ag = ag' ∧ fr + 1 = fr' := by injection e' with e'; injection e' with e1 e2; exact ⟨e1, e2⟩
    exact ⟨by omega, by omega, by omega, fun k q a b => by omega⟩
theorem St.fails {P : List Pt} {N : List UInt8} {at' i : Nat} {c : UInt8} (h : St P N at' i none) (hc : N[i]? = some c) (hp : ∀ p, P[at']? = some p → p.star = false ∧ p.set c = false) : mt P N = false := by
  obtain ⟨h1, h2, h3, h4⟩ := h
  have e := mt_stuck hc hp
  rw [Bool.eq_false_iff]
  intro hm
  rcases h3.1 hm with h | ⟨ag, fr, e', _⟩
  · rw [e] at h; cases h
  · cases e'
theorem St.done {P : List Pt} {N : List UInt8} {at' i : Nat} {star : Option (Nat × Nat)} (h : St P N at' i star) (hi : N.length ≤ i) : mt P N = mt (P.drop at') [] := by
  obtain ⟨h1, h2, h3, h4⟩ := h
  rw [Bool.eq_iff_iff, h3]
  unfold left
  rw [List.drop_eq_nil_of_le hi]
  constructor
  · rintro (h | ⟨ag, fr, e, j, hj1, hj2, h⟩)
    · exact h
    · obtain ⟨a1, a2, a3, a4⟩ := h4 ag fr e
      have sg := seg (at' - ag) (P.drop ag) (N.drop j) (by rw [List.length_drop]; omega) (fun k q hk hq => a4 (ag + k) q (by omega) (by omega) (by rw [List.getElem?_drop] at hq; exact hq)) h
      have := sg.1
      rw [List.length_drop] at this
      omega
  · exact .inl
theorem mt_end_many {P : List Pt} {k : Nat} {p : Pt} (hp : P[k]? = some p) (hs : p.star = true) : mt (P.drop k) [] = mt (P.drop (k + 1)) [] := by
  rw [drop_at hp, mt_star _ _ hs]; rfl
theorem mt_end_one {P : List Pt} {k : Nat} {p : Pt} (hp : P[k]? = some p) (hs : p.star = false) : mt (P.drop k) [] = false := by
  rw [drop_at hp, mt_one_nil _ hs]
theorem mt_end {P : List Pt} {k : Nat} (h : P.length ≤ k) : mt (P.drop k) [] = true := by
  rw [List.drop_eq_nil_of_le h]; rfl

/-! ### the way place by place -/
theorem mt_snoc_star {p : Pt} (P : List Pt) (n : List UInt8) (h : p.star = true) : mt (P ++ [p]) n = true ↔ ∃ k, k ≤ n.length ∧ mt P (n.take k) = true := by
  rw [mt_append]
  constructor
  · rintro ⟨k, hk, h1, _⟩; exact ⟨k, hk, h1⟩
  · rintro ⟨k, hk, h1⟩
    refine ⟨k, hk, h1, (mt_star_iff _ _ h).2 ⟨(n.drop k).length, by omega, ?_⟩⟩
    rw [List.drop_length]; rfl
theorem mt_snoc_one {p : Pt} (P : List Pt) (n : List UInt8) (h : p.star = false) : mt (P ++ [p]) n = true ↔ ∃ c m, n = m ++ [c] ∧ p.set c = true ∧ mt P m = true := by
  rw [mt_append]
  constructor
  · rintro ⟨k, hk, h1, h2⟩
    obtain ⟨c, n', e, a, h3⟩ := (mt_one_iff _ _ h).1 h2
    rw [mt_nil, List.isEmpty_iff] at h3
    subst h3
    refine ⟨c, n.take k, ?_, a, h1⟩
    rw [← e, List.take_append_drop]
  · rintro ⟨c, m, rfl, a, h1⟩
    refine ⟨m.length, by simp, by rw [List.take_left]; exact h1, ?_⟩
    rw [List.drop_left, mt_one_cons _ _ _ h, a]; rfl
theorem take_take' (n : List UInt8) (j k : Nat) (h : j ≤ k) : (n.take k).take j = n.take j := by rw [List.take_take, Nat.min_eq_left h]
/-- the next row of answers, behind a star -/
theorem next_star {p : Pt} (P : List Pt) (n : List UInt8) (k : Nat) (hk : k ≤ n.length) (h : p.star = true) :
    mt (P ++ [p]) (n.take k) = (mt P (n.take k) || (decide (0 < k) && mt (P ++ [p]) (n.take (k - 1)))) := by
  rw [Bool.eq_iff_iff, Bool.or_eq_true, Bool.and_eq_true, decide_eq_true_eq, mt_snoc_star _ _ h, mt_snoc_star _ _ h]
  simp only [List.length_take]
  constructor
  · rintro ⟨j, hj, h1⟩
    rw [take_take' n j k (by omega)] at h1
    by_cases e : j = k
    · subst e; exact .inl h1
    · refine .inr ⟨by omega, j, by omega, ?_⟩
      rw [take_take' n j (k - 1) (by omega)]; exact h1
  · rintro (h1 | ⟨h0, j, hj, h1⟩)
    · exact ⟨k, by omega, by rw [take_take' n k k (by omega)]; exact h1⟩
    · rw [take_take' n j (k - 1) (by omega)] at h1
      exact ⟨j, by omega, by rw [take_take' n j k (by omega)]; exact h1⟩
theorem next_one {p : Pt} (P : List Pt) (n : List UInt8) (k : Nat) (c : UInt8) (hc : n[k]? = some c) (h : p.star = false) :
    mt (P ++ [p]) (n.take (k + 1)) = (mt P (n.take k) && p.set c) := by
  have e : n.take (k + 1) = n.take k ++ [c] := by rw [List.take_add_one, hc]; rfl
  rw [Bool.eq_iff_iff, mt_snoc_one _ _ h, Bool.and_eq_true, e]
  constructor
  · rintro ⟨d, m, e1, a, b⟩
    obtain ⟨rfl, e2⟩ := List.append_inj' e1 rfl
    injection e2 with e2
    subst e2
    exact ⟨b, a⟩
  · rintro ⟨a, b⟩
    exact ⟨c, n.take k, rfl, b, a⟩
theorem next_none {p : Pt} (P : List Pt) (n : List UInt8) (h : p.star = false) : mt (P ++ [p]) (n.take 0) = false := by
  rw [Bool.eq_false_iff]
  intro hm
  obtain ⟨c, m, e, _⟩ := (mt_snoc_one _ _ h).1 hm
  simp at e
end Go.Proofs.YtfjhjhjdneihbaaGreatDoor.Pg
