/-
  Plain laws on longest common subsequences, by the table of beginnings: no program, no world.
-/
import Derived.Test.YtdilmgcdebobaaaE2
namespace Go.Proofs.Ytdilmgcdebobaaa.My

def eqAt (a b : List Int) (i k : Nat) : Bool := match a[i]?, b[k]? with
  | some u, some v => u == v
  | _, _ => false
/-- one more line of the table -/
def inner (a b : List Int) (i : Nat) (f : Nat → Nat) : Nat → Nat
  | 0 => 0
  | k + 1 => if eqAt a b i k then f k + 1 else max (f (k + 1)) (inner a b i f k)
/-- the table: of the first x of a and the first y of b -/
def el (a b : List Int) : Nat → Nat → Nat
  | 0 => fun _ => 0
  | i + 1 => inner a b i (el a b i)
def lcs (a b : List Int) : Nat := el a b a.length b.length
theorem el_zero (a b : List Int) (y : Nat) : el a b 0 y = 0 := rfl
theorem el_none (a b : List Int) (x : Nat) : el a b x 0 = 0 := by cases x <;> rfl
theorem el_succ (a b : List Int) (x y : Nat) : el a b (x + 1) (y + 1) = if eqAt a b x y then el a b x y + 1 else max (el a b x (y + 1)) (el a b (x + 1) y) := rfl
theorem el_match {a b : List Int} {x y : Nat} (h : eqAt a b x y = true) : el a b (x + 1) (y + 1) = el a b x y + 1 := by rw [el_succ, if_pos h]
theorem el_miss {a b : List Int} {x y : Nat} (h : eqAt a b x y = false) : el a b (x + 1) (y + 1) = max (el a b x (y + 1)) (el a b (x + 1) y) := by rw [el_succ, if_neg (by rw [h]; decide)]
theorem el_laws (a b : List Int) : ∀ x y, el a b x y ≤ el a b (x + 1) y ∧ el a b x y ≤ el a b x (y + 1) ∧ el a b (x + 1) y ≤ el a b x y + 1 ∧ el a b x (y + 1) ≤ el a b x y + 1 := by
  -- what one step to the right or down adds, by the sum of the places
  have key : ∀ n x y, x + y ≤ n → (el a b x y ≤ el a b (x + 1) y ∧ el a b (x + 1) y ≤ el a b x y + 1) ∧ (el a b x y ≤ el a b x (y + 1) ∧ el a b x (y + 1) ≤ el a b x y + 1) := by
    intro n
    induction n with
    | zero =>
      intro x y h
      have hx : x = 0 := by omega
      have hy : y = 0 := by omega
      subst hx hy
      simp [el_zero, el_none]
    | succ n ih =>
      intro x y h
      refine ⟨?_, ?_⟩
      · cases y with
        | zero => simp [el_none]
        | succ y =>
          have h1 := (ih x y (by omega)).2
          have h2 := (ih x y (by omega)).1
          cases he : eqAt a b x y with
          | true => rw [el_match he]; omega
          | false => rw [el_miss he]; omega
      · cases x with
        | zero => simp [el_zero]
        | succ x =>
          have h1 := (ih x y (by omega)).2
          have h2 := (ih x y (by omega)).1
          cases he : eqAt a b x y with
          | true => rw [el_match he]; omega
          | false => rw [el_miss he]; omega
  intro x y
  obtain ⟨⟨h1, h2⟩, h3, h4⟩ := key (x + y) x y (Nat.le_refl _)
  exact ⟨h1, h3, h2, h4⟩
theorem el_right (a b : List Int) (x y : Nat) : el a b x y ≤ el a b (x + 1) y := (el_laws a b x y).1
theorem el_down (a b : List Int) (x y : Nat) : el a b x y ≤ el a b x (y + 1) := (el_laws a b x y).2.1
theorem el_right1 (a b : List Int) (x y : Nat) : el a b (x + 1) y ≤ el a b x y + 1 := (el_laws a b x y).2.2.1
theorem el_down1 (a b : List Int) (x y : Nat) : el a b x (y + 1) ≤ el a b x y + 1 := (el_laws a b x y).2.2.2
theorem el_both (a b : List Int) (x y : Nat) : el a b (x + 1) (y + 1) ≤ el a b x y + 1 := by
  have h1 := el_laws a b x y
  cases he : eqAt a b x y with
  | true => rw [el_match he]; omega
  | false => rw [el_miss he]; omega
theorem el_le (a b : List Int) : ∀ x y, el a b x y ≤ x ∧ el a b x y ≤ y := by
  intro x y
  constructor
  · induction x with
    | zero => rw [el_zero]; exact Nat.le_refl _
    | succ x ih => have := el_right1 a b x y; omega
  · induction y with
    | zero => rw [el_none]; exact Nat.le_refl _
    | succ y ih => have := el_down1 a b x y; omega
theorem el_mono_x (a b : List Int) {x x' : Nat} (y : Nat) (h : x ≤ x') : el a b x y ≤ el a b x' y := by
  induction h with
  | refl => exact Nat.le_refl _
  | step _ ih => exact Nat.le_trans ih (el_right a b _ y)
theorem el_mono_y (a b : List Int) (x : Nat) {y y' : Nat} (h : y ≤ y') : el a b x y ≤ el a b x y' := by
  induction h with
  | refl => exact Nat.le_refl _
  | step _ ih => exact Nat.le_trans ih (el_down a b x _)

/-! ### by common subsequences -/
theorem sub_snoc {l m : List Int} {z : Int} (h : l.Sublist (m ++ [z])) : l.Sublist m ∨ ∃ l', l = l' ++ [z] ∧ l'.Sublist m := by
  obtain ⟨l1, l2, rfl, h1, h2⟩ := List.sublist_append_iff.1 h
  cases h2 with
  | cons _ h2 => cases h2; left; simpa using h1
  | cons_cons _ h2 => cases h2; right; exact ⟨l1, rfl, h1⟩
theorem take_snoc {a : List Int} {x : Nat} {u : Int} (h : a[x]? = some u) : a.take (x + 1) = a.take x ++ [u] := by
  rw [List.take_add_one, h]; rfl
theorem el_max (a b : List Int) : ∀ x y (l : List Int), l.Sublist (a.take x) → l.Sublist (b.take y) → l.length ≤ el a b x y := by
  intro x
  induction x with
  | zero => intro y l h _; rw [List.take_zero] at h; have := h.length_le; rw [List.length_nil] at this; omega
  | succ x ihx =>
    intro y
    induction y with
    | zero => intro l _ h; rw [List.take_zero] at h; have := h.length_le; rw [List.length_nil] at this; omega
    | succ y ihy =>
      intro l h1 h2
      cases hx : a[x]? with
      | none =>
        have e : a.take (x + 1) = a.take x := by rw [List.take_add_one, hx]; simp
        rw [e] at h1
        exact Nat.le_trans (ihx (y + 1) l h1 h2) (el_right a b x (y + 1))
      | some u =>
        cases hy : b[y]? with
        | none =>
          have e : b.take (y + 1) = b.take y := by rw [List.take_add_one, hy]; simp
          rw [e] at h2
          exact Nat.le_trans (ihy l h1 h2) (el_down a b (x + 1) y)
        | some v =>
          rw [take_snoc hx] at h1
          rcases sub_snoc h1 with g1 | ⟨l', rfl, g1⟩
          · exact Nat.le_trans (ihx (y + 1) l g1 h2) (el_right a b x (y + 1))
          · rw [take_snoc hy] at h2
            rcases sub_snoc h2 with g2 | ⟨l2, e, g2⟩
            · exact Nat.le_trans (ihy _ (by rw [take_snoc hx]; exact h1) g2) (el_down a b (x + 1) y)
            · obtain ⟨rfl, e2⟩ := List.append_inj' e rfl
              simp at e2
              subst e2
              have he : eqAt a b x y = true := by unfold eqAt; rw [hx, hy]; simp
              rw [el_match he, List.length_append, List.length_singleton]
              have := ihx y l' g1 g2
              omega
theorem el_some (a b : List Int) : ∀ x y, ∃ l : List Int, l.Sublist (a.take x) ∧ l.Sublist (b.take y) ∧ l.length = el a b x y := by
  intro x
  induction x with
  | zero => intro y; exact ⟨[], List.nil_sublist _, List.nil_sublist _, rfl⟩
  | succ x ihx =>
    intro y
    induction y with
    | zero => exact ⟨[], List.nil_sublist _, List.nil_sublist _, by rw [el_none]; rfl⟩
    | succ y ihy =>
      cases he : eqAt a b x y with
      | true =>
        obtain ⟨l, h1, h2, h3⟩ := ihx y
        cases hx : a[x]? with
        | none => unfold eqAt at he; rw [hx] at he; simp at he
        | some u =>
          cases hy : b[y]? with
          | none => unfold eqAt at he; rw [hx, hy] at he; simp at he
          | some v =>
            have huv : u = v := by unfold eqAt at he; rw [hx, hy] at he; simpa using he
            subst huv
            refine ⟨l ++ [u], ?_, ?_, ?_⟩
            · rw [take_snoc hx]; exact h1.append (List.Sublist.refl _)
            · rw [take_snoc hy]; exact h2.append (List.Sublist.refl _)
            · rw [el_match he, List.length_append, h3]; rfl
      | false =>
        rw [el_miss he]
        by_cases hm : el a b (x + 1) y ≤ el a b x (y + 1)
        · obtain ⟨l, h1, h2, h3⟩ := ihx (y + 1)
          exact ⟨l, h1.trans (List.take_sublist_take_left (by omega)), h2, by rw [h3]; omega⟩
        · obtain ⟨l, h1, h2, h3⟩ := ihy
          exact ⟨l, h1, h2.trans (List.take_sublist_take_left (by omega)), by rw [h3]; omega⟩
theorem lcs_max {a b l : List Int} (h1 : l.Sublist a) (h2 : l.Sublist b) : l.length ≤ lcs a b := by
  unfold lcs
  exact el_max a b _ _ l (by rw [List.take_length]; exact h1) (by rw [List.take_length]; exact h2)
theorem lcs_some (a b : List Int) : ∃ l : List Int, l.Sublist a ∧ l.Sublist b ∧ l.length = lcs a b := by
  obtain ⟨l, h1, h2, h3⟩ := el_some a b a.length b.length
  rw [List.take_length] at h1 h2
  exact ⟨l, h1, h2, h3⟩
theorem lcs_take (a b : List Int) (x y : Nat) : lcs (a.take x) (b.take y) = el a b x y := by
  apply Nat.le_antisymm
  · obtain ⟨l, h1, h2, h3⟩ := lcs_some (a.take x) (b.take y)
    rw [← h3]; exact el_max a b x y l h1 h2
  · obtain ⟨l, h1, h2, h3⟩ := el_some a b x y
    rw [← h3]; exact lcs_max h1 h2
theorem lcs_comm (a b : List Int) : lcs a b = lcs b a := by
  apply Nat.le_antisymm
  · obtain ⟨l, h1, h2, h3⟩ := lcs_some a b
    rw [← h3]; exact lcs_max h2 h1
  · obtain ⟨l, h1, h2, h3⟩ := lcs_some b a
    rw [← h3]; exact lcs_max h2 h1
theorem lcs_app (a b c d : List Int) : lcs a c + lcs b d ≤ lcs (a ++ b) (c ++ d) := by
  obtain ⟨l, h1, h2, h3⟩ := lcs_some a c
  obtain ⟨r, g1, g2, g3⟩ := lcs_some b d
  have := lcs_max (h1.append g1) (h2.append g2)
  rw [List.length_append] at this
  omega
theorem lcs_nil (b : List Int) : lcs [] b = 0 := rfl
theorem lcs_nil2 (a : List Int) : lcs a [] = 0 := el_none _ _ _
theorem lcs_le (a b : List Int) : lcs a b ≤ a.length ∧ lcs a b ≤ b.length := el_le a b _ _
theorem lcs_self (a : List Int) : lcs a a = a.length := by
  have h1 := lcs_max (List.Sublist.refl a) (List.Sublist.refl a)
  have h2 := (lcs_le a a).1
  omega
theorem lcs_rev (a b : List Int) : lcs a.reverse b.reverse = lcs a b := by
  apply Nat.le_antisymm
  · obtain ⟨l, h1, h2, h3⟩ := lcs_some a.reverse b.reverse
    have := lcs_max (l := l.reverse) (a := a) (b := b) (by simpa using h1.reverse) (by simpa using h2.reverse)
    rw [List.length_reverse] at this
    omega
  · obtain ⟨l, h1, h2, h3⟩ := lcs_some a b
    have := lcs_max h1.reverse h2.reverse
    rw [List.length_reverse] at this
    omega
theorem lcs_cons (x : Int) (a b : List Int) : lcs (x :: a) (x :: b) = lcs a b + 1 := by
  apply Nat.le_antisymm
  · obtain ⟨l, h1, h2, h3⟩ := lcs_some (x :: a) (x :: b)
    rw [← h3]
    cases h1 with
    | cons _ h1 =>
      cases h2 with
      | cons _ h2 => have := lcs_max h1 h2; omega
      | cons_cons _ h2 =>
        rename_i l'
        have h1' : l'.Sublist a := (List.sublist_cons_self x l').trans h1
        have := lcs_max h1' h2
        rw [List.length_cons]; omega
    | cons_cons _ h1 =>
      rename_i l'
      cases h2 with
      | cons _ h2 =>
        have h2' : l'.Sublist b := (List.sublist_cons_self x l').trans h2
        have := lcs_max h1 h2'
        rw [List.length_cons]; omega
      | cons_cons _ h2 => have := lcs_max h1 h2; rw [List.length_cons]; omega
  · have := lcs_app [x] a [x] b
    have h1 := lcs_self [x]
    simp only [List.length_singleton] at h1
    simp only [List.singleton_append] at this
    omega
theorem lcs_head : ∀ (h a b : List Int), lcs (h ++ a) (h ++ b) = lcs a b + h.length
  | [], a, b => rfl
  | x :: h, a, b => by
    rw [List.cons_append, List.cons_append, lcs_cons, lcs_head h a b, List.length_cons]; omega
theorem lcs_tail (t a b : List Int) : lcs (a ++ t) (b ++ t) = lcs a b + t.length := by
  rw [← lcs_rev, List.reverse_append, List.reverse_append, lcs_head, lcs_rev, List.length_reverse]
theorem lcs_filter (p : Int → Bool) (a b : List Int) (h : ∀ x ∈ b, p x = true) : lcs (a.filter p) b = lcs a b := by
  apply Nat.le_antisymm
  · obtain ⟨l, h1, h2, h3⟩ := lcs_some (a.filter p) b
    rw [← h3]; exact lcs_max (h1.trans (List.filter_sublist)) h2
  · obtain ⟨l, h1, h2, h3⟩ := lcs_some a b
    rw [← h3]
    have e : l.filter p = l := List.filter_eq_self.2 (fun x hx => h x (h2.subset hx))
    have := h1.filter p
    rw [e] at this
    exact lcs_max this h2
/-- two sublists of one list have much in common -/
theorem sub_meet : ∀ (c l r : List Int), l.Sublist c → r.Sublist c → ∃ m : List Int, m.Sublist l ∧ m.Sublist r ∧ l.length + r.length ≤ c.length + m.length
  | [], l, r, h1, h2 => by
    cases h1; cases h2
    exact ⟨[], List.nil_sublist _, List.nil_sublist _, Nat.le_refl _⟩
  | x :: c, l, r, h1, h2 => by
    cases h1 with
    | cons _ h1 =>
      cases h2 with
      | cons _ h2 =>
        obtain ⟨m, g1, g2, g3⟩ := sub_meet c _ _ h1 h2
        exact ⟨m, g1, g2, by rw [List.length_cons]; omega⟩
      | cons_cons _ h2 =>
        obtain ⟨m, g1, g2, g3⟩ := sub_meet c _ _ h1 h2
        exact ⟨m, g1, g2.trans (List.sublist_cons_self ..), by rw [List.length_cons, List.length_cons]; omega⟩
    | cons_cons _ h1 =>
      cases h2 with
      | cons _ h2 =>
        obtain ⟨m, g1, g2, g3⟩ := sub_meet c _ _ h1 h2
        exact ⟨m, g1.trans (List.sublist_cons_self ..), g2, by rw [List.length_cons, List.length_cons]; omega⟩
      | cons_cons _ h2 =>
        obtain ⟨m, g1, g2, g3⟩ := sub_meet c _ _ h1 h2
        exact ⟨x :: m, g1.cons_cons _, g2.cons_cons _, by rw [List.length_cons, List.length_cons, List.length_cons, List.length_cons]; omega⟩
theorem lcs_way (a b c : List Int) : lcs a c + lcs c b ≤ c.length + lcs a b := by
  obtain ⟨l, h1, h2, h3⟩ := lcs_some a c
  obtain ⟨r, g1, g2, g3⟩ := lcs_some c b
  obtain ⟨m, k1, k2, k3⟩ := sub_meet c l r h2 g1
  have := lcs_max (k1.trans h1) (k2.trans g2)
  omega
end Go.Proofs.Ytdilmgcdebobaaa.My
