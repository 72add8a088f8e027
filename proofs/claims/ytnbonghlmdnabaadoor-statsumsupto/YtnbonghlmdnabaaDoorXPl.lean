/-
  Plain laws on lists of bytes and on their lines: no program, no world.
-/
import Derived.Lib.Bytealg
import Derived.Lib.LastIndexByte
namespace Go.Proofs.YtnbonghlmdnabaaDoor.Pl
open Go

/-- the lines of a text, each with its end -/
def cut : List UInt8 → List (List UInt8)
  | [] => []
  | c :: r => if c = 10 then [10] :: cut r else
    match cut r with
    | [] => [[c]]
    | x :: xs => (c :: x) :: xs

theorem cut_nil : cut [] = [] := rfl
theorem cut_end (r : List UInt8) : cut (10 :: r) = [10] :: cut r := by simp [cut]

theorem cut_first (p q : List UInt8) (h : (10 : UInt8) ∉ p) : cut (p ++ 10 :: q) = (p ++ [10]) :: cut q := by
  induction p with
  | nil => simp [cut]
  | cons c p ih =>
    have hc : c ≠ 10 := fun e => h (by simp [e])
    have hp : (10 : UInt8) ∉ p := fun e => h (List.mem_cons_of_mem _ e)
    simp only [List.cons_append, cut, if_neg hc, ih hp]

theorem cut_last (p : List UInt8) (h : (10 : UInt8) ∉ p) (hne : p ≠ []) : cut p = [p] := by
  induction p with
  | nil => exact absurd rfl hne
  | cons c p ih =>
    have hc : c ≠ 10 := fun e => h (by simp [e])
    have hp : (10 : UInt8) ∉ p := fun e => h (List.mem_cons_of_mem _ e)
    cases p with
    | nil => simp [cut, hc]
    | cons d p => rw [cut, if_neg hc, ih hp (by simp)]

theorem cut_flatten (l : List UInt8) : (cut l).flatten = l := by
  induction l with
  | nil => rfl
  | cons c r ih =>
    by_cases hc : c = 10
    · subst hc; rw [cut_end]; simp [ih]
    · rw [cut, if_neg hc]
      split <;> rename_i h <;> rw [h] at ih <;> simp at ih ⊢ <;> simp [ih]

/-- whether the last byte is a byte 10 -/
def wh (l : List UInt8) : Bool := l.getLast? == some 10

/-- how long the first line is -/
def fl (l : List UInt8) : Nat := if Lib.indexByte l 10 < 0 then l.length else (Lib.indexByte l 10).toNat + 1

theorem index_miss (l : List UInt8) (c : UInt8) (h : c ∉ l) : Lib.indexByte l c = -1 := by
  induction l with
  | nil => rfl
  | cons b l ih =>
    have hb : ¬ (b == c) = true := fun e => h (by simp [eq_of_beq e])
    have hl : c ∉ l := fun e => h (List.mem_cons_of_mem _ e)
    unfold Lib.indexByte
    rw [if_neg hb, ih hl]
    rfl

theorem index_hit (p q : List UInt8) (c : UInt8) (h : c ∉ p) : Lib.indexByte (p ++ c :: q) c = p.length := by
  induction p with
  | nil => simp [Lib.indexByte]
  | cons b p ih =>
    have hb : ¬ (b == c) = true := fun e => h (by simp [eq_of_beq e])
    have hp : c ∉ p := fun e => h (List.mem_cons_of_mem _ e)
    rw [List.cons_append]
    unfold Lib.indexByte
    rw [if_neg hb, ih hp, if_neg (by simp)]
    simp

/-- a text parts at its first byte c, or has none -/
theorem parts (l : List UInt8) (c : UInt8) : (c ∉ l) ∨ ∃ p q, l = p ++ c :: q ∧ c ∉ p := by
  induction l with
  | nil => exact .inl (by simp)
  | cons b l ih =>
    by_cases hb : b = c
    · exact .inr ⟨[], l, by simp [hb], by simp⟩
    · rcases ih with h | ⟨p, q, rfl, hp⟩
      · exact .inl (by simp [h]; exact fun e => hb e.symm)
      · exact .inr ⟨b :: p, q, by simp, by simp [hp]; exact fun e => hb e.symm⟩

theorem fl_miss (l : List UInt8) (h : (10 : UInt8) ∉ l) : fl l = l.length := by
  unfold fl; rw [index_miss l 10 h]; simp

theorem fl_hit (p q : List UInt8) (h : (10 : UInt8) ∉ p) : fl (p ++ 10 :: q) = p.length + 1 := by
  unfold fl; rw [index_hit p q 10 h, if_neg (by omega)]; simp

theorem fl_le (l : List UInt8) : fl l ≤ l.length := by
  rcases parts l 10 with h | ⟨p, q, rfl, hp⟩
  · rw [fl_miss l h]; exact Nat.le_refl _
  · rw [fl_hit p q hp]; simp

theorem fl_pos (l : List UInt8) (h : l ≠ []) : 0 < fl l := by
  rcases parts l 10 with h1 | ⟨p, q, rfl, hp⟩
  · rw [fl_miss l h1]; exact List.length_pos_iff.2 h
  · rw [fl_hit p q hp]; omega

theorem cut_fl (l : List UInt8) (h : l ≠ []) : cut l = l.take (fl l) :: cut (l.drop (fl l)) := by
  rcases parts l 10 with h1 | ⟨p, q, rfl, hp⟩
  · rw [fl_miss l h1, List.take_length, List.drop_length, cut_last l h1 h]; rfl
  · rw [cut_first p q hp, fl_hit p q hp]
    have e : p ++ 10 :: q = (p ++ [10]) ++ q := by simp
    have el : p.length + 1 = (p ++ [10]).length := by simp
    rw [e, el, List.take_left, List.drop_left]

theorem wh_snoc (p : List UInt8) (c : UInt8) : wh (p ++ [c]) = (c == 10) := by simp [wh]
theorem wh_nil : wh [] = false := rfl
theorem wh_cons (c : UInt8) (l : List UInt8) (h : l ≠ []) : wh (c :: l) = wh l := by
  cases l with
  | nil => exact absurd rfl h
  | cons d l => simp [wh]
theorem wh_append (p q : List UInt8) (h : q ≠ []) : wh (p ++ q) = wh q := by
  induction p with
  | nil => rfl
  | cons c p ih => rw [List.cons_append, wh_cons _ _ (by simp [h]), ih]

/-- how many lines -/
def num (l : List UInt8) : Nat := Lib.countByte l 10 + if l ≠ [] ∧ wh l = false then 1 else 0

theorem num_eq (l : List UInt8) : num l = (cut l).length := by
  induction l with
  | nil => simp [num, Lib.countByte, cut]
  | cons c r ih =>
    by_cases hc : c = 10
    · subst hc
      rw [cut_end, List.length_cons, ← ih]
      cases r with
      | nil => simp [num, Lib.countByte, wh]
      | cons d r =>
        have e : wh (10 :: d :: r) = wh (d :: r) := wh_cons _ _ (by simp)
        simp only [num, Lib.countByte, e, List.count_cons_self]
        simp
        omega
    · rw [cut, if_neg hc]
      cases r with
      | nil => simp [num, Lib.countByte, wh, cut, hc]
      | cons d r =>
        have e : wh (c :: d :: r) = wh (d :: r) := wh_cons _ _ (by simp)
        have hn : num (c :: d :: r) = num (d :: r) := by
          simp only [num, Lib.countByte, e]
          rw [List.count_cons_of_ne hc]
          simp
        rw [hn, ih]
        split
        · rename_i h
          have := congrArg List.flatten h
          rw [cut_flatten] at this
          simp at this
        · rename_i h; rw [h]; simp

theorem num_le (l : List UInt8) : num l ≤ l.length := by
  rw [num_eq]
  have h : ∀ l : List UInt8, (cut l).length ≤ l.length := by
    intro l
    induction l with
    | nil => simp [cut]
    | cons c r ih =>
      by_cases hc : c = 10
      · subst hc; rw [cut_end]; simp; exact ih
      · rw [cut, if_neg hc]
        split <;> rename_i h <;> rw [h] at ih <;> simp at ih ⊢
        omega
  exact h l

/-- whether a string may be a text's line; the last one may go without its end -/
def ok1 (x : List UInt8) : Bool := !x.isEmpty && decide (fl x = x.length)

/-- whether strings are the lines of a text -/
def valid : List (List UInt8) → Bool
  | [] => true
  | [x] => ok1 x
  | x :: y :: r => ok1 x && wh x && valid (y :: r)

theorem valid_bad1 (x : List UInt8) (r : List (List UInt8)) (h : ok1 x = false) : valid (x :: r) = false := by
  cases r with
  | nil => exact h
  | cons y r => simp [valid, h]
theorem valid_bad2 (x : List UInt8) (r : List (List UInt8)) (hr : r ≠ []) (h : wh x = false) : valid (x :: r) = false := by
  cases r with
  | nil => exact absurd rfl hr
  | cons y r => simp [valid, h]
theorem valid_good (x : List UInt8) (r : List (List UInt8)) (h : ok1 x = true) (hw : r = [] ∨ wh x = true) : valid (x :: r) = valid r := by
  cases r with
  | nil => simp [valid, h]
  | cons y r =>
    rcases hw with hw | hw
    · cases hw
    · simp [valid, h, hw]

theorem cut_ne (l : List UInt8) : ∀ x ∈ cut l, x ≠ [] := by
  induction l with
  | nil => simp [cut]
  | cons c r ih =>
    by_cases hc : c = 10
    · subst hc; rw [cut_end]; simp; exact ih
    · rw [cut, if_neg hc]
      split <;> rename_i h <;> rw [h] at ih <;> simp at ih ⊢
      exact ih.2

end Go.Proofs.YtnbonghlmdnabaaDoor.Pl
