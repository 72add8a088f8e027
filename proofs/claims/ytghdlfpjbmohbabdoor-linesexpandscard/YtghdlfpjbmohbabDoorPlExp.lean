/-
  Plain laws: a text with blanks in the place of tabulators.
-/
import Derived.Test.YtghdlfpjbmohbabDoorPl
namespace Go.Proofs.YtghdlfpjbmohbabDoor.Pl
open Go

/-- one byte more: what is written, and the column behind it -/
def stepE (wd : Nat) (st : List UInt8 × Nat) (c : UInt8) : List UInt8 × Nat :=
  if c = 10 then (st.1 ++ [10], 0)
  else if c = 9 then (st.1 ++ List.replicate (wd - st.2 % wd) 32, st.2 + (wd - st.2 % wd))
  else (st.1 ++ [c], st.2 + 1)
def ex (wd : Nat) (l : List UInt8) : List UInt8 × Nat := l.foldl (stepE wd) ([], 0)

theorem ex_nil (wd : Nat) : ex wd [] = ([], 0) := rfl
theorem ex_snoc (wd : Nat) (l : List UInt8) (c : UInt8) : ex wd (l ++ [c]) = stepE wd (ex wd l) c := by
  unfold ex; rw [List.foldl_append]; rfl

theorem step_end (wd : Nat) (st : List UInt8 × Nat) : stepE wd st 10 = (st.1 ++ [10], 0) := rfl
theorem step_tab (wd : Nat) (st : List UInt8 × Nat) : stepE wd st 9 = (st.1 ++ List.replicate (wd - st.2 % wd) 32, st.2 + (wd - st.2 % wd)) := rfl
theorem step_else (wd : Nat) (st : List UInt8 × Nat) (c : UInt8) (h1 : c ≠ 10) (h2 : c ≠ 9) : stepE wd st c = (st.1 ++ [c], st.2 + 1) := by
  unfold stepE; rw [if_neg h1, if_neg h2]

/-- what one byte adds: not nothing; no tabulator; as many ends; the same end -/
theorem step_adds (wd : Nat) (h1 : 1 ≤ wd) (h2 : wd ≤ 255) (st : List UInt8 × Nat) (c : UInt8) :
    ∃ q : List UInt8, (stepE wd st c).1 = st.1 ++ q ∧ q ≠ [] ∧ q.length ≤ 255 ∧ (9 : UInt8) ∉ q ∧ q.count 10 = [c].count 10 ∧ wh q = wh [c] ∧ (stepE wd st c).2 ≤ st.2 + q.length := by
  by_cases hc : c = 10
  · subst hc
    exact ⟨[10], rfl, by simp, by simp, by decide, rfl, rfl, by rw [step_end]; exact Nat.zero_le _⟩
  · by_cases ht : c = 9
    · subst ht
      have hm : st.2 % wd < wd := Nat.mod_lt _ (by omega)
      refine ⟨List.replicate (wd - st.2 % wd) 32, rfl, ?_, by rw [List.length_replicate]; omega, ?_, ?_, ?_, ?_⟩
      · intro e
        have := congrArg List.length e
        rw [List.length_replicate, List.length_nil] at this
        omega
      · intro hm'
        have := List.eq_of_mem_replicate hm'
        exact absurd this (by decide)
      · rw [List.count_eq_zero_of_not_mem (fun hm' => absurd (List.eq_of_mem_replicate hm') (by decide))]
        rfl
      · have : wd - st.2 % wd = (wd - st.2 % wd - 1) + 1 := by omega
        rw [this, List.replicate_succ', wh_snoc]
        rfl
      · rw [step_tab, List.length_replicate]
        exact Nat.le_refl _
    · refine ⟨[c], by rw [step_else wd st c hc ht], by simp, by simp, by simp; exact fun e => ht e.symm, rfl, rfl, by rw [step_else wd st c hc ht]; exact Nat.le_refl _⟩

/-- all that is promised of the answer, of every beginning -/
theorem ex_all (wd : Nat) (h1 : 1 ≤ wd) (h2 : wd ≤ 255) (l : List UInt8) :
    l.length ≤ (ex wd l).1.length ∧ (ex wd l).1.length ≤ 255 * l.length ∧ (ex wd l).2 ≤ (ex wd l).1.length ∧ (9 : UInt8) ∉ (ex wd l).1 ∧ (ex wd l).1.count 10 = l.count 10 ∧ wh (ex wd l).1 = wh l := by
  generalize hn : l.length = n
  induction n generalizing l with
  | zero =>
    have : l = [] := List.length_eq_zero_iff.1 hn
    subst this
    exact ⟨Nat.le_refl _, Nat.le_refl _, Nat.le_refl _, by simp [ex_nil], rfl, rfl⟩
  | succ n ih =>
    have hne : l ≠ [] := by intro e; rw [e] at hn; cases hn
    obtain ⟨p, c, rfl⟩ : ∃ p c, l = p ++ [c] := ⟨l.dropLast, l.getLast hne, (List.dropLast_concat_getLast hne).symm⟩
    have hp : p.length = n := by simp at hn; omega
    obtain ⟨a, b, d, e, f, g⟩ := ih p hp
    rw [ex_snoc]
    obtain ⟨q, hq, hqn, hql, hq9, hqc, hqw, hqk⟩ := step_adds wd h1 h2 (ex wd p) c
    have hq0 : 0 < q.length := List.length_pos_iff.2 hqn
    rw [hq, List.length_append]
    refine ⟨by omega, by omega, by omega, ?_, ?_, ?_⟩
    · intro hm
      rcases List.mem_append.1 hm with hm | hm
      · exact e hm
      · exact hq9 hm
    · rw [List.count_append, List.count_append, f, hqc]
    · rw [wh_append _ _ hqn, wh_append _ _ (by simp), hqw]

theorem ex_mono (wd : Nat) (h1 : 1 ≤ wd) (h2 : wd ≤ 255) (l r : List UInt8) : (ex wd l).1.length ≤ (ex wd (l ++ r)).1.length := by
  generalize hn : r.length = n
  induction n generalizing r with
  | zero => rw [List.length_eq_zero_iff.1 hn, List.append_nil]; exact Nat.le_refl _
  | succ n ih =>
    have hne : r ≠ [] := by intro e; rw [e] at hn; cases hn
    obtain ⟨p, c, rfl⟩ : ∃ p c, r = p ++ [c] := ⟨r.dropLast, r.getLast hne, (List.dropLast_concat_getLast hne).symm⟩
    have hp : p.length = n := by simp at hn; omega
    rw [← List.append_assoc, ex_snoc]
    obtain ⟨q, hq, _⟩ := step_adds wd h1 h2 (ex wd (l ++ p)) c
    rw [hq, List.length_append]
    exact Nat.le_trans (ih p hp) (Nat.le_add_right _ _)
theorem ex_take (wd : Nat) (h1 : 1 ≤ wd) (h2 : wd ≤ 255) (l : List UInt8) (k : Nat) : (ex wd (l.take k)).1.length ≤ (ex wd l).1.length := by
  have := ex_mono wd h1 h2 (l.take k) (l.drop k)
  rw [List.take_append_drop] at this
  exact this

/-- a text without tabulators is its own -/
theorem ex_plain (wd : Nat) (l : List UInt8) (h : (9 : UInt8) ∉ l) : (ex wd l).1 = l := by
  generalize hn : l.length = n
  induction n generalizing l with
  | zero => rw [List.length_eq_zero_iff.1 hn]; rfl
  | succ n ih =>
    have hne : l ≠ [] := by intro e; rw [e] at hn; cases hn
    obtain ⟨p, c, rfl⟩ : ∃ p c, l = p ++ [c] := ⟨l.dropLast, l.getLast hne, (List.dropLast_concat_getLast hne).symm⟩
    have hp : p.length = n := by simp at hn; omega
    have h9 : c ≠ 9 := fun e => h (by simp [e])
    have hpn : (9 : UInt8) ∉ p := fun e => h (List.mem_append_left _ e)
    rw [ex_snoc]
    by_cases hc : c = 10
    · subst hc; rw [step_end, ih p hpn hp]
    · rw [step_else _ _ _ hc h9, ih p hpn hp]

theorem num_ex (wd : Nat) (h1 : 1 ≤ wd) (h2 : wd ≤ 255) (l : List UInt8) : num (ex wd l).1 = num l := by
  obtain ⟨a, b, _, _, c, d⟩ := ex_all wd h1 h2 l
  have e : ((ex wd l).1 ≠ []) ↔ l ≠ [] := by
    constructor
    · intro h e; subst e; exact h rfl
    · intro h e
      have : l.length = 0 := by rw [e, List.length_nil] at a; omega
      exact h (List.length_eq_zero_iff.1 this)
  unfold num Lib.countByte
  rw [c, d]
  simp only [e]
end Go.Proofs.YtghdlfpjbmohbabDoor.Pl
