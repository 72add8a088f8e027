/-
  Unified diffs, plain: lines that are read one by one, the rows of a hunk: as the program reads them, and as the document does.
-/
import Derived.Test.YtkolgglllladfaaGreatDoorFa
import Derived.Test.YtkolgglllladfaaGreatDoorGrPl
namespace Go.Proofs.YtkolgglllladfaaGreatDoor.Un
open Hu (Rw)

/-! ### lines -/
/-- a text with an end -/
def fin (s : Bs) : Bs := if s = [] ∨ Go.Proofs.YtkolgglllladfaaGreatDoor.Pl.wh s = true then s else s ++ [10]
/-- its lines -/
def lns (s : Bs) : List Bs := Go.Proofs.YtkolgglllladfaaGreatDoor.Pl.cut (fin s)
/-- its first line, with an end -/
def nx (s : Bs) : Bs := if (10 : UInt8) ∈ s ∨ s = [] then s.take (Go.Proofs.YtkolgglllladfaaGreatDoor.Pl.fl s) else s ++ [10]
theorem lns_nil : lns [] = [] := rfl
theorem fin_app {p q : Bs} : fin (p ++ 10 :: q) = p ++ 10 :: fin q := by
  unfold fin
  by_cases hq : q = []
  · subst hq
    rw [if_pos (.inr (by rw [Go.Proofs.YtkolgglllladfaaGreatDoor.Pl.wh_append _ _ (by simp)]; rfl)), if_pos (.inl rfl)]
  · have e : Go.Proofs.YtkolgglllladfaaGreatDoor.Pl.wh (p ++ 10 :: q) = Go.Proofs.YtkolgglllladfaaGreatDoor.Pl.wh q := by rw [Go.Proofs.YtkolgglllladfaaGreatDoor.Pl.wh_append _ _ (by simp), Go.Proofs.YtkolgglllladfaaGreatDoor.Pl.wh_cons _ _ hq]
    by_cases hw : Go.Proofs.YtkolgglllladfaaGreatDoor.Pl.wh q = true
    · rw [if_pos (.inr (by rw [e]; exact hw)), if_pos (.inr hw)]
    · rw [if_neg (by rw [e]; simp [hw]), if_neg (by simp [hq, hw])]
      simp
theorem lns_cons {s : Bs} (h : s ≠ []) : lns s = nx s :: lns (s.drop (Go.Proofs.YtkolgglllladfaaGreatDoor.Pl.fl s)) := by
  rcases Go.Proofs.YtkolgglllladfaaGreatDoor.Pl.parts s 10 with hm | ⟨p, q, rfl, hp⟩
  · have hw : ¬ (s = [] ∨ Go.Proofs.YtkolgglllladfaaGreatDoor.Pl.wh s = true) := by
      rintro (e | e)
      · exact h e
      · unfold Go.Proofs.YtkolgglllladfaaGreatDoor.Pl.wh at e
        rw [beq_iff_eq] at e
        exact hm (List.mem_of_getLast? e)
    unfold lns
    have e1 : fin s = s ++ 10 :: [] := by unfold fin; rw [if_neg hw]
    rw [e1, Go.Proofs.YtkolgglllladfaaGreatDoor.Pl.cut_first s [] hm, Go.Proofs.YtkolgglllladfaaGreatDoor.Pl.fl_miss s hm, List.drop_length]
    unfold nx
    rw [if_neg (by rintro (e | e); exact hm e; exact h e)]
    rfl
  · unfold lns
    rw [fin_app, Go.Proofs.YtkolgglllladfaaGreatDoor.Pl.cut_first p _ hp, Go.Proofs.YtkolgglllladfaaGreatDoor.Pl.fl_hit p q hp]
    unfold nx
    rw [if_pos (.inl (by simp)), Go.Proofs.YtkolgglllladfaaGreatDoor.Pl.fl_hit p q hp]
    have e1 : (p ++ 10 :: q).take (p.length + 1) = p ++ [10] := by
      rw [List.take_append, List.take_of_length_le (by omega), show p.length + 1 - p.length = 1 by omega]
      rfl
    have e2 : (p ++ 10 :: q).drop (p.length + 1) = q := by
      rw [List.drop_append, List.drop_of_length_le (by omega), show p.length + 1 - p.length = 1 by omega]
      rfl
    rw [e1, e2]
theorem lns_empty {s : Bs} : lns s = [] ↔ s = [] := by
  constructor
  · intro h
    by_cases e : s = []
    · exact e
    · rw [lns_cons e] at h; cases h
  · rintro rfl; rfl
/-- what is passed -/
theorem nx_len (s : Bs) : min (nx s).length s.length = Go.Proofs.YtkolgglllladfaaGreatDoor.Pl.fl s := by
  unfold nx
  split
  · rw [List.length_take]
    have := Go.Proofs.YtkolgglllladfaaGreatDoor.Pl.fl_le s
    omega
  · rename_i h
    rw [List.length_append, Go.Proofs.YtkolgglllladfaaGreatDoor.Pl.fl_miss s (fun e => h (.inl e))]
    simp
theorem nx_head (s : Bs) : nx s = (lns s).headD [] := by
  by_cases e : s = []
  · subst e; rfl
  · rw [lns_cons e]; rfl
/-! ### rows -/
/-- a line without its end -/
def bare (x : Bs) : Bs := if Go.Proofs.YtkolgglllladfaaGreatDoor.Pl.wh x = true then x.dropLast else x
/-- a line that takes an end -/
def isEnd (x : Bs) : Bool := x.head? == some 92
/-- which row a line is, and how long its mark is -/
def mark (x : Bs) : Option (Int × Nat) := if x = [10] then some (1, 0) else match x.head? with
  | none => none
  | some c => if c = 32 then some (1, 1) else if c = 45 then some (2, 1) else if c = 43 then some (3, 1) else none
/-- how many are still wanted behind a row -/
def less (k : Int) (n m : Nat) : Option (Nat × Nat) :=
  if k = 1 then (if 0 < n ∧ 0 < m then some (n - 1, m - 1) else none) else if k = 2 then (if 0 < n then some (n - 1, m) else none) else if 0 < m then some (n, m - 1) else none
inductive Rd where
  | bad (c : Nat)
  | ok (rows : List (Int × Bs)) (ls : List Bs) (c : Nat)
def Rd.cons (r : Int × Bs) : Rd → Rd
  | .bad c => .bad c
  | .ok rows ls c => .ok (r :: rows) ls c
/-- as the program reads -/
def rowsP : List Bs → Nat → Nat → Nat → Rd
  | [], n, m, c => if n = 0 ∧ m = 0 then .ok [] [] c else .bad c
  | [x], n, m, c => if n = 0 ∧ m = 0 then (if isEnd x then .bad c else .ok [] [x] c) else match mark x with
    | none => .bad c
    | some (k, j) => match less k n m with
      | none => .bad c
      | some (n', m') => if n' = 0 ∧ m' = 0 then .ok [(k, x.drop j)] [] (c + 1) else .bad (c + 1)
  | x :: y :: ls, n, m, c => if n = 0 ∧ m = 0 then (if isEnd x then .bad c else .ok [] (x :: y :: ls) c) else match mark x with
    | none => .bad c
    | some (k, j) => match less k n m with
      | none => .bad c
      | some (n', m') => if isEnd y then (rowsP ls n' m' (c + 2)).cons (k, bare (x.drop j)) else (rowsP (y :: ls) n' m' (c + 1)).cons (k, x.drop j)
def bareLast (acc : List (Int × Bs)) : List (Int × Bs) := match acc.getLast? with
  | none => acc
  | some r => acc.dropLast ++ [(r.1, bare r.2)]
/-- as the document reads -/
def rowsD : List Bs → Nat → Nat → Bool → List (Int × Bs) → Nat → Rd
  | [], n, m, _, acc, c => if n = 0 ∧ m = 0 then .ok acc [] c else .bad c
  | x :: ls, n, m, mk, acc, c => if isEnd x then (if mk then rowsD ls n m false (bareLast acc) (c + 1) else .bad c) else if n = 0 ∧ m = 0 then .ok acc (x :: ls) c else match mark x with
    | none => .bad c
    | some (k, j) => match less k n m with
      | none => .bad c
      | some (n', m') => rowsD ls n' m' true (acc ++ [(k, x.drop j)]) (c + 1)
def Rd.behind (acc : List (Int × Bs)) : Rd → Rd
  | .bad c => .bad c
  | .ok rows ls c => .ok (acc ++ rows) ls c
theorem behind_cons (acc : List (Int × Bs)) (r : Int × Bs) (d : Rd) : (d.cons r).behind acc = d.behind (acc ++ [r]) := by
  cases d with
  | bad c => rfl
  | ok rows ls c => simp [Rd.cons, Rd.behind]
theorem mark_end {x : Bs} (h : isEnd x = true) : mark x = none := by
  unfold isEnd at h
  rw [beq_iff_eq] at h
  unfold mark
  rw [if_neg (by rintro rfl; simp at h), h]
  rfl
theorem rowsD_marked {ls : List Bs} {n m c : Nat} {acc : List (Int × Bs)} {r : Int × Bs} : rowsD ls n m true (acc ++ [r]) c = match ls with
    | [] => rowsD [] n m false (acc ++ [r]) c
    | y :: ls' => if isEnd y then rowsD ls' n m false (acc ++ [(r.1, bare r.2)]) (c + 1) else rowsD (y :: ls') n m false (acc ++ [r]) c := by
  cases ls with
  | nil => rfl
  | cons y ls' =>
    simp only
    by_cases hy : isEnd y = true
    · rw [if_pos hy, rowsD, if_pos hy, if_pos rfl]
      unfold bareLast
      simp
    · rw [if_neg hy, rowsD, if_neg hy, rowsD, if_neg hy]
/-- the same -/
theorem rows_eq : ∀ (ls : List Bs) (n m c : Nat) (acc : List (Int × Bs)), rowsD ls n m false acc c = (rowsP ls n m c).behind acc
  | [], n, m, c, acc => by
    rw [rowsD, rowsP]
    split
    · simp [Rd.behind]
    · rfl
  | [x], n, m, c, acc => by
    rw [rowsD, rowsP]
    by_cases hx : isEnd x = true
    · rw [if_pos hx, mark_end hx]
      simp only [Bool.false_eq_true, if_false, hx, if_true]
      split <;> rfl
    · rw [if_neg hx]
      simp only [hx]
      split
      · simp [Rd.behind]
      · cases hm : mark x with
        | none => rfl
        | some kj =>
          obtain ⟨k, j⟩ := kj
          simp only
          cases hl : less k n m with
          | none => rfl
          | some p =>
            obtain ⟨n', m'⟩ := p
            simp only
            rw [rowsD]
            split <;> simp [Rd.behind]
  | x :: y :: ls, n, m, c, acc => by
    rw [rowsD, rowsP]
    by_cases hx : isEnd x = true
    · rw [if_pos hx, mark_end hx]
      simp only [Bool.false_eq_true, if_false, hx, if_true]
      split <;> rfl
    · rw [if_neg hx]
      simp only [hx]
      split
      · simp [Rd.behind]
      · cases hm : mark x with
        | none => rfl
        | some kj =>
          obtain ⟨k, j⟩ := kj
          simp only
          cases hl : less k n m with
          | none => rfl
          | some p =>
            obtain ⟨n', m'⟩ := p
            simp only
            rw [rowsD_marked]
            simp only
            by_cases hy : isEnd y = true
            · rw [if_pos hy, if_pos hy, behind_cons, rows_eq ls]
            · rw [if_neg hy, if_neg hy, behind_cons, rows_eq (y :: ls)]
end Go.Proofs.YtkolgglllladfaaGreatDoor.Un
