/-
  Several texts in one: XPl, XPlMore, J0, E0, J1, Jc, Kn, E1, E2.
-/
import Derived.Lib.Bytealg
import Derived.Lib.LastIndexByte
/-
  Plain laws on lists of bytes and on their lines: no program, no world.
-/
namespace Go.Proofs.YtkolgglllladfaaGreatDoor.Pl
open Go

/-- the lines of a text, each with its end -/
def cut : List UInt8 → List (List UInt8)
  | [] => []
  | c :: r => if c = 10 then [10] :: cut r else
    match cut r with
    | [] => [[c]]
    | x :: xs => (c :: x) :: xs

theorem cut_nil : cut [] = [] := rfl
theorem cut_end (r : List UInt8) : cut (10 :: r) = [10] :: cut r := by simp [cut]

theorem cut_first (p q : List UInt8) (h : (10 : UInt8) ∉ p) : cut (p ++ 10 :: q) = (p ++ [10]) :: cut q := by
  induction p with
  | nil => simp [cut]
  | cons c p ih =>
    have hc : c ≠ 10 := fun e => h (by simp [e])
    have hp : (10 : UInt8) ∉ p := fun e => h (List.mem_cons_of_mem _ e)
    simp only [List.cons_append, cut, if_neg hc, ih hp]

theorem cut_last (p : List UInt8) (h : (10 : UInt8) ∉ p) (hne : p ≠ []) : cut p = [p] := by
  induction p with
  | nil => exact absurd rfl hne
  | cons c p ih =>
    have hc : c ≠ 10 := fun e => h (by simp [e])
    have hp : (10 : UInt8) ∉ p := fun e => h (List.mem_cons_of_mem _ e)
    cases p with
    | nil => simp [cut, hc]
    | cons d p => rw [cut, if_neg hc, ih hp (by simp)]

theorem cut_flatten (l : List UInt8) : (cut l).flatten = l := by
  induction l with
  | nil => rfl
  | cons c r ih =>
    by_cases hc : c = 10
    · subst hc; rw [cut_end]; simp [ih]
    · rw [cut, if_neg hc]
      split <;> rename_i h <;> rw [h] at ih <;> simp at ih ⊢ <;> simp [ih]

/-- whether the last byte is a byte 10 -/
def wh (l : List UInt8) : Bool := l.getLast? == some 10

/-- how long the first line is -/
def fl (l : List UInt8) : Nat := if Lib.indexByte l 10 < 0 then l.length else (Lib.indexByte l 10).toNat + 1

theorem index_miss (l : List UInt8) (c : UInt8) (h : c ∉ l) : Lib.indexByte l c = -1 := by
  induction l with
  | nil => rfl
  | cons b l ih =>
    have hb : ¬ (b == c) = true := fun e => h (by simp [eq_of_beq e])
    have hl : c ∉ l := fun e => h (List.mem_cons_of_mem _ e)
    unfold Lib.indexByte
    rw [if_neg hb, ih hl]
    rfl

theorem index_hit (p q : List UInt8) (c : UInt8) (h : c ∉ p) : Lib.indexByte (p ++ c :: q) c = p.length := by
  induction p with
  | nil => simp [Lib.indexByte]
  | cons b p ih =>
    have hb : ¬ (b == c) = true := fun e => h (by simp [eq_of_beq e])
    have hp : c ∉ p := fun e => h (List.mem_cons_of_mem _ e)
    rw [List.cons_append]
    unfold Lib.indexByte
    rw [if_neg hb, ih hp, if_neg (by simp)]
    simp

/-- a text parts at its first byte c, or has none -/
theorem parts (l : List UInt8) (c : UInt8) : (c ∉ l) ∨ ∃ p q, l = p ++ c :: q ∧ c ∉ p := by
  induction l with
  | nil => exact .inl (by simp)
  | cons b l ih =>
    by_cases hb : b = c
    · exact .inr ⟨[], l, by simp [hb], by simp⟩
    · rcases ih with h | ⟨p, q, rfl, hp⟩
      · exact .inl (by simp [h]; exact fun e => hb e.symm)
      · exact .inr ⟨b :: p, q, by simp, by simp [hp]; exact fun e => hb e.symm⟩

theorem fl_miss (l : List UInt8) (h : (10 : UInt8) ∉ l) : fl l = l.length := by
  unfold fl; rw [index_miss l 10 h]; simp

theorem fl_hit (p q : List UInt8) (h : (10 : UInt8) ∉ p) : fl (p ++ 10 :: q) = p.length + 1 := by
  unfold fl; rw [index_hit p q 10 h, if_neg (by omega)]; simp

theorem fl_le (l : List UInt8) : fl l ≤ l.length := by
  rcases parts l 10 with h | ⟨p, q, rfl, hp⟩
  · rw [fl_miss l h]; exact Nat.le_refl _
  · rw [fl_hit p q hp]; simp

theorem fl_pos (l : List UInt8) (h : l ≠ []) : 0 < fl l := by
  rcases parts l 10 with h1 | ⟨p, q, rfl, hp⟩
  · rw [fl_miss l h1]; exact List.length_pos_iff.2 h
  · rw [fl_hit p q hp]; omega

theorem cut_fl (l : List UInt8) (h : l ≠ []) : cut l = l.take (fl l) :: cut (l.drop (fl l)) := by
  rcases parts l 10 with h1 | ⟨p, q, rfl, hp⟩
  · rw [fl_miss l h1, List.take_length, List.drop_length, cut_last l h1 h]; rfl
  · rw [cut_first p q hp, fl_hit p q hp]
    have e : p ++ 10 :: q = (p ++ [10]) ++ q := by simp
    have el : p.length + 1 = (p ++ [10]).length := by simp
    rw [e, el, List.take_left, List.drop_left]

theorem wh_snoc (p : List UInt8) (c : UInt8) : wh (p ++ [c]) = (c == 10) := by simp [wh]
theorem wh_nil : wh [] = false := rfl
theorem wh_cons (c : UInt8) (l : List UInt8) (h : l ≠ []) : wh (c :: l) = wh l := by
  cases l with
  | nil => exact absurd rfl h
  | cons d l => simp [wh]
theorem wh_append (p q : List UInt8) (h : q ≠ []) : wh (p ++ q) = wh q := by
  induction p with
  | nil => rfl
  | cons c p ih => rw [List.cons_append, wh_cons _ _ (by simp [h]), ih]

/-- how many lines -/
def num (l : List UInt8) : Nat := Lib.countByte l 10 + if l ≠ [] ∧ wh l = false then 1 else 0

theorem num_eq (l : List UInt8) : num l = (cut l).length := by
  induction l with
  | nil => simp [num, Lib.countByte, cut]
  | cons c r ih =>
    by_cases hc : c = 10
    · subst hc
      rw [cut_end, List.length_cons, ← ih]
      cases r with
      | nil => simp [num, Lib.countByte, wh]
      | cons d r =>
        have e : wh (10 :: d :: r) = wh (d :: r) := wh_cons _ _ (by simp)
        simp only [num, Lib.countByte, e, List.count_cons_self]
        simp
        omega
    · rw [cut, if_neg hc]
      cases r with
      | nil => simp [num, Lib.countByte, wh, cut, hc]
      | cons d r =>
        have e : wh (c :: d :: r) = wh (d :: r) := wh_cons _ _ (by simp)
        have hn : num (c :: d :: r) = num (d :: r) := by
          simp only [num, Lib.countByte, e]
          rw [List.count_cons_of_ne hc]
          simp
        rw [hn, ih]
        split
        · rename_i h
          have := congrArg List.flatten h
          rw [cut_flatten] at this
          simp at this
        · rename_i h; rw [h]; simp

theorem num_le (l : List UInt8) : num l ≤ l.length := by
  rw [num_eq]
  have h : ∀ l : List UInt8, (cut l).length ≤ l.length := by
    intro l
    induction l with
    | nil => simp [cut]
    | cons c r ih =>
      by_cases hc : c = 10
      · subst hc; rw [cut_end]; simp; exact ih
      · rw [cut, if_neg hc]
        split <;> rename_i h <;> rw [h] at ih <;> simp at ih ⊢
        omega
  exact h l

/-- whether a string may be a text's line; the last one may go without its end -/
def ok1 (x : List UInt8) : Bool := !x.isEmpty && decide (fl x = x.length)

/-- whether strings are the lines of a text -/
def valid : List (List UInt8) → Bool
  | [] => true
  | [x] => ok1 x
  | x :: y :: r => ok1 x && wh x && valid (y :: r)

theorem valid_bad1 (x : List UInt8) (r : List (List UInt8)) (h : ok1 x = false) : valid (x :: r) = false := by
  cases r with
  | nil => exact h
  | cons y r => simp [valid, h]
theorem valid_bad2 (x : List UInt8) (r : List (List UInt8)) (hr : r ≠ []) (h : wh x = false) : valid (x :: r) = false := by
  cases r with
  | nil => exact absurd rfl hr
  | cons y r => simp [valid, h]
theorem valid_good (x : List UInt8) (r : List (List UInt8)) (h : ok1 x = true) (hw : r = [] ∨ wh x = true) : valid (x :: r) = valid r := by
  cases r with
  | nil => simp [valid, h]
  | cons y r =>
    rcases hw with hw | hw
    · cases hw
    · simp [valid, h, hw]

theorem cut_ne (l : List UInt8) : ∀ x ∈ cut l, x ≠ [] := by
  induction l with
  | nil => simp [cut]
  | cons c r ih =>
    by_cases hc : c = 10
    · subst hc; rw [cut_end]; simp; exact ih
    · rw [cut, if_neg hc]
      split <;> rename_i h <;> rw [h] at ih <;> simp at ih ⊢
      exact ih.2

end Go.Proofs.YtkolgglllladfaaGreatDoor.Pl
/-
  More plain laws on lines.
-/
namespace Go.Proofs.YtkolgglllladfaaGreatDoor.Pl
open Go

theorem fl_full (x : List UInt8) (h : (10 : UInt8) ∉ x.take (x.length - 1)) : fl x = x.length := by
  rcases parts x 10 with h1 | ⟨p, q, rfl, hp⟩
  · exact fl_miss x h1
  · cases q with
    | nil => rw [fl_hit p [] hp]; simp
    | cons d q =>
      refine absurd ?_ h
      have e : (p ++ 10 :: d :: q).take ((p ++ 10 :: d :: q).length - 1) = p ++ 10 :: (d :: q).take ((d :: q).length - 1) := by
        have : (p ++ 10 :: d :: q).length - 1 = p.length + ((d :: q).length - 1 + 1) := by simp
        rw [this, List.take_length_add_append]
        simp
      rw [e]
      simp
theorem fl_part (x : List UInt8) (j : Nat) (hj : x[j]? = some 10) (hl : j + 1 < x.length) : fl x ≠ x.length := by
  rcases parts x 10 with h1 | ⟨p, q, rfl, hp⟩
  · exact absurd (List.mem_of_getElem? hj) h1
  · rw [fl_hit p q hp]
    have : p.length ≤ j := by
      rcases Nat.lt_or_ge j p.length with h | h
      · rw [List.getElem?_append_left h] at hj
        exact absurd (List.mem_of_getElem? hj) hp
      · exact h
    omega

end Go.Proofs.YtkolgglllladfaaGreatDoor.Pl
/-
  Hunks, plain: rows, sides, which hunks may be, which may stand one behind the other. No program, no world.
-/
namespace Go.Proofs.YtkolgglllladfaaGreatDoor.Hu
open Go

structure Rw where
  k : Int
  t : ByteArray
structure Hk where
  a : Int
  n : Int
  b : Int
  m : Int
  head : ByteArray
  rows : List Rw

/-- of the old side, of the new one, of one alone -/
def isO (r : Rw) : Bool := r.k == 1 || r.k == 2
def isF (r : Rw) : Bool := r.k == 1 || r.k == 3
def isC (r : Rw) : Bool := r.k == 2 || r.k == 3
def olds (l : List Rw) : List ByteArray := (l.filter isO).map Rw.t
def fres (l : List Rw) : List ByteArray := (l.filter isF).map Rw.t
def whT (x : ByteArray) : Bool := Pl.wh x.data.toList
def okT (x : ByteArray) : Bool := Pl.ok1 x.data.toList
def valS (xs : List ByteArray) : Bool := Pl.valid (xs.map (·.data.toList))
theorem olds_cons (r : Rw) (l : List Rw) : olds (r :: l) = if isO r then r.t :: olds l else olds l := by
  unfold olds
  rw [List.filter_cons]
  split <;> rfl
theorem fres_cons (r : Rw) (l : List Rw) : fres (r :: l) = if isF r then r.t :: fres l else fres l := by
  unfold fres
  rw [List.filter_cons]
  split <;> rfl
theorem olds_app (l m : List Rw) : olds (l ++ m) = olds l ++ olds m := by unfold olds; rw [List.filter_append, List.map_append]
theorem fres_app (l m : List Rw) : fres (l ++ m) = fres l ++ fres m := by unfold fres; rw [List.filter_append, List.map_append]
theorem olds_len (l : List Rw) : (olds l).length ≤ l.length := by unfold olds; rw [List.length_map]; exact List.length_filter_le _ _
theorem fres_len (l : List Rw) : (fres l).length ≤ l.length := by unfold fres; rw [List.length_map]; exact List.length_filter_le _ _
theorem valS_nil : valS [] = true := rfl
theorem valS_cons (x : ByteArray) (r : List ByteArray) : valS (x :: r) = (okT x && (r.isEmpty || whT x) && valS r) := by
  unfold valS okT whT
  rw [List.map_cons]
  cases h1 : Pl.ok1 x.data.toList with
  | false => rw [Pl.valid_bad1 _ _ h1]; simp
  | true =>
    cases h2 : Pl.wh x.data.toList with
    | true => rw [Pl.valid_good _ _ h1 (.inr h2)]; simp
    | false =>
      cases r with
      | nil => rw [Pl.valid_good _ (List.map (fun x : ByteArray => x.data.toList) []) h1 (.inl rfl)]; simp
      | cons y r => rw [Pl.valid_bad2 _ _ (by simp) h2]; simp
/-- lines of a text behind a line that is whole or not -/
def valE (e : Bool) (xs : List ByteArray) : Bool := (!e || xs.isEmpty) && valS xs
theorem valE_false (xs : List ByteArray) : valE false xs = valS xs := by simp [valE]
theorem valE_cons (e : Bool) (x : ByteArray) (r : List ByteArray) : valE e (x :: r) = (!e && okT x && valE (!whT x) r) := by
  unfold valE
  rw [valS_cons]
  cases e <;> cases okT x <;> cases whT x <;> cases r.isEmpty <;> simp

/-! ### which may be -/
def areR (l : List Rw) : Bool := l.all (fun r => r.k == 1 || isC r) && l.any isC
def side (at' n : Int) (s : List ByteArray) : Bool := n == (s.length : Int) && (decide (min n 1 ≤ at') && (decide (at' ≤ 2147483647 - n) && valS s))
def headOk (h : ByteArray) : Bool := decide (h.size ≤ 4096) && !h.data.toList.contains 10
def vld (h : Hk) : Bool := areR h.rows && (side h.a h.n (olds h.rows) && (side h.b h.m (fres h.rows) && headOk h.head))
/-- as the document goes through the rows -/
def rowsD : List Rw → Bool → Bool → Bool → Bool
  | [], _, _, ch => ch
  | r :: l, en, ov, ch => if (!isO r && !isF r) || !okT r.t || (isO r && en) || (isF r && ov) then false else rowsD l (en || (!whT r.t && isO r)) (ov || (!whT r.t && isF r)) (ch || !(r.k == 1))
theorem kinds (r : Rw) : (isO r = true ∧ isF r = true ∧ isC r = false ∧ (r.k == 1) = true) ∨ (isO r = true ∧ isF r = false ∧ isC r = true ∧ (r.k == 1) = false) ∨ (isO r = false ∧ isF r = true ∧ isC r = true ∧ (r.k == 1) = false) ∨ (isO r = false ∧ isF r = false ∧ isC r = false ∧ (r.k == 1) = false) := by
  unfold isO isF isC
  by_cases h1 : r.k = 1
  · rw [h1]; simp
  · by_cases h2 : r.k = 2
    · rw [h2]; simp
    · by_cases h3 : r.k = 3
      · rw [h3]; simp
      · simp [h1, h2, h3]
theorem rowsD_eq (l : List Rw) : ∀ en ov ch, rowsD l en ov ch = (l.all (fun r => r.k == 1 || isC r) && (valE en (olds l) && (valE ov (fres l) && (ch || l.any isC)))) := by
  induction l with
  | nil => intro en ov ch; simp [rowsD, olds, fres, valE, valS_nil]
  | cons r l ih =>
    intro en ov ch
    rw [rowsD, ih, olds_cons, fres_cons, List.all_cons, List.any_cons]
    rcases kinds r with ⟨h1, h2, h3, h4⟩ | ⟨h1, h2, h3, h4⟩ | ⟨h1, h2, h3, h4⟩ | ⟨h1, h2, h3, h4⟩ <;> rw [h1, h2, h3, h4] <;> simp only [Bool.not_true, Bool.not_false, Bool.and_true, Bool.and_false, Bool.true_and, Bool.false_and, Bool.or_false, Bool.false_or, Bool.true_or, Bool.or_true, if_true, Bool.false_eq_true, if_false]
    · rw [valE_cons, valE_cons]
      cases en <;> cases ov <;> cases okT r.t <;> simp
    · rw [valE_cons]
      cases en <;> cases okT r.t <;> simp
    · rw [valE_cons]
      cases ov <;> cases okT r.t <;> simp
theorem and4 (a b c d : Bool) : (a && (b && (c && d))) = (a && d && b && c) := by cases a <;> cases b <;> cases c <;> cases d <;> rfl
def startD (a n : Int) : Bool := decide ((if n = 0 then 0 else 1) ≤ a) && decide (a ≤ 2147483647 - n)
def vldD (h : Hk) : Bool := rowsD h.rows false false false && (h.n == ((olds h.rows).length : Int) && (h.m == ((fres h.rows).length : Int) && (startD h.a (olds h.rows).length && (startD h.b (fres h.rows).length && headOk h.head))))
theorem vld_eq (h : Hk) : vldD h = vld h := by
  unfold vldD vld areR side startD
  rw [rowsD_eq, valE_false, valE_false]
  by_cases h1 : h.n = ((olds h.rows).length : Int)
  · by_cases h2 : h.m = ((fres h.rows).length : Int)
    · rw [h1, h2]
      have e1 : ∀ k : Nat, (if (k : Int) = 0 then (0 : Int) else 1) = min (k : Int) 1 := fun k => by split <;> omega
      rw [e1, e1]
      simp only [beq_self_eq_true, Bool.true_and, Bool.false_or]
      generalize l1 : List.all h.rows (fun r => r.k == 1 || isC r) = b1
      generalize l2 : List.any h.rows isC = b2
      generalize valS (olds h.rows) = b3
      generalize valS (fres h.rows) = b4
      generalize headOk h.head = b5
      cases b1 <;> cases b2 <;> cases b3 <;> cases b4 <;> cases b5 <;> simp
    · have e : (h.m == ((fres h.rows).length : Int)) = false := by rw [beq_eq_false_iff_ne]; exact h2
      rw [e]; simp
  · have e : (h.n == ((olds h.rows).length : Int)) = false := by rw [beq_eq_false_iff_ne]; exact h1
    rw [e]; simp
theorem vld_parts {h : Hk} (hv : vld h = true) : areR h.rows = true ∧ h.n = (olds h.rows).length ∧ min h.n 1 ≤ h.a ∧ h.a ≤ 2147483647 - h.n ∧ valS (olds h.rows) = true ∧ h.m = (fres h.rows).length ∧ min h.m 1 ≤ h.b ∧ h.b ≤ 2147483647 - h.m ∧ valS (fres h.rows) = true ∧ headOk h.head = true := by
  unfold vld side at hv
  simp only [Bool.and_eq_true, beq_iff_eq, decide_eq_true_eq] at hv
  obtain ⟨h1, ⟨h2, h3, h4, h5⟩, ⟨h6, h7, h8, h9⟩, h10⟩ := hv
  exact ⟨h1, h2, h3, h4, h5, h6, h7, h8, h9, h10⟩

/-! ### one behind the other -/
def plc (a n : Int) : Int := if 0 < n then a - 1 else a
/-- the last line is not whole -/
def lack (s : List ByteArray) : Bool := match s.getLast? with
  | none => false
  | some x => !whT x
theorem lack_any : ∀ {s : List ByteArray}, valS s = true → s.any (fun x => !whT x) = lack s
  | [], _ => rfl
  | [x], _ => by simp [lack]
  | x :: y :: r, h => by
    rw [valS_cons] at h
    simp only [Bool.and_eq_true, List.isEmpty_cons, Bool.false_or] at h
    have := lack_any (s := y :: r) h.2
    rw [List.any_cons, this, h.1.2]
    unfold lack
    rw [List.getLast?_cons_cons]
    simp
def ordP : List Hk → Int → Int → Bool → Bool → Bool
  | [], _, _, _, _ => true
  | h :: l, x, y, en, ov => if plc h.a h.n < x ∨ plc h.a h.n - x ≠ plc h.b h.m - y ∨ (en = true ∧ 0 < h.n) ∨ (ov = true ∧ 0 < h.m) then false else ordP l (plc h.a h.n + h.n) (plc h.b h.m + h.m) (en || lack (olds h.rows)) (ov || lack (fres h.rows))
def part (o : Rw → Bool) (l : List Rw) : Bool := l.any fun r => !whT r.t && o r
theorem part_olds (l : List Rw) : part isO l = (olds l).any fun x => !whT x := by
  induction l with
  | nil => rfl
  | cons r l ih =>
    unfold part at ih ⊢
    rw [List.any_cons, ih, olds_cons]
    cases isO r <;> simp
theorem part_fres (l : List Rw) : part isF l = (fres l).any fun x => !whT x := by
  induction l with
  | nil => rfl
  | cons r l ih =>
    unfold part at ih ⊢
    rw [List.any_cons, ih, fres_cons]
    cases isF r <;> simp
def orderN (l : List Hk) : Nat := if l.all vld then (if ordP l 0 0 false false then 0 else 112) else 100
end Go.Proofs.YtkolgglllladfaaGreatDoor.Hu
/-
  Plain laws on edit scripts, the runs and the pairs of lines that stay: no program, no world.
-/
namespace Go.Proofs.YtkolgglllladfaaGreatDoor.Ed

structure Ch where
  a : Int
  n : Int
  b : Int
  m : Int
theorem Ch.ext' {x y : Ch} (h1 : x.a = y.a) (h2 : x.n = y.n) (h3 : x.b = y.b) (h4 : x.m = y.m) : x = y := by
  cases x; cases y; simp_all
instance : DecidableEq Ch := fun x y => decidable_of_iff (x.a = y.a ∧ x.n = y.n ∧ x.b = y.b ∧ x.m = y.m) ⟨fun h => Ch.ext' h.1 h.2.1 h.2.2.1 h.2.2.2, fun h => by subst h; exact ⟨rfl, rfl, rfl, rfl⟩⟩
abbrev Run := Int × Int × Int
abbrev Pr := Int × Int

/-! ### which changes are a script -/
def cnt (n : Int) : Bool := decide (0 ≤ n) && decide (n ≤ 4194304)
theorem cnt_iff {n : Int} : cnt n = true ↔ 0 ≤ n ∧ n ≤ 4194304 := by simp [cnt]
def within (x k done all : Int) : Bool := decide (done ≤ x) && decide (0 ≤ k) && decide (k ≤ all - x)
theorem within_iff {x k done all : Int} : within x k done all = true ↔ done ≤ x ∧ 0 ≤ k ∧ k ≤ all - x := by simp [within, and_assoc]
def okC (a b n m : Int) (c : Ch) : Prop := (a ≤ c.a ∧ 0 ≤ c.n ∧ c.n ≤ n - c.a) ∧ (b ≤ c.b ∧ 0 ≤ c.m ∧ c.m ≤ m - c.b) ∧ ¬(c.n = 0 ∧ c.m = 0) ∧ c.a - a = c.b - b
instance (a b n m : Int) (c : Ch) : Decidable (okC a b n m c) := inferInstanceAs (Decidable (_ ∧ _))
def val : List Ch → Int → Int → Int → Int → Bool
  | [], a, b, n, m => decide (n - a = m - b)
  | c :: r, a, b, n, m => decide (okC a b n m c) && val r (c.a + c.n) (c.b + c.m) n m
theorem val_cons {c : Ch} {r : List Ch} {a b n m : Int} : val (c :: r) a b n m = true ↔ okC a b n m c ∧ val r (c.a + c.n) (c.b + c.m) n m = true := by simp [val]
/-- the error's number -/
def validN (s : List Ch) (n m : Int) : Nat := if cnt n && cnt m then (if val s 0 0 n m then 0 else 60) else 1
def Val (s : List Ch) (n m : Int) : Prop := cnt n = true ∧ cnt m = true ∧ val s 0 0 n m = true
theorem validN_zero {s : List Ch} {n m : Int} : validN s n m = 0 ↔ Val s n m := by
  unfold validN Val
  cases cnt n <;> cases cnt m <;> cases val s 0 0 n m <;> simp

/-! ### runs of lines that stay -/
def run1 (a b k : Int) : List Run := if 0 < k then [(a, b, k)] else []
def runs : List Ch → Int → Int → Int → List Run
  | [], n, a, b => run1 a b (n - a)
  | c :: r, n, a, b => run1 a b (c.a - a) ++ runs r n (c.a + c.n) (c.b + c.m)
def exN (x y : Int) : Nat → List Pr
  | 0 => []
  | k + 1 => (x, y) :: exN (x + 1) (y + 1) k
def ex (r : Run) : List Pr := exN r.1 r.2.1 r.2.2.toNat
def exs (rs : List Run) : List Pr := rs.flatMap ex
def prs (s : List Ch) (n a b : Int) : List Pr := exs (runs s n a b)
theorem exs_append (x y : List Run) : exs (x ++ y) = exs x ++ exs y := List.flatMap_append
theorem exs_run1 (a b k : Int) : exs (run1 a b k) = exN a b k.toNat := by
  unfold run1
  split
  · simp [exs, ex]
  · rw [show k.toNat = 0 by omega]; rfl
theorem prs_nil (n a b : Int) : prs [] n a b = exN a b (n - a).toNat := exs_run1 _ _ _
theorem prs_cons (c : Ch) (r : List Ch) (n a b : Int) : prs (c :: r) n a b = exN a b (c.a - a).toNat ++ prs r n (c.a + c.n) (c.b + c.m) := by
  unfold prs
  rw [runs, exs_append, exs_run1]
theorem exN_add (x y : Int) (j k : Nat) : exN x y (j + k) = exN x y j ++ exN (x + j) (y + j) k := by
  induction j generalizing x y with
  | zero => simp [exN]
  | succ j ih =>
    rw [show j + 1 + k = (j + k) + 1 by omega, exN, exN, ih, List.cons_append]
    congr 2
    congr 1 <;> push_cast <;> omega
theorem exN_length (x y : Int) (k : Nat) : (exN x y k).length = k := by
  induction k generalizing x y with
  | zero => rfl
  | succ k ih => rw [exN, List.length_cons, ih]
theorem exN_get (x y : Int) (k i : Nat) (h : i < k) : (exN x y k)[i]? = some (x + i, y + i) := by
  induction k generalizing x y i with
  | zero => omega
  | succ k ih =>
    rw [exN]
    cases i with
    | zero => simp
    | succ i =>
      rw [List.getElem?_cons_succ, ih _ _ _ (by omega)]
      congr 2 <;> push_cast <;> omega
theorem mem_exN {x y : Int} {k : Nat} {p : Pr} : p ∈ exN x y k ↔ x ≤ p.1 ∧ p.1 < x + k ∧ p.2 - y = p.1 - x := by
  induction k generalizing x y with
  | zero => simp [exN]; omega
  | succ k ih =>
    rw [exN, List.mem_cons, ih]
    obtain ⟨p1, p2⟩ := p
    simp only [Prod.mk.injEq]
    push_cast
    omega

/-! ### the script that lets pairs stay -/
def gap (a b x y : Int) : List Ch := if a < x ∨ b < y then [⟨a, x - a, b, y - b⟩] else []
theorem gap_same (a b : Int) : gap a b a b = [] := by unfold gap; rw [if_neg (by omega)]
def ofL : List Pr → Int → Int → Int → Int → List Ch
  | [], a, b, n, m => gap a b n m
  | p :: r, a, b, n, m => gap a b p.1 p.2 ++ ofL r (p.1 + 1) (p.2 + 1) n m
def ofR : List Run → Int → Int → Int → Int → List Ch
  | [], a, b, n, m => gap a b n m
  | r :: rs, a, b, n, m => gap a b r.1 r.2.1 ++ ofR rs (r.1 + r.2.2) (r.2.1 + r.2.2) n m
def rise : List Pr → Int → Int → Int → Int → Bool
  | [], _, _, _, _ => true
  | p :: r, a, b, n, m => decide ((a ≤ p.1 ∧ p.1 < n) ∧ b ≤ p.2 ∧ p.2 < m) && rise r (p.1 + 1) (p.2 + 1) n m
theorem rise_cons {p : Pr} {r : List Pr} {a b n m : Int} : rise (p :: r) a b n m = true ↔ ((a ≤ p.1 ∧ p.1 < n) ∧ b ≤ p.2 ∧ p.2 < m) ∧ rise r (p.1 + 1) (p.2 + 1) n m = true := by simp [rise]
theorem rise_mono {P : List Pr} {a b a' b' n m : Int} (h : rise P a b n m = true) (ha : a' ≤ a) (hb : b' ≤ b) : rise P a' b' n m = true := by
  cases P with
  | nil => rfl
  | cons p r =>
    rw [rise_cons] at h ⊢
    exact ⟨by omega, h.2⟩
theorem rise_exN {x y a b n m : Int} {k : Nat} {P : List Pr} (ha : a ≤ x) (hb : b ≤ y) (hk : k = 0 ∨ (x + k ≤ n ∧ y + k ≤ m)) (h : rise P (x + k) (y + k) n m = true) : rise (exN x y k ++ P) a b n m = true := by
  induction k generalizing x y a b with
  | zero => exact rise_mono h (by simpa using ha) (by simpa using hb)
  | succ k ih =>
    rw [exN, List.cons_append, rise_cons]
    have hk' : x + (k + 1) ≤ n ∧ y + (k + 1) ≤ m := by rcases hk with hk | hk <;> omega
    push_cast at h
    refine ⟨by simp only; omega, ih (by simp) (by simp) (by omega) ?_⟩
    rw [show x + 1 + (k : Int) = x + (k + 1) by omega, show y + 1 + (k : Int) = y + (k + 1) by omega]
    exact h
theorem rise_prs {s : List Ch} {n m a b : Int} (h : val s a b n m = true) (ha : a ≤ n) (hb : b ≤ m) : rise (prs s n a b) a b n m = true := by
  induction s generalizing a b with
  | nil =>
    have h' : n - a = m - b := by simpa [val] using h
    rw [prs_nil]
    have := rise_exN (x := a) (y := b) (a := a) (b := b) (n := n) (m := m) (k := (n - a).toNat) (P := []) (Int.le_refl _) (Int.le_refl _) (by omega) rfl
    simpa using this
  | cons c r ih =>
    obtain ⟨⟨h1, h2, h3, h4⟩, hr⟩ := val_cons.1 h
    rw [prs_cons]
    refine rise_exN (Int.le_refl _) (Int.le_refl _) (by omega) ?_
    exact rise_mono (ih hr (by omega) (by omega)) (by omega) (by omega)

theorem ofL_exN {x y a b n m : Int} {k : Nat} {P : List Pr} (hk : 0 < k) : ofL (exN x y k ++ P) a b n m = gap a b x y ++ ofL P (x + k) (y + k) n m := by
  induction k generalizing x y a b with
  | zero => omega
  | succ k ih =>
    rw [exN, List.cons_append, ofL]
    rcases Nat.eq_zero_or_pos k with rfl | hk'
    · simp [exN]
    · rw [ih hk', gap_same, List.nil_append]
      congr 2 <;> push_cast <;> omega
theorem ofR_ex {rs : List Run} {a b n m : Int} (h : ∀ r ∈ rs, 0 < r.2.2) : ofR rs a b n m = ofL (exs rs) a b n m := by
  induction rs generalizing a b with
  | nil => rfl
  | cons r rs ih =>
    have hr := h r (List.mem_cons_self ..)
    rw [ofR, ih (fun q hq => h q (List.mem_cons_of_mem _ hq))]
    show _ = ofL (ex r ++ exs rs) a b n m
    unfold ex
    rw [ofL_exN (by omega)]
    congr 2 <;> omega
theorem run1_pos {a b k : Int} : ∀ r ∈ run1 a b k, 0 < r.2.2 := by
  unfold run1
  intro r hr
  split at hr
  · simp at hr; subst hr; assumption
  · cases hr
theorem runs_pos : ∀ (s : List Ch) (n a b : Int), ∀ r ∈ runs s n a b, 0 < r.2.2
  | [], _, _, _ => run1_pos
  | c :: s, n, a, b => fun r hr => by
    rw [runs, List.mem_append] at hr
    rcases hr with hr | hr
    · exact run1_pos r hr
    · exact runs_pos s _ _ _ r hr
def normal (s : List Ch) (n m : Int) : List Ch := ofR (runs s n 0 0) 0 0 n m
theorem normal_eq (s : List Ch) (n m : Int) : normal s n m = ofL (prs s n 0 0) 0 0 n m := ofR_ex (runs_pos s n 0 0)

theorem gap_some {a b x y : Int} (ha : a ≤ x) (hb : b ≤ y) : (x = a ∧ y = b ∧ gap a b x y = []) ∨ (¬(x - a = 0 ∧ y - b = 0) ∧ gap a b x y = [⟨a, x - a, b, y - b⟩]) := by
  unfold gap
  by_cases h : a < x ∨ b < y
  · rw [if_pos h]; right; exact ⟨by omega, rfl⟩
  · rw [if_neg h]; left; exact ⟨by omega, by omega, rfl⟩
theorem ofL_val {P : List Pr} {a b a' b' n m : Int} (h : rise P a b n m = true) (ha : a ≤ n) (hb : b ≤ m) (h1 : a' ≤ a) (h2 : a - a' = b - b') :
    val (ofL P a b n m) a' b' n m = true ∧ prs (ofL P a b n m) n a' b' = exN a' b' (a - a').toNat ++ P := by
  induction P generalizing a b a' b' with
  | nil =>
    rw [ofL]
    rcases gap_some ha hb with ⟨rfl, rfl, hg⟩ | ⟨hne, hg⟩
    · rw [hg, prs_nil]
      exact ⟨by simpa [val] using h2, by simp⟩
    · rw [hg, val_cons, prs_cons, prs_nil]
      refine ⟨⟨⟨by simp only; omega, by simp only; omega, hne, by simp only; omega⟩, by simp [val]; omega⟩, ?_⟩
      simp only [List.append_nil]
      rw [show (n - (a + (n - a))).toNat = 0 by omega]
      simp [exN]
  | cons p r ih =>
    obtain ⟨hp, hr⟩ := rise_cons.1 h
    rw [ofL]
    rcases gap_some hp.1.1 hp.2.1 with ⟨e1, e2, hg⟩ | ⟨hne, hg⟩
    · rw [hg, List.nil_append]
      obtain ⟨i1, i2⟩ := ih (a' := a') (b' := b') hr (by omega) (by omega) (by omega) (by omega)
      refine ⟨i1, ?_⟩
      rw [i2, show (p.1 + 1 - a').toNat = (a - a').toNat + 1 by omega, exN_add]
      simp only [exN, List.append_assoc, List.cons_append, List.nil_append]
      congr 2
      obtain ⟨p1, p2⟩ := p
      simp only [Prod.mk.injEq] at e1 e2 ⊢
      omega
    · rw [hg, List.cons_append, List.nil_append, val_cons, prs_cons]
      obtain ⟨i1, i2⟩ := ih (a' := p.1) (b' := p.2) hr (by omega) (by omega) (by omega) (by omega)
      simp only
      rw [show a + (p.1 - a) = p.1 by omega, show b + (p.2 - b) = p.2 by omega]
      refine ⟨⟨⟨by simp only; omega, by simp only; omega, hne, by simp only; omega⟩, i1⟩, ?_⟩
      rw [i2, show (p.1 + 1 - p.1).toNat = 1 by omega]
      rfl
theorem ofL_Val {P : List Pr} {n m : Int} (hn : cnt n = true) (hm : cnt m = true) (h : rise P 0 0 n m = true) : Val (ofL P 0 0 n m) n m ∧ prs (ofL P 0 0 n m) n 0 0 = P := by
  have hn' := cnt_iff.1 hn
  have hm' := cnt_iff.1 hm
  obtain ⟨h1, h2⟩ := ofL_val (a' := 0) (b' := 0) h (by omega) (by omega) (Int.le_refl _) rfl
  exact ⟨⟨hn, hm, h1⟩, by simpa [exN] using h2⟩
theorem Val.rise {s : List Ch} {n m : Int} (h : Val s n m) : rise (prs s n 0 0) 0 0 n m = true := by
  have hn := cnt_iff.1 h.1
  have hm := cnt_iff.1 h.2.1
  exact rise_prs h.2.2 (by omega) (by omega)
theorem normal_Val {s : List Ch} {n m : Int} (h : Val s n m) : Val (normal s n m) n m ∧ prs (normal s n m) n 0 0 = prs s n 0 0 := by
  rw [normal_eq]
  exact ofL_Val h.1 h.2.1 h.rise
theorem normal_twice {s : List Ch} {n m : Int} (h : Val s n m) : normal (normal s n m) n m = normal s n m := by
  rw [normal_eq, (normal_Val h).2, ← normal_eq]

/-- no two touch -/
def apart : List Ch → Prop
  | [] => True
  | c :: r => (∀ d, r.head? = some d → c.a + c.n ≠ d.a) ∧ apart r
theorem ofL_head {P : List Pr} {a b n m : Int} (h : rise P a b n m = true) : ∀ d, (ofL P a b n m).head? = some d → a ≤ d.a := by
  induction P generalizing a b with
  | nil =>
    intro d hd
    rw [ofL] at hd
    unfold gap at hd
    split at hd
    · simp at hd; subst hd; exact Int.le_refl _
    · cases hd
  | cons p r ih =>
    obtain ⟨hp, hr⟩ := rise_cons.1 h
    intro d hd
    rw [ofL] at hd
    unfold gap at hd
    split at hd
    · simp at hd; subst hd; exact Int.le_refl _
    · rw [List.nil_append] at hd
      have := ih hr d hd
      omega
theorem ofL_apart {P : List Pr} {a b n m : Int} (h : rise P a b n m = true) : apart (ofL P a b n m) := by
  induction P generalizing a b with
  | nil =>
    rw [ofL]; unfold gap
    split
    · exact ⟨fun d hd => (by cases hd), trivial⟩
    · trivial
  | cons p r ih =>
    obtain ⟨hp, hr⟩ := rise_cons.1 h
    rw [ofL]; unfold gap
    split
    · refine ⟨fun d hd => ?_, ih hr⟩
      have := ofL_head hr d hd
      simp only
      omega
    · exact ih hr
theorem apart_get {l : List Ch} (h : apart l) : ∀ (k : Nat) c d, l[k]? = some c → l[k + 1]? = some d → c.a + c.n ≠ d.a := by
  induction l with
  | nil => intro k c d h1; simp at h1
  | cons x r ih =>
    intro k c d h1 h2
    cases k with
    | zero =>
      simp at h1 h2
      subst h1
      exact h.1 d (by rw [List.head?_eq_getElem?]; exact h2)
    | succ k =>
      rw [List.getElem?_cons_succ] at h1 h2
      exact ih h.2 k c d h1 h2

/-! ### the other way round -/
def inv (c : Ch) : Ch := ⟨c.b, c.m, c.a, c.n⟩
def sw (p : Pr) : Pr := (p.2, p.1)
theorem inv_inv (c : Ch) : inv (inv c) = c := rfl
theorem map_inv_inv (s : List Ch) : (s.map inv).map inv = s := by
  rw [List.map_map]
  exact (List.map_congr_left (fun c _ => inv_inv c)).trans (List.map_id s)
theorem okC_inv {a b n m : Int} {c : Ch} (h : okC a b n m c) : okC b a m n (inv c) := ⟨h.2.1, h.1, fun e => h.2.2.1 ⟨e.2, e.1⟩, h.2.2.2.symm⟩
theorem val_inv {s : List Ch} {a b n m : Int} (h : val s a b n m = true) : val (s.map inv) b a m n = true := by
  induction s generalizing a b with
  | nil => simp [val] at h ⊢; omega
  | cons c r ih =>
    obtain ⟨h1, h2⟩ := val_cons.1 h
    rw [List.map_cons, val_cons]
    exact ⟨okC_inv h1, ih h2⟩
theorem Val.inv {s : List Ch} {n m : Int} (h : Val s n m) : Val (s.map inv) m n := ⟨h.2.1, h.1, val_inv h.2.2⟩
theorem exN_sw (x y : Int) (k : Nat) : (exN x y k).map sw = exN y x k := by
  induction k generalizing x y with
  | zero => rfl
  | succ k ih => rw [exN, exN, List.map_cons, ih]; rfl
theorem prs_inv {s : List Ch} {a b n m : Int} (h : val s a b n m = true) : prs (s.map inv) m b a = (prs s n a b).map sw := by
  induction s generalizing a b with
  | nil =>
    have h' : n - a = m - b := by simpa [val] using h
    rw [List.map_nil, prs_nil, prs_nil, exN_sw, h']
  | cons c r ih =>
    obtain ⟨h1, h2⟩ := val_cons.1 h
    rw [List.map_cons, prs_cons, prs_cons, List.map_append, exN_sw, ← ih h2]
    have : c.a - a = c.b - b := h1.2.2.2
    show exN b a (c.b - b).toNat ++ _ = _
    rw [this]; rfl
theorem gap_sw (a b x y : Int) : gap b a y x = (gap a b x y).map inv := by
  unfold gap
  by_cases h : a < x ∨ b < y
  · rw [if_pos h, if_pos h.symm]; rfl
  · rw [if_neg h, if_neg (fun k => h k.symm)]; rfl
theorem ofL_sw (P : List Pr) (a b n m : Int) : ofL (P.map sw) b a m n = (ofL P a b n m).map inv := by
  induction P generalizing a b with
  | nil => exact gap_sw _ _ _ _
  | cons p r ih =>
    rw [List.map_cons, ofL, ofL, List.map_append, ← ih, ← gap_sw]
    rfl

/-! ### what it costs -/
def goneS (s : List Ch) : Int := (s.map Ch.n).sum
def comeS (s : List Ch) : Int := (s.map Ch.m).sum
theorem prs_len {s : List Ch} {a b n m : Int} (h : val s a b n m = true) (ha : a ≤ n) (hb : b ≤ m) : ((prs s n a b).length : Int) = n - a - goneS s ∧ ((prs s n a b).length : Int) = m - b - comeS s := by
  induction s generalizing a b with
  | nil =>
    have h' : n - a = m - b := by simpa [val] using h
    rw [prs_nil, exN_length]
    simp [goneS, comeS]; omega
  | cons c r ih =>
    obtain ⟨⟨h1, h2, h3, h4⟩, hr⟩ := val_cons.1 h
    obtain ⟨i1, i2⟩ := ih hr (by omega) (by omega)
    rw [prs_cons, List.length_append, exN_length]
    simp only [goneS, comeS, List.map_cons, List.sum_cons] at i1 i2 ⊢
    push_cast
    omega
def costO : List Ch → Int → Int → Option (Int × Int)
  | [], x, y => some (x, y)
  | c :: r, x, y => if c.a < 0 ∨ c.n < 0 ∨ c.b < 0 ∨ c.m < 0 ∨ 4611686018427387904 - x < c.n ∨ 4611686018427387904 - y < c.m then none else costO r (x + c.n) (y + c.m)
def costP (s : List Ch) : Int × Int := (costO s 0 0).getD (0, 0)
theorem cost_val {s : List Ch} {a b n m x y : Int} (h : val s a b n m = true) (ha : 0 ≤ a) (hb : 0 ≤ b) (hx : 0 ≤ x) (hy : 0 ≤ y) (hxa : x ≤ a) (hyb : y ≤ b) (hn : n ≤ 4194304) (hm : m ≤ 4194304) : costO s x y = some (x + goneS s, y + comeS s) := by
  induction s generalizing a b x y with
  | nil => simp [costO, goneS, comeS]
  | cons c r ih =>
    obtain ⟨⟨h1, h2, h3, h4⟩, hr⟩ := val_cons.1 h
    rw [costO, if_neg (by omega), ih hr (by omega) (by omega) (by omega) (by omega) (by omega) (by omega)]
    simp only [goneS, comeS, List.map_cons, List.sum_cons, Option.some.injEq, Prod.mk.injEq]
    omega
theorem Val.cost {s : List Ch} {n m : Int} (h : Val s n m) : costP s = (goneS s, comeS s) := by
  have hn := cnt_iff.1 h.1
  have hm := cnt_iff.1 h.2.1
  unfold costP
  rw [cost_val h.2.2 (Int.le_refl _) (Int.le_refl _) (Int.le_refl _) (Int.le_refl _) (Int.le_refl _) (Int.le_refl _) hn.2 hm.2]
  simp
theorem Val.len {s : List Ch} {n m : Int} (h : Val s n m) : ((prs s n 0 0).length : Int) = n - goneS s ∧ ((prs s n 0 0).length : Int) = m - comeS s := by
  have hn := cnt_iff.1 h.1
  have hm := cnt_iff.1 h.2.1
  have := prs_len h.2.2 hn.1 hm.1
  simpa using this
end Go.Proofs.YtkolgglllladfaaGreatDoor.Ed
/-
  Hunks, plain: changes in groups, the hunk of a group, the hunks of a script. No program, no world.
-/
namespace Go.Proofs.YtkolgglllladfaaGreatDoor.Hu
open Go
open Ed (Ch Pr okC val)

/-- a text's lines from one place to another -/
def sl (l : List ByteArray) (x y : Int) : List ByteArray := (l.drop x.toNat).take (y - x).toNat
theorem sl_none (l : List ByteArray) (x : Int) : sl l x x = [] := by unfold sl; rw [Int.sub_self]; rfl
theorem sl_app {l : List ByteArray} {x y z : Int} (h0 : 0 ≤ x) (h1 : x ≤ y) (h2 : y ≤ z) : sl l x y ++ sl l y z = sl l x z := by
  unfold sl
  have e1 : (z - x).toNat = (y - x).toNat + (z - y).toNat := by omega
  have e2 : y.toNat = x.toNat + (y - x).toNat := by omega
  rw [e1, List.take_add, List.drop_drop, e2]
theorem sl_len {l : List ByteArray} {x y : Int} (h0 : 0 ≤ x) (h1 : x ≤ y) (h2 : y ≤ l.length) : ((sl l x y).length : Int) = y - x := by
  unfold sl
  rw [List.length_take, List.length_drop]
  omega
theorem sl_all (l : List ByteArray) : sl l 0 l.length = l := by unfold sl; simp
def mk (k : Int) (l : List ByteArray) : List Rw := l.map (Rw.mk k)
theorem mk_app (k : Int) (l m : List ByteArray) : mk k (l ++ m) = mk k l ++ mk k m := List.map_append
theorem mk_len (k : Int) (l : List ByteArray) : (mk k l).length = l.length := List.length_map _
theorem olds_mk1 (l : List ByteArray) : olds (mk 1 l) = l := by
  induction l with
  | nil => rfl
  | cons x l ih => show olds (⟨1, x⟩ :: mk 1 l) = _; rw [olds_cons, ih]; rfl
theorem fres_mk1 (l : List ByteArray) : fres (mk 1 l) = l := by
  induction l with
  | nil => rfl
  | cons x l ih => show fres (⟨1, x⟩ :: mk 1 l) = _; rw [fres_cons, ih]; rfl
theorem olds_mk2 (l : List ByteArray) : olds (mk 2 l) = l := by
  induction l with
  | nil => rfl
  | cons x l ih => show olds (⟨2, x⟩ :: mk 2 l) = _; rw [olds_cons, ih]; rfl
theorem fres_mk2 (l : List ByteArray) : fres (mk 2 l) = [] := by
  induction l with
  | nil => rfl
  | cons x l ih => show fres (⟨2, x⟩ :: mk 2 l) = _; rw [fres_cons, ih]; rfl
theorem olds_mk3 (l : List ByteArray) : olds (mk 3 l) = [] := by
  induction l with
  | nil => rfl
  | cons x l ih => show olds (⟨3, x⟩ :: mk 3 l) = _; rw [olds_cons, ih]; rfl
theorem fres_mk3 (l : List ByteArray) : fres (mk 3 l) = l := by
  induction l with
  | nil => rfl
  | cons x l ih => show fres (⟨3, x⟩ :: mk 3 l) = _; rw [fres_cons, ih]; rfl

/-! ### the hunk of a group -/
def rowsG (a b : List ByteArray) : Int → List Ch → Int → List Rw
  | p, [], q => mk 1 (sl a p q)
  | p, c :: r, q => mk 1 (sl a p c.a) ++ (mk 2 (sl a c.a (c.a + c.n)) ++ (mk 3 (sl b c.b (c.b + c.m)) ++ rowsG a b (c.a + c.n) r q))
def told (p : Int) (n : Nat) : Int := if 0 < n then p + 1 else p
def hunkAt (p q : Int) (rows : List Rw) : Hk := ⟨told p (olds rows).length, (olds rows).length, told q (fres rows).length, (fres rows).length, .empty, rows⟩
def zC : Ch := ⟨0, 0, 0, 0⟩
def fromG (ctx : Int) (g : List Ch) : Int := (g.headD zC).a - min ctx (g.headD zC).a
def fromH (ctx : Int) (g : List Ch) : Int := (g.headD zC).b - min ctx (g.headD zC).a
def toG (ctx : Int) (N : Int) (g : List Ch) : Int := min ((g.getLastD zC).a + (g.getLastD zC).n + ctx) N
def ofG (ctx : Int) (a b : List ByteArray) (g : List Ch) : Hk := hunkAt (fromG ctx g) (fromH ctx g) (rowsG a b (fromG ctx g) g (toG ctx a.length g))

/-! ### groups -/
def cons1 (ctx : Int) (c : Ch) : Option Ch → List (List Ch) → List (List Ch)
  | some d, g :: gs => if d.a - c.a - c.n ≤ 2 * ctx then (c :: g) :: gs else [c] :: g :: gs
  | _, gs => [c] :: gs
def grp (ctx : Int) : List Ch → List (List Ch)
  | [] => []
  | c :: r => cons1 ctx c r.head? (grp ctx r)
def glen (ctx : Int) : List Ch → Nat
  | [] => 0
  | [_] => 1
  | c :: d :: r => if d.a - c.a - c.n ≤ 2 * ctx then glen ctx (d :: r) + 1 else 1
theorem glen_le (ctx : Int) : ∀ t : List Ch, glen ctx t ≤ t.length
  | [] => Nat.le_refl _
  | [_] => Nat.le_refl _
  | c :: d :: r => by
    rw [glen]
    have := glen_le ctx (d :: r)
    split <;> simp at this ⊢ <;> omega
theorem glen_pos (ctx : Int) : ∀ t : List Ch, t ≠ [] → 1 ≤ glen ctx t
  | [], h => absurd rfl h
  | [_], _ => Nat.le_refl _
  | c :: d :: r, _ => by
    rw [glen]
    split <;> omega
theorem grp_glen (ctx : Int) : ∀ t : List Ch, t ≠ [] → grp ctx t = t.take (glen ctx t) :: grp ctx (t.drop (glen ctx t))
  | [], h => absurd rfl h
  | [c], _ => rfl
  | c :: d :: r, _ => by
    have ih := grp_glen ctx (d :: r) (by simp)
    rw [grp, ih, List.head?_cons, cons1, glen]
    split
    · rw [List.take_succ_cons, List.drop_succ_cons]
    · rw [List.take_succ_cons, List.drop_succ_cons, List.take_zero, List.drop_zero, ← ih]
theorem glen_more (ctx : Int) : ∀ (t : List Ch) (j : Nat) (c d : Ch), 1 ≤ j → j ≤ glen ctx t → t[j - 1]? = some c → t[j]? = some d → d.a - c.a - c.n ≤ 2 * ctx → j + 1 ≤ glen ctx t
  | [], j, c, d, _, _, h, _, _ => by simp at h
  | [x], j, c, d, h1, h2, _, h4, _ => by
    rw [glen] at h2
    obtain rfl : j = 1 := by omega
    simp at h4
  | x :: y :: r, j, c, d, h1, h2, h3, h4, h5 => by
    rw [glen] at h2 ⊢
    rcases Nat.eq_or_lt_of_le h1 with e | e
    · subst e
      simp at h3 h4
      subst h3 h4
      rw [if_pos h5]
      have := glen_pos ctx (y :: r) (by simp)
      omega
    · obtain ⟨i, rfl⟩ : ∃ i, j = i + 1 := ⟨j - 1, by omega⟩
      split at h2
      · next hc =>
        rw [if_pos hc]
        have := glen_more ctx (y :: r) i c d (by omega) (by omega) (by
          obtain ⟨i', rfl⟩ : ∃ i', i = i' + 1 := ⟨i - 1, by omega⟩
          simpa using h3) (by simpa using h4) h5
        omega
      · omega
theorem glen_end (ctx : Int) : ∀ (t : List Ch) (j : Nat), 1 ≤ j → j ≤ glen ctx t → (j = t.length ∨ ∃ c d, t[j - 1]? = some c ∧ t[j]? = some d ∧ ¬ d.a - c.a - c.n ≤ 2 * ctx) → glen ctx t = j
  | [], j, h1, h2, _ => by rw [glen] at h2; omega
  | [x], j, h1, h2, _ => by rw [glen] at h2 ⊢; omega
  | x :: y :: r, j, h1, h2, h3 => by
    rw [glen] at h2 ⊢
    rcases Nat.eq_or_lt_of_le h1 with e | e
    · subst e
      rcases h3 with h3 | ⟨c, d, h3, h4, h5⟩
      · simp at h3
      · simp at h3 h4
        subst h3 h4
        rw [if_neg h5]
    · obtain ⟨i, rfl⟩ : ∃ i, j = i + 1 := ⟨j - 1, by omega⟩
      split at h2
      · next hc =>
        rw [if_pos hc]
        have := glen_end ctx (y :: r) i (by omega) (by omega) (by
          rcases h3 with h3 | ⟨c, d, h3, h4, h5⟩
          · exact .inl (by simp at h3 ⊢; omega)
          · refine .inr ⟨c, d, ?_, by simpa using h4, h5⟩
            obtain ⟨i', rfl⟩ : ∃ i', i = i' + 1 := ⟨i - 1, by omega⟩
            simpa using h3)
        omega
      · omega
def bld (ctx : Int) (a b : List ByteArray) (t : List Ch) : List Hk := (grp ctx t).map (ofG ctx a b)

/-! ### changes one behind the other -/
def inc : List Ch → Int → Int → Int → Int → Prop
  | [], x, y, n, m => x ≤ n ∧ y ≤ m
  | c :: r, x, y, n, m => okC x y n m c ∧ inc r (c.a + c.n) (c.b + c.m) n m
theorem inc_val {t : List Ch} {x y n m : Int} (h : val t x y n m = true) (hx : x ≤ n) (hy : y ≤ m) : inc t x y n m := by
  induction t generalizing x y with
  | nil => exact ⟨hx, hy⟩
  | cons c r ih =>
    obtain ⟨h1, h2⟩ := Ed.val_cons.1 h
    exact ⟨h1, ih h2 (by have := h1.1; omega) (by have := h1.2.1; omega)⟩
def endA (x : Int) (g : List Ch) : Int := g.foldl (fun _ c => c.a + c.n) x
def endB (y : Int) (g : List Ch) : Int := g.foldl (fun _ c => c.b + c.m) y
theorem inc_app {g r : List Ch} {x y n m : Int} : inc (g ++ r) x y n m ↔ inc g x y n m ∧ inc r (endA x g) (endB y g) n m := by
  induction g generalizing x y with
  | nil =>
    constructor
    · intro h
      refine ⟨?_, h⟩
      show x ≤ n ∧ y ≤ m
      cases r with
      | nil => exact h
      | cons c r =>
        obtain ⟨⟨h1, h2, _⟩, _⟩ := h
        omega
    · exact fun h => h.2
  | cons c g ih =>
    show (okC x y n m c ∧ inc (g ++ r) (c.a + c.n) (c.b + c.m) n m) ↔ ((okC x y n m c ∧ inc g (c.a + c.n) (c.b + c.m) n m) ∧ inc r (endA (c.a + c.n) g) (endB (c.b + c.m) g) n m)
    rw [ih, and_assoc]
theorem endA_ge {g : List Ch} {x y n m : Int} (h : inc g x y n m) : x ≤ endA x g ∧ endA x g ≤ n ∧ y ≤ endB y g ∧ endB y g ≤ m := by
  induction g generalizing x y with
  | nil => obtain ⟨h1, h2⟩ := h; exact ⟨Int.le_refl _, h1, Int.le_refl _, h2⟩
  | cons c r ih =>
    obtain ⟨⟨⟨p1, p2, p3⟩, ⟨p4, p5, p6⟩, _, _⟩, h2⟩ := h
    obtain ⟨q1, q2, q3, q4⟩ := ih h2
    show x ≤ endA (c.a + c.n) r ∧ endA (c.a + c.n) r ≤ n ∧ y ≤ endB (c.b + c.m) r ∧ endB (c.b + c.m) r ≤ m
    omega
theorem endA_last {g : List Ch} {x : Int} (h : g ≠ []) : endA x g = (g.getLastD zC).a + (g.getLastD zC).n := by
  induction g generalizing x with
  | nil => exact absurd rfl h
  | cons c r ih =>
    cases r with
    | nil => rfl
    | cons d r => exact ih (x := c.a + c.n) (by simp)
theorem inc_in {g : List Ch} {x y n m : Int} (h : inc g x y n m) : ∀ c ∈ g, x ≤ c.a ∧ 0 ≤ c.n ∧ c.a + c.n ≤ n ∧ y ≤ c.b ∧ 0 ≤ c.m ∧ c.b + c.m ≤ m := by
  induction g generalizing x y with
  | nil => intro c hc; simp at hc
  | cons d r ih =>
    obtain ⟨⟨⟨p1, p2, p3⟩, ⟨p4, p5, p6⟩, _, _⟩, h2⟩ := h
    intro c hc
    rcases List.mem_cons.1 hc with rfl | hc
    · omega
    · have := ih h2 c hc
      omega
theorem inc_mono {g : List Ch} {x y n m x' y' : Int} (h : inc g x y n m) (hx : x' ≤ x) (hd : x - x' = y - y') : inc g x' y' n m := by
  cases g with
  | nil => obtain ⟨h1, h2⟩ := h; exact ⟨by omega, by omega⟩
  | cons c r =>
    obtain ⟨⟨⟨p1, p2, p3⟩, ⟨p4, p5, p6⟩, p7, p8⟩, h2⟩ := h
    exact ⟨⟨⟨by omega, p2, p3⟩, ⟨by omega, p5, p6⟩, p7, by omega⟩, h2⟩
/-- what a group costs -/
theorem cost_inc {s : List Ch} {a b n m x y : Int} (h : inc s a b n m) (ha : 0 ≤ a) (hb : 0 ≤ b) (hx : 0 ≤ x) (hy : 0 ≤ y) (hxa : x ≤ a) (hyb : y ≤ b) (hn : n ≤ 4194304) (hm : m ≤ 4194304) : Ed.costO s x y = some (x + Ed.goneS s, y + Ed.comeS s) := by
  induction s generalizing a b x y with
  | nil => simp [Ed.costO, Ed.goneS, Ed.comeS]
  | cons c r ih =>
    obtain ⟨⟨h1, h2, h3, h4⟩, hr⟩ := h
    rw [Ed.costO, if_neg (by omega), ih hr (by omega) (by omega) (by omega) (by omega) (by omega) (by omega)]
    simp only [Ed.goneS, Ed.comeS, List.map_cons, List.sum_cons, Option.some.injEq, Prod.mk.injEq]
    omega
theorem inc_come {s : List Ch} {a b n m : Int} (h : inc s a b n m) : 0 ≤ Ed.comeS s ∧ Ed.comeS s ≤ m - b ∧ 0 ≤ Ed.goneS s ∧ Ed.goneS s ≤ n - a := by
  induction s generalizing a b with
  | nil => obtain ⟨h1, h2⟩ := h; simp [Ed.comeS, Ed.goneS]; omega
  | cons c r ih =>
    obtain ⟨⟨h1, h2, h3, h4⟩, hr⟩ := h
    have := ih hr
    simp only [Ed.goneS, Ed.comeS, List.map_cons, List.sum_cons] at this ⊢
    omega
/-- the old lines of a group's rows -/
theorem olds_rowsG {a b : List ByteArray} {g : List Ch} {x y n m q : Int} (h : inc g x y n m) (hx : 0 ≤ x) (hq : endA x g ≤ q) : olds (rowsG a b x g q) = sl a x q := by
  induction g generalizing x y with
  | nil => rw [rowsG, olds_mk1]
  | cons c r ih =>
    obtain ⟨⟨⟨p1, p2, p3⟩, ⟨p4, p5, p6⟩, _, _⟩, h2⟩ := h
    have hq' : endA (c.a + c.n) r ≤ q := hq
    have := endA_ge h2
    rw [rowsG, olds_app, olds_app, olds_app, olds_mk1, olds_mk2, olds_mk3, ih h2 (by omega) hq', List.nil_append, ← List.append_assoc, sl_app hx p1 (by omega), sl_app hx (by omega) (by omega)]
theorem fres_rowsG {a b : List ByteArray} {g : List Ch} {x y n m q : Int} (h : inc g x y n m) (hx : 0 ≤ x) (hy : 0 ≤ y) (hq : endA x g ≤ q) (hqa : q ≤ a.length) (hm : m ≤ b.length) : ((fres (rowsG a b x g q)).length : Int) = q - x - Ed.goneS g + Ed.comeS g := by
  induction g generalizing x y with
  | nil =>
    have hq' : x ≤ q := hq
    rw [rowsG, fres_mk1, sl_len hx hq' hqa]
    simp [Ed.goneS, Ed.comeS]
  | cons c r ih =>
    obtain ⟨⟨⟨p1, p2, p3⟩, ⟨p4, p5, p6⟩, _, _⟩, h2⟩ := h
    have hq' : endA (c.a + c.n) r ≤ q := hq
    have := endA_ge h2
    have e := ih h2 (by omega) (by omega) hq'
    rw [rowsG, fres_app, fres_app, fres_app, fres_mk1, fres_mk2, fres_mk3, List.length_append, List.length_append, List.length_append]
    have e1 := sl_len (l := a) (x := x) (y := c.a) hx p1 (by omega)
    have e2 := sl_len (l := b) (x := c.b) (y := c.b + c.m) (by omega) (by omega) (by omega)
    simp only [Ed.goneS, Ed.comeS, List.map_cons, List.sum_cons] at e ⊢
    push_cast
    simp only [List.length_nil]
    omega
theorem len_rowsG {a b : List ByteArray} {g : List Ch} {x y n m q : Int} (h : inc g x y n m) (hx : 0 ≤ x) (hy : 0 ≤ y) (hq : endA x g ≤ q) (hqa : q ≤ a.length) (hm : m ≤ b.length) : ((rowsG a b x g q).length : Int) = q - x + Ed.comeS g := by
  induction g generalizing x y with
  | nil =>
    have hq' : x ≤ q := hq
    rw [rowsG, mk_len, sl_len hx hq' hqa]
    simp [Ed.comeS]
  | cons c r ih =>
    obtain ⟨⟨⟨p1, p2, p3⟩, ⟨p4, p5, p6⟩, _, _⟩, h2⟩ := h
    have hq' : endA (c.a + c.n) r ≤ q := hq
    have := endA_ge h2
    have e := ih h2 (by omega) (by omega) hq'
    rw [rowsG, List.length_append, List.length_append, List.length_append, mk_len, mk_len, mk_len]
    have e1 := sl_len (l := a) (x := x) (y := c.a) hx p1 (by omega)
    have e2 := sl_len (l := b) (x := c.b) (y := c.b + c.m) (by omega) (by omega) (by omega)
    have e3 := sl_len (l := a) (x := c.a) (y := c.a + c.n) (by omega) (by omega) (by omega)
    simp only [Ed.comeS, List.map_cons, List.sum_cons] at e ⊢
    push_cast
    omega
end Go.Proofs.YtkolgglllladfaaGreatDoor.Hu
/-
  Build, plain: where a normal script's last line that stays stands; the groups one by one.
-/
namespace Go.Proofs.YtkolgglllladfaaGreatDoor.Hu
open Ed (Ch Pr okC val apart)

/-- the place behind the last line that stays -/
def endPt (t : List Ch) (n m : Int) : Int × Int := match t.getLast? with
  | none => (n, m)
  | some d => if d.a + d.n = n then (d.a, d.b) else (n, m)
theorem last_pt : ∀ (t : List Ch) (x y n m : Int), val t x y n m = true → apart t → 0 ≤ x → 0 ≤ y → x ≤ n → y ≤ m → (∀ d, t.getLast? = some d → (0 ≤ d.a ∧ 0 ≤ d.n ∧ 0 ≤ d.b ∧ 0 ≤ d.m ∧ d.a + d.n ≤ n ∧ d.b + d.m ≤ m ∧ n - (d.a + d.n) = m - (d.b + d.m)) ∧ (∀ h, t.head? = some h → h.a ≤ d.a) ∧ (d.a - x = d.b - y ∨ 0 < d.b))
  | [], x, y, n, m, _, _, _, _, _, _ => fun d hd => by simp at hd
  | [c], x, y, n, m, hv, _, hx, hy, _, _ => fun d hd => by
    simp at hd
    subst hd
    obtain ⟨⟨⟨p1, p2, p3⟩, ⟨p4, p5, p6⟩, _, p8⟩, hv2⟩ := Ed.val_cons.1 hv
    have : n - (c.a + c.n) = m - (c.b + c.m) := by simpa [val] using hv2
    exact ⟨⟨by omega, p2, by omega, p5, by omega, by omega, this⟩, fun h hh => by simp at hh; rw [hh]; exact Int.le_refl _, .inl p8⟩
  | c :: c2 :: r, x, y, n, m, hv, ha, hx, hy, hxn, hym => fun d hd => by
    obtain ⟨⟨⟨p1, p2, p3⟩, ⟨p4, p5, p6⟩, _, p8⟩, hv2⟩ := Ed.val_cons.1 hv
    obtain ⟨⟨⟨s1, s2, s3⟩, ⟨s4, s5, s6⟩, _, s8⟩, _⟩ := Ed.val_cons.1 hv2
    have hne := Ed.apart_get ha 0 c c2 rfl rfl
    have ha2 : apart (c2 :: r) := ha.2
    obtain ⟨i1, i2, i3⟩ := last_pt (c2 :: r) (c.a + c.n) (c.b + c.m) n m hv2 ha2 (by omega) (by omega) (by omega) (by omega) d (by rw [List.getLast?_cons_cons] at hd; exact hd)
    have i4 := i2 c2 rfl
    refine ⟨i1, fun h hh => by simp at hh; subst hh; omega, .inr ?_⟩
    rcases i3 with i3 | i3 <;> omega
theorem endPt_in {t : List Ch} {n m : Int} (hv : Ed.Val t n m) (ha : apart t) : 0 ≤ (endPt t n m).1 ∧ (endPt t n m).1 ≤ n ∧ 0 ≤ (endPt t n m).2 ∧ (endPt t n m).2 ≤ m ∧ ((endPt t n m).1 ≠ 0 → 1 ≤ (endPt t n m).2) := by
  have hn := Ed.cnt_iff.1 hv.1
  have hm := Ed.cnt_iff.1 hv.2.1
  unfold endPt
  split
  · next h =>
    have e : t = [] := List.getLast?_eq_none_iff.1 h
    have h3 := hv.2.2
    rw [e] at h3
    have h3' : n - 0 = m - 0 := by simpa [val] using h3
    refine ⟨?_, ?_, ?_, ?_, fun _ => ?_⟩ <;> simp only [] at * <;> omega
  · next d hd =>
    obtain ⟨⟨q1, q2, q3, q4, q5, q6, q7⟩, _, q9⟩ := last_pt t 0 0 n m hv.2.2 ha (by omega) (by omega) (by omega) (by omega) d hd
    split
    · refine ⟨?_, ?_, ?_, ?_, fun _ => ?_⟩ <;> simp only [] at * <;> omega
    · refine ⟨?_, ?_, ?_, ?_, fun _ => ?_⟩ <;> simp only [] at * <;> omega
/-- is the last line that stays whole in both, or in neither? -/
def ends2 (a b : List ByteArray) (p : Int × Int) : Bool := if p.1 = 0 then true else whT (a.getD (p.1 - 1).toNat .empty) == whT (b.getD (p.2 - 1).toNat .empty)
def endsP (t : List Ch) (a b : List ByteArray) : Bool := ends2 a b (endPt t a.length b.length)

/-! ### group by group -/
theorem glen_gap {ctx : Int} {t : List Ch} {c d : Ch} (hc : t[glen ctx t - 1]? = some c) (hd : t[glen ctx t]? = some d) : 2 * ctx < d.a - c.a - c.n := by
  by_cases h : 2 * ctx < d.a - c.a - c.n
  · exact h
  · have hne : t ≠ [] := by intro e; rw [e] at hd; simp at hd
    have := glen_more ctx t (glen ctx t) c d (glen_pos ctx t hne) (Nat.le_refl _) hc hd (by omega)
    omega
/-- what is known ahead of a group -/
structure Ahead (ctx : Int) (t : List Ch) (x y n m : Int) : Prop where
  inc : inc t x y n m
  x0 : 0 ≤ x
  y0 : 0 ≤ y
  gap : (x = 0 ∧ y = 0) ∨ ∀ h, t.head? = some h → 2 * ctx < h.a - x
theorem Ahead.group {ctx : Int} {t : List Ch} {x y n m : Int} (h : Ahead ctx t x y n m) (hne : t ≠ []) (hc : 0 ≤ ctx) :
    t.take (glen ctx t) ≠ [] ∧ Hu.inc (t.take (glen ctx t)) (fromG ctx (t.take (glen ctx t))) (fromH ctx (t.take (glen ctx t))) n m ∧ 0 ≤ fromG ctx (t.take (glen ctx t)) ∧ 0 ≤ fromH ctx (t.take (glen ctx t)) ∧ ∃ x' y', Ahead ctx (t.drop (glen ctx t)) x' y' n m := by
  have hp := glen_pos ctx t hne
  have hl := glen_le ctx t
  cases t with
  | nil => exact absurd rfl hne
  | cons c r =>
    obtain ⟨k, hk⟩ : ∃ k, glen ctx (c :: r) = k + 1 := ⟨glen ctx (c :: r) - 1, by omega⟩
    have e1 : (c :: r).take (glen ctx (c :: r)) = c :: r.take k := by rw [hk]; rfl
    have e2 : (c :: r).drop (glen ctx (c :: r)) = r.drop k := by rw [hk]; rfl
    have hsplit : c :: r = (c :: r.take k) ++ r.drop k := by rw [List.cons_append, List.take_append_drop]
    have hi := h.inc
    rw [hsplit] at hi
    obtain ⟨hi1, hi2⟩ := inc_app.1 hi
    obtain ⟨⟨⟨p1, p2, p3⟩, ⟨p4, p5, p6⟩, p7, p8⟩, hr⟩ := hi1
    have f1 : fromG ctx (c :: r.take k) = c.a - min ctx c.a := rfl
    have f2 : fromH ctx (c :: r.take k) = c.b - min ctx c.a := rfl
    have hx := h.x0
    have hy := h.y0
    have hb : 0 ≤ c.b - min ctx c.a := by
      rcases h.gap with ⟨g1, g2⟩ | g
      · omega
      · have := g c rfl
        omega
    rw [e1, e2, f1, f2]
    refine ⟨by simp, ⟨⟨⟨by omega, p2, p3⟩, ⟨by omega, p5, p6⟩, p7, by omega⟩, hr⟩, by omega, hb, endA x (c :: r.take k), endB y (c :: r.take k), hi2, ?_, ?_, .inr ?_⟩
    · have := (endA_ge hr).1
      show 0 ≤ endA (c.a + c.n) (r.take k)
      omega
    · have := (endA_ge hr).2.2.1
      show 0 ≤ endB (c.b + c.m) (r.take k)
      omega
    · intro d hd
      have hd2 : (c :: r)[glen ctx (c :: r)]? = some d := by
        rw [hk, List.getElem?_cons_succ]
        rw [List.head?_drop] at hd
        exact hd
      obtain ⟨l, hlst⟩ : ∃ l, (c :: r)[glen ctx (c :: r) - 1]? = some l := ⟨_, List.getElem?_eq_getElem (by omega)⟩
      have hg := glen_gap hlst hd2
      have e3 : endA x (c :: r.take k) = l.a + l.n := by
        rw [endA_last (by simp)]
        have : (c :: r.take k).getLastD zC = l := by
          rw [List.getLastD_eq_getLast?, List.getLast?_eq_getElem?, ← e1, List.length_take, List.getElem?_take]
          rw [show min (glen ctx (c :: r)) (c :: r).length - 1 = glen ctx (c :: r) - 1 by omega, if_pos (by omega), hlst]
          rfl
        rw [this]
      rw [e3]
      omega
theorem bld_step {ctx : Int} {a b : List ByteArray} {t : List Ch} (hne : t ≠ []) : bld ctx a b t = ofG ctx a b (t.take (glen ctx t)) :: bld ctx a b (t.drop (glen ctx t)) := by
  unfold bld
  rw [grp_glen ctx t hne]
  rfl
theorem Ahead.start {ctx : Int} {t : List Ch} {n m : Int} (hv : Ed.Val t n m) : Ahead ctx t 0 0 n m := by
  have hn := Ed.cnt_iff.1 hv.1
  have hm := Ed.cnt_iff.1 hv.2.1
  exact ⟨inc_val hv.2.2 (by omega) (by omega), Int.le_refl _, Int.le_refl _, .inl ⟨rfl, rfl⟩⟩
end Go.Proofs.YtkolgglllladfaaGreatDoor.Hu
/-
  Build, plain: all pairs that stay against the last one.
-/
namespace Go.Proofs.YtkolgglllladfaaGreatDoor.Hu
open Ed (Ch Pr okC val apart rise ofL gap)

def lastP (P : List Pr) (a b : Int) : Int × Int := match P.getLast? with
  | none => (a, b)
  | some q => (q.1 + 1, q.2 + 1)
theorem lastP_cons (p : Pr) (r : List Pr) (a b : Int) : lastP (p :: r) a b = lastP r (p.1 + 1) (p.2 + 1) := by
  unfold lastP
  cases r with
  | nil => rfl
  | cons q r => rw [List.getLast?_cons_cons]; cases h : (q :: r).getLast? with
    | none => simp at h
    | some x => rfl
theorem endPt_app {s t : List Ch} {n m : Int} (h : t ≠ []) : endPt (s ++ t) n m = endPt t n m := by
  have e : (s ++ t).getLast? = t.getLast? := by
    rw [List.getLast?_append]
    cases h2 : t.getLast? with
    | none => exact absurd (List.getLast?_eq_none_iff.1 h2) h
    | some x => rfl
  unfold endPt
  rw [e]
theorem endPt_ofL {P : List Pr} {a b n m : Int} (h : rise P a b n m = true) (ha : a ≤ n) (hb : b ≤ m) : endPt (ofL P a b n m) n m = lastP P a b := by
  induction P generalizing a b with
  | nil =>
    rw [ofL]
    rcases Ed.gap_some ha hb with ⟨e1, e2, hg⟩ | ⟨hne, hg⟩
    · rw [hg]
      subst e1 e2
      rfl
    · rw [hg]
      show (if a + (n - a) = n then _ else _) = _
      rw [if_pos (by omega)]
      rfl
  | cons p r ih =>
    obtain ⟨hp, hr⟩ := Ed.rise_cons.1 h
    have i1 := ih hr (by omega) (by omega)
    rw [ofL, lastP_cons, ← i1]
    by_cases he : ofL r (p.1 + 1) (p.2 + 1) n m = []
    · rw [he, List.append_nil]
      rcases Ed.gap_some hp.1.1 hp.2.1 with ⟨_, _, hg⟩ | ⟨hne, hg⟩
      · rw [hg]
      · rw [hg]
        show (if a + (p.1 - a) = n then _ else _) = _
        rw [if_neg (by omega)]
        rfl
    · exact endPt_app he
/-- whole in both, or in neither -/
def eqW (a b : List ByteArray) (p : Pr) : Bool := whT (a.getD p.1.toNat .empty) == whT (b.getD p.2.toNat .empty)
theorem valS_whole : ∀ {l : List ByteArray} {k : Nat}, valS l = true → k + 1 < l.length → whT (l.getD k .empty) = true
  | [], k, _, hk => by simp at hk
  | x :: r, k, h, hk => by
    rw [valS_cons, Bool.and_eq_true, Bool.and_eq_true] at h
    cases k with
    | zero =>
      have hr : r.isEmpty = false := by
        cases r with
        | nil => simp at hk
        | cons _ _ => rfl
      have := h.1.2
      rw [hr] at this
      simpa using this
    | succ k => exact valS_whole (l := r) (k := k) h.2 (by simpa using hk)
theorem rise_all {P : List Pr} {a b : List ByteArray} (ha : valS a = true) (hb : valS b = true) : ∀ (x y : Int), 0 ≤ x → 0 ≤ y → rise P x y a.length b.length = true → P.all (eqW a b) = (match P.getLast? with | none => true | some q => eqW a b q) := by
  induction P with
  | nil => intro x y _ _ _; rfl
  | cons p r ih =>
    intro x y hx hy h
    obtain ⟨hp, hr⟩ := Ed.rise_cons.1 h
    have i1 := ih (p.1 + 1) (p.2 + 1) (by omega) (by omega) hr
    rw [List.all_cons, i1]
    cases r with
    | nil => simp
    | cons q r =>
      rw [List.getLast?_cons_cons]
      obtain ⟨hq, _⟩ := Ed.rise_cons.1 hr
      have e1 : eqW a b p = true := by
        unfold eqW
        rw [valS_whole ha (by omega), valS_whole hb (by omega)]
        rfl
      rw [e1, Bool.true_and]
theorem endsP_all {t : List Ch} {a b : List ByteArray} (hs : ∃ s, Ed.Val s a.length b.length ∧ t = Ed.normal s a.length b.length) (ha : valS a = true) (hb : valS b = true) :
    endsP t a b = (Ed.prs t a.length 0 0).all (eqW a b) := by
  obtain ⟨s, hV, rfl⟩ := hs
  have hr := hV.rise
  rw [(Ed.normal_Val hV).2, rise_all ha hb 0 0 (by omega) (by omega) hr]
  unfold endsP
  rw [Ed.normal_eq, endPt_ofL hr (by omega) (by omega)]
  unfold lastP ends2 eqW
  cases h : (Ed.prs s (↑a.length) 0 0).getLast? with
  | none => rfl
  | some q =>
    have hq : q ∈ Ed.prs s (↑a.length) 0 0 := List.mem_of_getLast? h
    have h0 : 0 ≤ q.1 := by
      have : ∀ (P : List Pr) (x y n m : Int), 0 ≤ x → rise P x y n m = true → ∀ q ∈ P, 0 ≤ q.1 := by
        intro P
        induction P with
        | nil => intro x y n m _ _ q hq; simp at hq
        | cons p r ih =>
          intro x y n m hx h q hq
          obtain ⟨hp, hr⟩ := Ed.rise_cons.1 h
          rcases List.mem_cons.1 hq with rfl | hq
          · omega
          · exact ih (p.1 + 1) _ _ _ (by omega) hr q hq
      exact this _ _ _ _ _ (Int.le_refl _) hr q hq
    simp only []
    rw [if_neg (by omega), show q.1 + 1 - 1 = q.1 by omega, show q.2 + 1 - 1 = q.2 by omega]
end Go.Proofs.YtkolgglllladfaaGreatDoor.Hu
/-
  Plain laws on pairs of lines put together, and on two scripts as one.
-/
namespace Go.Proofs.YtkolgglllladfaaGreatDoor.Ed

def lt (p q : Pr) : Prop := p.1 < q.1 ∧ p.2 < q.2
def inB (a b n m : Int) (p : Pr) : Prop := (a ≤ p.1 ∧ p.1 < n) ∧ b ≤ p.2 ∧ p.2 < m
theorem rise_iff {P : List Pr} {a b n m : Int} : rise P a b n m = true ↔ P.Pairwise lt ∧ ∀ p ∈ P, inB a b n m p := by
  induction P generalizing a b with
  | nil => simp [rise]
  | cons p r ih =>
    rw [rise_cons, ih, List.pairwise_cons]
    constructor
    · rintro ⟨h1, h2, h3⟩
      refine ⟨⟨fun q hq => ?_, h2⟩, fun q hq => ?_⟩
      · have := h3 q hq
        unfold inB at this; unfold lt
        omega
      · rcases List.mem_cons.1 hq with rfl | hq
        · exact h1
        · have := h3 q hq
          unfold inB at this ⊢
          omega
    · rintro ⟨⟨h1, h2⟩, h3⟩
      refine ⟨h3 p (List.mem_cons_self ..), h2, fun q hq => ?_⟩
      have k1 := h1 q hq
      have k2 := h3 q (List.mem_cons_of_mem _ hq)
      unfold lt at k1
      unfold inB at k2 ⊢
      omega
theorem sorted_ext {X Y : List Pr} (hX : X.Pairwise lt) (hY : Y.Pairwise lt) (h : ∀ p, p ∈ X ↔ p ∈ Y) : X = Y := by
  induction X generalizing Y with
  | nil =>
    cases Y with
    | nil => rfl
    | cons y r => exact absurd ((h y).2 (List.mem_cons_self ..)) (by simp)
  | cons x X ih =>
    cases Y with
    | nil => exact absurd ((h x).1 (List.mem_cons_self ..)) (by simp)
    | cons y Y =>
      obtain ⟨hx, hX'⟩ := List.pairwise_cons.1 hX
      obtain ⟨hy, hY'⟩ := List.pairwise_cons.1 hY
      have e : x = y := by
        rcases List.mem_cons.1 ((h x).1 (List.mem_cons_self ..)) with e | e
        · exact e
        · rcases List.mem_cons.1 ((h y).2 (List.mem_cons_self ..)) with e' | e'
          · exact e'.symm
          · have k1 := hy x e
            have k2 := hx y e'
            unfold lt at k1 k2
            omega
      subst e
      congr 1
      refine ih hX' hY' fun p => ⟨fun hp => ?_, fun hp => ?_⟩
      · rcases List.mem_cons.1 ((h p).1 (List.mem_cons_of_mem _ hp)) with e | e
        · subst e
          have := hx p hp
          unfold lt at this; omega
        · exact e
      · rcases List.mem_cons.1 ((h p).2 (List.mem_cons_of_mem _ hp)) with e | e
        · subst e
          have := hy p hp
          unfold lt at this; omega
        · exact e

/-! ### pairs put together -/
def thru (Q : List Pr) (p : Pr) : List Pr := (Q.filter fun q => decide (q.1 = p.2)).map fun q => (p.1, q.2)
def comp (P Q : List Pr) : List Pr := P.flatMap (thru Q)
theorem mem_comp {P Q : List Pr} {z : Pr} : z ∈ comp P Q ↔ ∃ p ∈ P, ∃ q ∈ Q, q.1 = p.2 ∧ z = (p.1, q.2) := by
  unfold comp thru
  simp only [List.mem_flatMap, List.mem_map, List.mem_filter, decide_eq_true_eq]
  constructor
  · rintro ⟨p, hp, q, ⟨hq, e⟩, rfl⟩; exact ⟨p, hp, q, hq, e, rfl⟩
  · rintro ⟨p, hp, q, hq, e, rfl⟩; exact ⟨p, hp, q, ⟨hq, e⟩, rfl⟩
theorem lt_of_fst {Q : List Pr} (hQ : Q.Pairwise lt) {x y : Pr} (hx : x ∈ Q) (hy : y ∈ Q) (h : x.1 < y.1) : x.2 < y.2 := by
  induction hQ with
  | nil => cases hx
  | @cons q Q h1 h2 ih =>
    rcases List.mem_cons.1 hx with ex | hx'
    · rcases List.mem_cons.1 hy with ey | hy'
      · rw [ex, ey] at h; omega
      · rw [ex]; exact (h1 y hy').2
    · rcases List.mem_cons.1 hy with ey | hy'
      · have := (h1 x hx').1; rw [ey] at h; omega
      · exact ih hx' hy'
theorem comp_pairwise {P Q : List Pr} (hP : P.Pairwise lt) (hQ : Q.Pairwise lt) : (comp P Q).Pairwise lt := by
  unfold comp
  rw [List.pairwise_flatMap]
  constructor
  · intro p _
    unfold thru
    rw [List.pairwise_map]
    have h1 : (Q.filter fun q => decide (q.1 = p.2)).Pairwise lt := hQ.filter _
    refine List.Pairwise.imp_of_mem ?_ h1
    intro x y hx hy hl
    have e1 := (List.mem_filter.1 hx).2
    have e2 := (List.mem_filter.1 hy).2
    simp only [decide_eq_true_eq] at e1 e2
    unfold lt at hl
    omega
  · refine hP.imp ?_
    intro p p' hl x hx y hy
    unfold thru at hx hy
    simp only [List.mem_map, List.mem_filter, decide_eq_true_eq] at hx hy
    obtain ⟨q, ⟨hq, e⟩, rfl⟩ := hx
    obtain ⟨q', ⟨hq', e'⟩, rfl⟩ := hy
    have h2 := hl.2
    have h3 : q.2 < q'.2 := lt_of_fst hQ hq hq' (by omega)
    exact ⟨hl.1, h3⟩
theorem comp_rise {P Q : List Pr} {n m k : Int} (hP : rise P 0 0 n m = true) (hQ : rise Q 0 0 m k = true) : rise (comp P Q) 0 0 n k = true := by
  rw [rise_iff] at *
  refine ⟨comp_pairwise hP.1 hQ.1, fun z hz => ?_⟩
  obtain ⟨p, hp, q, hq, _, rfl⟩ := mem_comp.1 hz
  have h1 := hP.2 p hp
  have h2 := hQ.2 q hq
  unfold inB at *
  simp only
  omega
theorem comp_assoc {P Q R : List Pr} (hP : P.Pairwise lt) (hQ : Q.Pairwise lt) (hR : R.Pairwise lt) : comp (comp P Q) R = comp P (comp Q R) := by
  refine sorted_ext (comp_pairwise (comp_pairwise hP hQ) hR) (comp_pairwise hP (comp_pairwise hQ hR)) fun z => ?_
  simp only [mem_comp]
  constructor
  · rintro ⟨x, ⟨p, hp, q, hq, e, rfl⟩, r, hr, e', rfl⟩
    exact ⟨p, hp, (q.1, r.2), ⟨q, hq, r, hr, e', rfl⟩, e, rfl⟩
  · rintro ⟨p, hp, x, ⟨q, hq, r, hr, e', rfl⟩, e, rfl⟩
    exact ⟨(p.1, q.2), ⟨p, hp, q, hq, e, rfl⟩, r, hr, e', rfl⟩
theorem sw_pairwise {P : List Pr} (h : P.Pairwise lt) : (P.map sw).Pairwise lt := by
  rw [List.pairwise_map]
  exact h.imp fun h => ⟨h.2, h.1⟩
theorem mem_sw {P : List Pr} {z : Pr} : z ∈ P.map sw ↔ sw z ∈ P := by
  rw [List.mem_map]
  constructor
  · rintro ⟨p, hp, rfl⟩; exact hp
  · intro h; exact ⟨sw z, h, rfl⟩
theorem comp_sw {P Q : List Pr} (hP : P.Pairwise lt) (hQ : Q.Pairwise lt) : (comp P Q).map sw = comp (Q.map sw) (P.map sw) := by
  refine sorted_ext (sw_pairwise (comp_pairwise hP hQ)) (comp_pairwise (sw_pairwise hQ) (sw_pairwise hP)) fun z => ?_
  rw [mem_sw, mem_comp, mem_comp]
  constructor
  · rintro ⟨p, hp, q, hq, e, h⟩
    refine ⟨sw q, mem_sw.2 hq, sw p, mem_sw.2 hp, e.symm, ?_⟩
    exact Prod.ext (congrArg Prod.snd h) (congrArg Prod.fst h)
  · rintro ⟨q, hq, p, hp, e, h⟩
    refine ⟨sw p, mem_sw.1 hp, sw q, mem_sw.1 hq, e.symm, ?_⟩
    rw [h]; rfl
theorem comp_same {P : List Pr} {n m : Int} (hP : rise P 0 0 n m = true) : comp P (prs [] m 0 0) = P := by
  have hr := rise_iff.1 hP
  have hQ : (prs [] m 0 0).Pairwise lt := by
    by_cases hm : 0 ≤ m
    · exact (rise_iff.1 (rise_prs (s := []) (n := m) (m := m) (a := 0) (b := 0) (by simp [val]) hm hm)).1
    · rw [prs_nil, show (m - 0).toNat = 0 by omega]; exact List.Pairwise.nil
  refine sorted_ext (comp_pairwise hr.1 hQ) hr.1 fun z => ?_
  rw [mem_comp]
  constructor
  · rintro ⟨p, hp, q, hq, e, rfl⟩
    rw [prs_nil, mem_exN] at hq
    have : (p.1, q.2) = p := Prod.ext rfl (by simp only; omega)
    rw [this]; exact hp
  · intro hz
    have hb := hr.2 z hz
    unfold inB at hb
    refine ⟨z, hz, (z.2, z.2), ?_, rfl, rfl⟩
    rw [prs_nil, mem_exN]
    refine ⟨hb.2.1, ?_, by simp⟩
    simp only
    omega

/-! ### runs put together -/
def ltR (r t : Run) : Prop := r.1 + r.2.2 ≤ t.1 ∧ r.2.1 + r.2.2 ≤ t.2.1
theorem exN_pairwise (x y : Int) (k : Nat) : (exN x y k).Pairwise lt := by
  have : rise (exN x y k ++ []) x y (x + k) (y + k) = true := rise_exN (Int.le_refl _) (Int.le_refl _) (.inr ⟨Int.le_refl _, Int.le_refl _⟩) rfl
  rw [List.append_nil] at this
  exact (rise_iff.1 this).1
theorem mem_ex {r : Run} {p : Pr} (hr : 0 < r.2.2) : p ∈ ex r ↔ r.1 ≤ p.1 ∧ p.1 < r.1 + r.2.2 ∧ p.2 - r.2.1 = p.1 - r.1 := by
  unfold ex
  rw [mem_exN]
  omega
theorem exs_pairwise {rs : List Run} (hp : ∀ r ∈ rs, 0 < r.2.2) (h : rs.Pairwise ltR) : (exs rs).Pairwise lt := by
  unfold exs
  rw [List.pairwise_flatMap]
  refine ⟨fun r _ => exN_pairwise _ _ _, ?_⟩
  refine List.Pairwise.imp_of_mem ?_ h
  intro r t hr ht hl x hx y hy
  have h1 := (mem_ex (hp r hr)).1 hx
  have h2 := (mem_ex (hp t ht)).1 hy
  unfold ltR at hl; unfold lt
  omega
theorem runs_sorted {s : List Ch} {n m a b : Int} (h : val s a b n m = true) (ha : a ≤ n) (hb : b ≤ m) : (runs s n a b).Pairwise ltR ∧ ∀ r ∈ runs s n a b, a ≤ r.1 ∧ b ≤ r.2.1 ∧ r.1 + r.2.2 ≤ n ∧ r.2.1 + r.2.2 ≤ m := by
  induction s generalizing a b with
  | nil =>
    have h' : n - a = m - b := by simpa [val] using h
    rw [runs]; unfold run1
    split
    · refine ⟨List.pairwise_singleton _ _, fun r hr => ?_⟩
      simp at hr; subst hr
      simp only; omega
    · exact ⟨List.Pairwise.nil, fun r hr => by cases hr⟩
  | cons c r ih =>
    obtain ⟨⟨h1, h2, h3, h4⟩, hr⟩ := val_cons.1 h
    obtain ⟨i1, i2⟩ := ih hr (by omega) (by omega)
    rw [runs]
    have hx : ∀ x ∈ run1 a b (c.a - a), x = (a, b, c.a - a) := by
      unfold run1
      intro x hx
      split at hx
      · simpa using hx
      · cases hx
    constructor
    · rw [List.pairwise_append]
      refine ⟨?_, i1, fun x hx' y hy => ?_⟩
      · unfold run1
        split
        · exact List.pairwise_singleton _ _
        · exact List.Pairwise.nil
      · have e := hx x hx'
        subst e
        have := i2 y hy
        unfold ltR
        simp only
        omega
    · intro x hx'
      rcases List.mem_append.1 hx' with k | k
      · have e := hx x k
        subst e
        simp only
        omega
      · have := i2 x k
        omega
def through (r t : Run) : Run := (r.1 + max r.2.1 t.1 - r.2.1, t.2.1 + max r.2.1 t.1 - t.1, min (r.2.1 + r.2.2) (t.1 + t.2.2) - max r.2.1 t.1)
def ahead (r t : Run) : Bool := decide (t.1 + t.2.2 ≤ r.2.1)
def meets (r t : Run) : Bool := decide (t.1 < r.2.1 + r.2.2)
def left (ts : List Run) (r : Run) : List Run := ts.dropWhile (ahead r)
def hits (ts : List Run) (r : Run) : List Run := ((left ts r).takeWhile (meets r)).map (through r)
def jn : List Run → List Run → List Run
  | [], _ => []
  | r :: rs, ts => hits ts r ++ jn rs (left ts r)
theorem left_suffix (ts : List Run) (r : Run) : ∃ d, ts = d ++ left ts r ∧ ∀ t ∈ d, ahead r t = true := by
  refine ⟨ts.takeWhile (ahead r), (List.takeWhile_append_dropWhile ..).symm, fun t ht => ?_⟩
  induction ts with
  | nil => cases ht
  | cons x ts ih =>
    rw [List.takeWhile_cons] at ht
    split at ht
    · rcases List.mem_cons.1 ht with rfl | ht
      · assumption
      · exact ih ht
    · cases ht
theorem left_head {ts : List Run} {r t : Run} {l : List Run} (h : left ts r = t :: l) : ahead r t = false := by
  induction ts with
  | nil => cases h
  | cons x ts ih =>
    unfold left at h ih
    rw [List.dropWhile_cons] at h
    split at h
    · exact ih h
    · cases h
      exact Bool.eq_false_iff.2 ‹_›
theorem left_all {ts : List Run} {r : Run} (hs : ts.Pairwise ltR) (hp : ∀ t ∈ ts, 0 < t.2.2) : ∀ t ∈ left ts r, r.2.1 < t.1 + t.2.2 := by
  obtain ⟨d, hd, _⟩ := left_suffix ts r
  have hs' : (left ts r).Pairwise ltR := by rw [hd] at hs; exact (List.pairwise_append.1 hs).2.1
  cases hl : left ts r with
  | nil => intro t ht; cases ht
  | cons x l =>
    have h1 := left_head hl
    rw [hl] at hs'
    intro t ht
    have hx : r.2.1 < x.1 + x.2.2 := by simpa [ahead] using h1
    rcases List.mem_cons.1 ht with rfl | ht'
    · exact hx
    · have := (List.pairwise_cons.1 hs').1 t ht'
      have hp' := hp t (by rw [hd, hl]; simp [ht'])
      unfold ltR at this
      omega
theorem take_meets {l : List Run} {r : Run} (hs : l.Pairwise ltR) (hp : ∀ t ∈ l, 0 < t.2.2) : ∀ t, t ∈ l.takeWhile (meets r) ↔ t ∈ l ∧ t.1 < r.2.1 + r.2.2 := by
  induction l with
  | nil => simp
  | cons x l ih =>
    obtain ⟨h1, h2⟩ := List.pairwise_cons.1 hs
    have hx := hp x (List.mem_cons_self ..)
    intro t
    rw [List.takeWhile_cons]
    by_cases hm : meets r x = true
    · rw [if_pos hm, List.mem_cons, ih h2 (fun t ht => hp t (List.mem_cons_of_mem _ ht)), List.mem_cons]
      have hm' : x.1 < r.2.1 + r.2.2 := by simpa [meets] using hm
      constructor
      · rintro (rfl | ⟨k1, k2⟩)
        · exact ⟨.inl rfl, hm'⟩
        · exact ⟨.inr k1, k2⟩
      · rintro ⟨rfl | k1, k2⟩
        · exact .inl rfl
        · exact .inr ⟨k1, k2⟩
    · rw [if_neg hm]
      have hm' : ¬ x.1 < r.2.1 + r.2.2 := by simpa [meets] using hm
      constructor
      · intro h; cases h
      · rintro ⟨k1, k2⟩
        rcases List.mem_cons.1 k1 with rfl | k1
        · exact absurd k2 hm'
        · have := h1 t k1
          unfold ltR at this
          omega
/-- what two runs share -/
def shared (r t : Run) : Prop := r.2.1 < t.1 + t.2.2 ∧ t.1 < r.2.1 + r.2.2
theorem mem_hits {ts : List Run} {r : Run} (hs : ts.Pairwise ltR) (hp : ∀ t ∈ ts, 0 < t.2.2) : ∀ x, x ∈ hits ts r ↔ ∃ t ∈ ts, shared r t ∧ x = through r t := by
  obtain ⟨d, hd, hd2⟩ := left_suffix ts r
  have hs' : (left ts r).Pairwise ltR := by rw [hd] at hs; exact (List.pairwise_append.1 hs).2.1
  have hp' : ∀ t ∈ left ts r, 0 < t.2.2 := fun t ht => hp t (by rw [hd]; exact List.mem_append_right _ ht)
  intro x
  unfold hits
  rw [List.mem_map]
  constructor
  · rintro ⟨t, ht, rfl⟩
    obtain ⟨k1, k2⟩ := (take_meets hs' hp' t).1 ht
    exact ⟨t, by rw [hd]; exact List.mem_append_right _ k1, ⟨left_all hs hp t k1, k2⟩, rfl⟩
  · rintro ⟨t, ht, ⟨k1, k2⟩, rfl⟩
    refine ⟨t, (take_meets hs' hp' t).2 ⟨?_, k2⟩, rfl⟩
    rw [hd] at ht
    rcases List.mem_append.1 ht with k | k
    · have := hd2 t k
      simp [ahead] at this
      omega
    · exact k
theorem jn_sub {rs ts : List Run} (hr : rs.Pairwise ltR) (hrp : ∀ r ∈ rs, 0 < r.2.2) (hs : ts.Pairwise ltR) (hp : ∀ t ∈ ts, 0 < t.2.2) : ∀ x, x ∈ jn rs ts ↔ ∃ r ∈ rs, ∃ t ∈ ts, shared r t ∧ x = through r t := by
  induction rs generalizing ts with
  | nil => intro x; simp [jn]
  | cons r rs ih =>
    obtain ⟨h1, h2⟩ := List.pairwise_cons.1 hr
    have hr0 := hrp r (List.mem_cons_self ..)
    obtain ⟨d, hd, hd2⟩ := left_suffix ts r
    have hs' : (left ts r).Pairwise ltR := by rw [hd] at hs; exact (List.pairwise_append.1 hs).2.1
    have hp' : ∀ t ∈ left ts r, 0 < t.2.2 := fun t ht => hp t (by rw [hd]; exact List.mem_append_right _ ht)
    intro x
    rw [jn, List.mem_append, mem_hits hs hp, ih h2 (fun q hq => hrp q (List.mem_cons_of_mem _ hq)) hs' hp']
    constructor
    · rintro (⟨t, ht, k, rfl⟩ | ⟨q, hq, t, ht, k, rfl⟩)
      · exact ⟨r, List.mem_cons_self .., t, ht, k, rfl⟩
      · exact ⟨q, List.mem_cons_of_mem _ hq, t, by rw [hd]; exact List.mem_append_right _ ht, k, rfl⟩
    · rintro ⟨q, hq, t, ht, k, rfl⟩
      rcases List.mem_cons.1 hq with rfl | hq
      · exact .inl ⟨t, ht, k, rfl⟩
      · refine .inr ⟨q, hq, t, ?_, k, rfl⟩
        rw [hd] at ht
        rcases List.mem_append.1 ht with j | j
        · have e1 := hd2 t j
          have e2 := h1 q hq
          simp [ahead] at e1
          unfold ltR at e2
          unfold shared at k
          omega
        · exact j
theorem hits_sorted {ts : List Run} {r : Run} (hs : ts.Pairwise ltR) : (hits ts r).Pairwise ltR := by
  obtain ⟨d, hd, hd2⟩ := left_suffix ts r
  have hs' : (left ts r).Pairwise ltR := by rw [hd] at hs; exact (List.pairwise_append.1 hs).2.1
  unfold hits
  rw [List.pairwise_map]
  have h := hs'.sublist (List.takeWhile_sublist (meets r))
  refine h.imp ?_
  intro t t' hl
  unfold ltR at *
  unfold through
  simp only
  omega
theorem ltR_or {ts : List Run} (hs : ts.Pairwise ltR) {t t' : Run} (h : t ∈ ts) (h' : t' ∈ ts) : t = t' ∨ ltR t t' ∨ ltR t' t := by
  induction hs with
  | nil => cases h
  | @cons x l h1 _ ih =>
    rcases List.mem_cons.1 h with e | k
    · rcases List.mem_cons.1 h' with e' | k'
      · exact .inl (e.trans e'.symm)
      · rw [e]; exact .inr (.inl (h1 _ k'))
    · rcases List.mem_cons.1 h' with e' | k'
      · rw [e']; exact .inr (.inr (h1 _ k))
      · exact ih k k'
theorem jn_sorted {rs ts : List Run} (hr : rs.Pairwise ltR) (hrp : ∀ r ∈ rs, 0 < r.2.2) (hs : ts.Pairwise ltR) (hp : ∀ t ∈ ts, 0 < t.2.2) : (jn rs ts).Pairwise ltR := by
  induction rs generalizing ts with
  | nil => exact List.Pairwise.nil
  | cons r rs ih =>
    obtain ⟨h1, h2⟩ := List.pairwise_cons.1 hr
    have hr0 := hrp r (List.mem_cons_self ..)
    have hrp' : ∀ q ∈ rs, 0 < q.2.2 := fun q hq => hrp q (List.mem_cons_of_mem _ hq)
    obtain ⟨d, hd, hd2⟩ := left_suffix ts r
    have hs' : (left ts r).Pairwise ltR := by rw [hd] at hs; exact (List.pairwise_append.1 hs).2.1
    have hsub : ∀ t ∈ left ts r, t ∈ ts := fun t ht => by rw [hd]; exact List.mem_append_right _ ht
    have hp' : ∀ t ∈ left ts r, 0 < t.2.2 := fun t ht => hp t (hsub t ht)
    rw [jn, List.pairwise_append]
    refine ⟨hits_sorted hs, ih h2 hrp' hs' hp', ?_⟩
    intro x hx y hy
    obtain ⟨t, ht, k, rfl⟩ := (mem_hits hs hp x).1 hx
    obtain ⟨q, hq, t', ht', k', rfl⟩ := (jn_sub h2 hrp' hs' hp' y).1 hy
    have e := h1 q hq
    have e3 := hp t ht
    have e4 := hp' t' ht'
    have e5 := hrp' q hq
    unfold ltR at e
    unfold shared at k k'
    rcases ltR_or hs ht (hsub t' ht') with rfl | e2 | e2
    · unfold ltR through; simp only; omega
    · unfold ltR at e2 ⊢; unfold through; simp only; omega
    · unfold ltR at e2 ⊢; unfold through; simp only; omega
theorem jn_exs {rs ts : List Run} (hr : rs.Pairwise ltR) (hrp : ∀ r ∈ rs, 0 < r.2.2) (hs : ts.Pairwise ltR) (hp : ∀ t ∈ ts, 0 < t.2.2) : (∀ x ∈ jn rs ts, 0 < x.2.2) ∧ exs (jn rs ts) = comp (exs rs) (exs ts) := by
  have hpos : ∀ x ∈ jn rs ts, 0 < x.2.2 := by
    intro x hx
    obtain ⟨r, hr', t, ht, k, rfl⟩ := (jn_sub hr hrp hs hp x).1 hx
    have e1 := hrp r hr'
    have e2 := hp t ht
    unfold shared at k
    unfold through
    simp only
    omega
  refine ⟨hpos, sorted_ext (exs_pairwise hpos (jn_sorted hr hrp hs hp)) (comp_pairwise (exs_pairwise hrp hr) (exs_pairwise hp hs)) fun z => ?_⟩
  rw [mem_comp]
  unfold exs
  simp only [List.mem_flatMap]
  constructor
  · rintro ⟨x, hx, hz⟩
    have hx0 := hpos x hx
    obtain ⟨r, hr', t, ht, k, rfl⟩ := (jn_sub hr hrp hs hp x).1 hx
    rw [mem_ex hx0] at hz
    have e1 := hrp r hr'
    have e2 := hp t ht
    unfold through at hz
    simp only at hz
    refine ⟨(z.1, r.2.1 + (z.1 - r.1)), ⟨r, hr', ?_⟩, (r.2.1 + (z.1 - r.1), z.2), ⟨t, ht, ?_⟩, rfl, rfl⟩
    · rw [mem_ex e1]; simp only; omega
    · rw [mem_ex e2]; simp only; omega
  · rintro ⟨p, ⟨r, hr', hpr⟩, q, ⟨t, ht, hqt⟩, e, rfl⟩
    have e1 := hrp r hr'
    have e2 := hp t ht
    rw [mem_ex e1] at hpr
    rw [mem_ex e2] at hqt
    have k : shared r t := by unfold shared; omega
    have hx := (jn_sub hr hrp hs hp (through r t)).2 ⟨r, hr', t, ht, k, rfl⟩
    refine ⟨through r t, hx, ?_⟩
    rw [mem_ex (hpos _ hx)]
    unfold through
    simp only
    omega
def joinP (s t : List Ch) (n m k : Int) : List Ch := ofR (jn (runs s n 0 0) (runs t m 0 0)) 0 0 n k
theorem join_eq {s t : List Ch} {n m k : Int} (hs : Val s n m) (ht : Val t m k) : joinP s t n m k = ofL (comp (prs s n 0 0) (prs t m 0 0)) 0 0 n k := by
  have hn := cnt_iff.1 hs.1
  have hm := cnt_iff.1 ht.1
  have hk := cnt_iff.1 ht.2.1
  obtain ⟨h1, h2⟩ := jn_exs (runs_sorted hs.2.2 hn.1 hm.1).1 (runs_pos s n 0 0) (runs_sorted ht.2.2 hm.1 hk.1).1 (runs_pos t m 0 0)
  unfold joinP
  rw [ofR_ex h1, h2]; rfl
theorem join_Val {s t : List Ch} {n m k : Int} (hs : Val s n m) (ht : Val t m k) : Val (joinP s t n m k) n k ∧ prs (joinP s t n m k) n 0 0 = comp (prs s n 0 0) (prs t m 0 0) := by
  rw [join_eq hs ht]
  exact ofL_Val hs.1 ht.2.1 (comp_rise hs.rise ht.rise)
theorem join_assoc {s t u : List Ch} {n m k l : Int} (hs : Val s n m) (ht : Val t m k) (hu : Val u k l) : joinP (joinP s t n m k) u n k l = joinP s (joinP t u m k l) n m l := by
  obtain ⟨h1, h2⟩ := join_Val hs ht
  obtain ⟨h3, h4⟩ := join_Val ht hu
  rw [join_eq h1 hu, join_eq hs h3, h2, h4, comp_assoc (rise_iff.1 hs.rise).1 (rise_iff.1 ht.rise).1 (rise_iff.1 hu.rise).1]
theorem join_inv {s t : List Ch} {n m k : Int} (hs : Val s n m) (ht : Val t m k) : (joinP s t n m k).map inv = joinP (t.map inv) (s.map inv) k m n := by
  rw [join_eq hs ht, join_eq ht.inv hs.inv, prs_inv hs.2.2, prs_inv ht.2.2, ← comp_sw (rise_iff.1 hs.rise).1 (rise_iff.1 ht.rise).1, ofL_sw]
theorem Val_none {m : Int} (h : cnt m = true) : Val [] m m := ⟨h, h, by simp [val]⟩
theorem join_none {s : List Ch} {n m : Int} (hs : Val s n m) : joinP s [] n m m = normal s n m := by
  rw [join_eq hs (Val_none hs.2.1), comp_same hs.rise, normal_eq]
end Go.Proofs.YtkolgglllladfaaGreatDoor.Ed
/-
  Plain laws on scripts held against lists of numbers: which fit, what they make.
-/
namespace Go.Proofs.YtkolgglllladfaaGreatDoor.Ed

def sl (l : List Int) (i k : Int) : List Int := (l.drop i.toNat).take k.toNat
theorem sl_length {l : List Int} {i k : Int} (hi : 0 ≤ i) (hk : 0 ≤ k) (h : i + k ≤ l.length) : ((sl l i k).length : Int) = k := by
  unfold sl
  rw [List.length_take, List.length_drop]
  omega
theorem sl_get {l : List Int} {i k : Int} {j : Nat} (hj : j < k.toNat) : (sl l i k)[j]? = l[i.toNat + j]? := by
  unfold sl
  rw [List.getElem?_take, if_pos hj, List.getElem?_drop]
def put (a : List Int) (l : List Int) (r : Run) : List Int := l.take r.2.1.toNat ++ sl a r.1 r.2.2 ++ l.drop (r.2.1 + r.2.2).toNat
def apP (rs : List Run) (a b : List Int) : List Int := rs.foldl (put a) b
def apD : List Ch → List Int → List Int → Int → List Int
  | [], a, _, x => a.drop x.toNat
  | c :: r, a, b, x => sl a x (c.a - x) ++ (sl b c.b c.m ++ apD r a b (c.a + c.n))
theorem put_at {a X Y : List Int} {x y k : Int} (hX : (X.length : Int) = y) (hk : 0 ≤ k) : put a (X ++ Y) (x, y, k) = X ++ sl a x k ++ Y.drop k.toNat := by
  unfold put
  simp only
  have e : y.toNat = X.length := by omega
  have e2 : (y + k).toNat = X.length + k.toNat := by omega
  rw [e, e2, List.take_left, List.drop_append, List.drop_eq_nil_of_le (by omega), List.nil_append, Nat.add_sub_cancel_left]
theorem put_length {a l : List Int} {r : Run} (h1 : 0 ≤ r.1) (h2 : 0 ≤ r.2.1) (h3 : 0 ≤ r.2.2) (h4 : r.1 + r.2.2 ≤ a.length) (h5 : r.2.1 + r.2.2 ≤ l.length) : (put a l r).length = l.length := by
  have := sl_length h1 h3 h4
  unfold put
  rw [List.length_append, List.length_append, List.length_take, List.length_drop]
  omega
theorem run1_put {a X Y : List Int} {x y k : Int} (hX : (X.length : Int) = y) (hk : 0 ≤ k) : (run1 x y k).foldl (put a) (X ++ Y) = X ++ sl a x k ++ Y.drop k.toNat := by
  unfold run1
  split
  · exact put_at hX hk
  · have : k = 0 := by omega
    subst this
    simp [sl]
theorem apP_eq {s : List Ch} {a b X : List Int} {x y : Int} (h : val s x y a.length b.length = true) (hx : 0 ≤ x) (hy : 0 ≤ y) (hxn : x ≤ a.length) (hym : y ≤ b.length) (hX : (X.length : Int) = y) :
    (runs s a.length x y).foldl (put a) (X ++ b.drop y.toNat) = X ++ apD s a b x := by
  induction s generalizing x y X with
  | nil =>
    have h' : (a.length : Int) - x = b.length - y := by simpa [val] using h
    rw [runs, run1_put hX (by omega), apD, List.drop_drop, List.drop_eq_nil_of_le (as := b) (by omega), List.append_nil]
    congr 1
    unfold sl
    exact List.take_of_length_le (by rw [List.length_drop]; omega)
  | cons c r ih =>
    obtain ⟨⟨h1, h2, h3, h4⟩, hr⟩ := val_cons.1 h
    rw [runs, List.foldl_append, run1_put hX (by omega), apD, List.drop_drop]
    have e : (y.toNat + (c.a - x).toNat) = c.b.toNat := by omega
    have e2 : b.drop c.b.toNat = sl b c.b c.m ++ b.drop (c.b + c.m).toNat := by
      unfold sl
      rw [show (c.b + c.m).toNat = c.b.toNat + c.m.toNat by omega, ← List.drop_drop, List.take_append_drop]
    rw [e, e2, ← List.append_assoc, ih hr (by omega) (by omega) (by omega) (by omega) ?_]
    · simp only [List.append_assoc]
    · have k1 := sl_length (l := a) (i := x) (k := c.a - x) hx (by omega) (by omega)
      have k2 := sl_length (l := b) (i := c.b) (k := c.m) (by omega) (by omega) (by omega)
      rw [List.length_append, List.length_append]
      push_cast
      omega
theorem apply_eq {s : List Ch} {a b : List Int} (h : Val s a.length b.length) : apP (runs s a.length 0 0) a b = apD s a b 0 := by
  have := apP_eq (X := []) h.2.2 (Int.le_refl _) (Int.le_refl _) (by omega) (by omega) rfl
  simpa [apP] using this

/-! ### which fit -/
def eqP (a b : List Int) (p : Pr) : Bool := a[p.1.toNat]? == b[p.2.toNat]?
def fitsP (a b : List Int) (P : List Pr) : Bool := P.all (eqP a b)
def fitR (a b : List Int) (r : Run) : Bool := sl a r.1 r.2.2 == sl b r.2.1 r.2.2
theorem exN_all (a b : List Int) (x y : Int) (k : Nat) : fitsP a b (exN x y k) = true ↔ ∀ i : Nat, i < k → a[(x + i).toNat]? = b[(y + i).toNat]? := by
  unfold fitsP
  rw [List.all_eq_true]
  constructor
  · intro h i hi
    have := h _ (List.mem_of_getElem? (exN_get x y k i hi))
    simpa [eqP] using this
  · intro h p hp
    rw [mem_exN] at hp
    have := h (p.1 - x).toNat (by omega)
    rw [show (x + ((p.1 - x).toNat : Int)).toNat = p.1.toNat by omega, show (y + ((p.1 - x).toNat : Int)).toNat = p.2.toNat by omega] at this
    simpa [eqP] using this
theorem fitR_eq {a b : List Int} {r : Run} (h1 : 0 ≤ r.1) (h2 : 0 ≤ r.2.1) : fitR a b r = fitsP a b (ex r) := by
  rw [Bool.eq_iff_iff]
  unfold ex
  rw [exN_all]
  unfold fitR
  rw [beq_iff_eq]
  constructor
  · intro h i hi
    have : (sl a r.1 r.2.2)[i]? = (sl b r.2.1 r.2.2)[i]? := by rw [h]
    rw [sl_get hi, sl_get hi] at this
    rw [show (r.1 + (i : Int)).toNat = r.1.toNat + i by omega, show (r.2.1 + (i : Int)).toNat = r.2.1.toNat + i by omega]
    exact this
  · intro h
    apply List.ext_getElem?
    intro i
    by_cases hi : i < r.2.2.toNat
    · rw [sl_get hi, sl_get hi]
      have := h i hi
      rw [show (r.1 + (i : Int)).toNat = r.1.toNat + i by omega, show (r.2.1 + (i : Int)).toNat = r.2.1.toNat + i by omega] at this
      exact this
    · rw [List.getElem?_eq_none, List.getElem?_eq_none]
      · unfold sl; rw [List.length_take]; omega
      · unfold sl; rw [List.length_take]; omega
theorem fits_exs {a b : List Int} {rs : List Run} (h : ∀ r ∈ rs, 0 ≤ r.1 ∧ 0 ≤ r.2.1 ∧ 0 < r.2.2) : rs.all (fitR a b) = fitsP a b (exs rs) := by
  induction rs with
  | nil => rfl
  | cons r rs ih =>
    obtain ⟨h1, h2, _⟩ := h r (List.mem_cons_self ..)
    rw [List.all_cons, ih (fun q hq => h q (List.mem_cons_of_mem _ hq)), fitR_eq h1 h2]
    show _ = fitsP a b (ex r ++ exs rs)
    unfold fitsP
    rw [List.all_append]
theorem Val.runsB {s : List Ch} {n m : Int} (h : Val s n m) : ∀ r ∈ runs s n 0 0, 0 ≤ r.1 ∧ 0 ≤ r.2.1 ∧ 0 < r.2.2 ∧ r.1 + r.2.2 ≤ n ∧ r.2.1 + r.2.2 ≤ m := by
  have hn := cnt_iff.1 h.1
  have hm := cnt_iff.1 h.2.1
  intro r hr
  have h1 := (runs_sorted h.2.2 hn.1 hm.1).2 r hr
  have h2 := runs_pos s n 0 0 r hr
  exact ⟨h1.1, h1.2.1, h2, h1.2.2.1, h1.2.2.2⟩
theorem fits_eq {s : List Ch} {n m : Int} {a b : List Int} (h : Val s n m) : (runs s n 0 0).all (fitR a b) = fitsP a b (prs s n 0 0) :=
  fits_exs fun r hr => ⟨(h.runsB r hr).1, (h.runsB r hr).2.1, (h.runsB r hr).2.2.1⟩
theorem fits_comp {a b c : List Int} {P Q : List Pr} (hP : fitsP a b P = true) (hQ : fitsP b c Q = true) : fitsP a c (comp P Q) = true := by
  unfold fitsP at *
  rw [List.all_eq_true] at *
  intro z hz
  obtain ⟨p, hp, q, hq, e, rfl⟩ := mem_comp.1 hz
  have h1 := hP p hp
  have h2 := hQ q hq
  unfold eqP at *
  rw [beq_iff_eq] at *
  rw [h1, ← e, h2]
theorem fits_sw {a b : List Int} {P : List Pr} (hP : fitsP a b P = true) : fitsP b a (P.map sw) = true := by
  unfold fitsP at *
  rw [List.all_eq_true] at *
  intro z hz
  have := hP _ (mem_sw.1 hz)
  unfold eqP sw at *
  rw [beq_iff_eq] at *
  exact this.symm
theorem put_fit {a l : List Int} {r : Run} (h2 : 0 ≤ r.2.1) (h3 : 0 ≤ r.2.2) (h : fitR a l r = true) : put a l r = l := by
  unfold fitR at h
  rw [beq_iff_eq] at h
  unfold put
  rw [h]
  unfold sl
  rw [show (r.2.1 + r.2.2).toNat = r.2.1.toNat + r.2.2.toNat by omega, ← List.drop_drop, List.append_assoc, List.take_append_drop, List.take_append_drop]
theorem apP_fit {rs : List Run} {a b : List Int} (h : ∀ r ∈ rs, 0 ≤ r.2.1 ∧ 0 < r.2.2) (hf : rs.all (fitR a b) = true) : apP rs a b = b := by
  unfold apP
  induction rs with
  | nil => rfl
  | cons r rs ih =>
    rw [List.all_cons, Bool.and_eq_true] at hf
    have := h r (List.mem_cons_self ..)
    rw [List.foldl_cons, put_fit this.1 (by omega) hf.1]
    exact ih (fun q hq => h q (List.mem_cons_of_mem _ hq)) hf.2
/-- where a script fits it makes the second list -/
theorem apply_fit {s : List Ch} {a b : List Int} (h : Val s a.length b.length) (hf : fitsP a b (prs s a.length 0 0) = true) : apP (runs s a.length 0 0) a b = b := by
  rw [← fits_eq h] at hf
  exact apP_fit (fun r hr => ⟨(h.runsB r hr).2.1, (h.runsB r hr).2.2.1⟩) hf
end Go.Proofs.YtkolgglllladfaaGreatDoor.Ed
