/-
  Hunks, plain: rows, sides, which hunks may be, which may stand one behind the other. No program, no world.
-/
import Derived.Test.YtnbonghlmdnabaaDoorXPl
namespace Go.Proofs.YtnbonghlmdnabaaDoor.Hu
open Go

structure Rw where
  k : Int
  t : ByteArray
structure Hk where
  a : Int
  n : Int
  b : Int
  m : Int
  head : ByteArray
  rows : List Rw

/-- of the old side, of the new one, of one alone -/
def isO (r : Rw) : Bool := r.k == 1 || r.k == 2
def isF (r : Rw) : Bool := r.k == 1 || r.k == 3
def isC (r : Rw) : Bool := r.k == 2 || r.k == 3
def olds (l : List Rw) : List ByteArray := (l.filter isO).map Rw.t
def fres (l : List Rw) : List ByteArray := (l.filter isF).map Rw.t
def whT (x : ByteArray) : Bool := Pl.wh x.data.toList
def okT (x : ByteArray) : Bool := Pl.ok1 x.data.toList
def valS (xs : List ByteArray) : Bool := Pl.valid (xs.map (·.data.toList))
theorem olds_cons (r : Rw) (l : List Rw) : olds (r :: l) = if isO r then r.t :: olds l else olds l := by
  unfold olds
  rw [List.filter_cons]
  split <;> rfl
theorem fres_cons (r : Rw) (l : List Rw) : fres (r :: l) = if isF r then r.t :: fres l else fres l := by
  unfold fres
  rw [List.filter_cons]
  split <;> rfl
theorem olds_app (l m : List Rw) : olds (l ++ m) = olds l ++ olds m := by unfold olds; rw [List.filter_append, List.map_append]
theorem fres_app (l m : List Rw) : fres (l ++ m) = fres l ++ fres m := by unfold fres; rw [List.filter_append, List.map_append]
theorem olds_len (l : List Rw) : (olds l).length ≤ l.length := by unfold olds; rw [List.length_map]; exact List.length_filter_le _ _
theorem fres_len (l : List Rw) : (fres l).length ≤ l.length := by unfold fres; rw [List.length_map]; exact List.length_filter_le _ _
theorem valS_nil : valS [] = true := rfl
theorem valS_cons (x : ByteArray) (r : List ByteArray) : valS (x :: r) = (okT x && (r.isEmpty || whT x) && valS r) := by
  unfold valS okT whT
  rw [List.map_cons]
  cases h1 : Pl.ok1 x.data.toList with
  | false => rw [Pl.valid_bad1 _ _ h1]; simp
  | true =>
    cases h2 : Pl.wh x.data.toList with
    | true => rw [Pl.valid_good _ _ h1 (.inr h2)]; simp
    | false =>
      cases r with
      | nil => rw [Pl.valid_good _ (List.map (fun x : ByteArray => x.data.toList) []) h1 (.inl rfl)]; simp
      | cons y r => rw [Pl.valid_bad2 _ _ (by simp) h2]; simp
/-- lines of a text behind a line that is whole or not -/
def valE (e : Bool) (xs : List ByteArray) : Bool := (!e || xs.isEmpty) && valS xs
theorem valE_false (xs : List ByteArray) : valE false xs = valS xs := by simp [valE]
theorem valE_cons (e : Bool) (x : ByteArray) (r : List ByteArray) : valE e (x :: r) = (!e && okT x && valE (!whT x) r) := by
  unfold valE
  rw [valS_cons]
  cases e <;> cases okT x <;> cases whT x <;> cases r.isEmpty <;> simp

/-! ### which may be -/
def areR (l : List Rw) : Bool := l.all (fun r => r.k == 1 || isC r) && l.any isC
def side (at' n : Int) (s : List ByteArray) : Bool := n == (s.length : Int) && (decide (min n 1 ≤ at') && (decide (at' ≤ 2147483647 - n) && valS s))
def headOk (h : ByteArray) : Bool := decide (h.size ≤ 4096) && !h.data.toList.contains 10
def vld (h : Hk) : Bool := areR h.rows && (side h.a h.n (olds h.rows) && (side h.b h.m (fres h.rows) && headOk h.head))
/-- as the document goes through the rows -/
def rowsD : List Rw → Bool → Bool → Bool → Bool
  | [], _, _, ch => ch
  | r :: l, en, ov, ch => if (!isO r && !isF r) || !okT r.t || (isO r && en) || (isF r && ov) then false else rowsD l (en || (!whT r.t && isO r)) (ov || (!whT r.t && isF r)) (ch || !(r.k == 1))
theorem kinds (r : Rw) : (isO r = true ∧ isF r = true ∧ isC r = false ∧ (r.k == 1) = true) ∨ (isO r = true ∧ isF r = false ∧ isC r = true ∧ (r.k == 1) = false) ∨ (isO r = false ∧ isF r = true ∧ isC r = true ∧ (r.k == 1) = false) ∨ (isO r = false ∧ isF r = false ∧ isC r = false ∧ (r.k == 1) = false) := by
  unfold isO isF isC
  by_cases h1 : r.k = 1
  · rw [h1]; simp
  · by_cases h2 : r.k = 2
    · rw [h2]; simp
    · by_cases h3 : r.k = 3
      · rw [h3]; simp
      · simp [h1, h2, h3]
theorem rowsD_eq (l : List Rw) : ∀ en ov ch, rowsD l en ov ch = (l.all (fun r => r.k == 1 || isC r) && (valE en (olds l) && (valE ov (fres l) && (ch || l.any isC)))) := by
  induction l with
  | nil => intro en ov ch; simp [rowsD, olds, fres, valE, valS_nil]
  | cons r l ih =>
    intro en ov ch
    rw [rowsD, ih, olds_cons, fres_cons, List.all_cons, List.any_cons]
    rcases kinds r with ⟨h1, h2, h3, h4⟩ | ⟨h1, h2, h3, h4⟩ | ⟨h1, h2, h3, h4⟩ | ⟨h1, h2, h3, h4⟩ <;> rw [h1, h2, h3, h4] <;> simp only [Bool.not_true, Bool.not_false, Bool.and_true, Bool.and_false, Bool.true_and, Bool.false_and, Bool.or_false, Bool.false_or, Bool.true_or, Bool.or_true, if_true, Bool.false_eq_true, if_false]
    · rw [valE_cons, valE_cons]
      cases en <;> cases ov <;> cases okT r.t <;> simp
    · rw [valE_cons]
      cases en <;> cases okT r.t <;> simp
    · rw [valE_cons]
      cases ov <;> cases okT r.t <;> simp
theorem and4 (a b c d : Bool) : (a && (b && (c && d))) = (a && d && b && c) := by cases a <;> cases b <;> cases c <;> cases d <;> rfl
def startD (a n : Int) : Bool := decide ((if n = 0 then 0 else 1) ≤ a) && decide (a ≤ 2147483647 - n)
def vldD (h : Hk) : Bool := rowsD h.rows false false false && (h.n == ((olds h.rows).length : Int) && (h.m == ((fres h.rows).length : Int) && (startD h.a (olds h.rows).length && (startD h.b (fres h.rows).length && headOk h.head))))
theorem vld_eq (h : Hk) : vldD h = vld h := by
  unfold vldD vld areR side startD
  rw [rowsD_eq, valE_false, valE_false]
  by_cases h1 : h.n = ((olds h.rows).length : Int)
  · by_cases h2 : h.m = ((fres h.rows).length : Int)
    · rw [h1, h2]
      have e1 : ∀ k : Nat, (if (k : Int) = 0 then (0 : Int) else 1) = min (k : Int) 1 := fun k => by split <;> omega
      rw [e1, e1]
      simp only [beq_self_eq_true, Bool.true_and, Bool.false_or]
      generalize l1 : List.all h.rows (fun r => r.k == 1 || isC r) = b1
      generalize l2 : List.any h.rows isC = b2
      generalize valS (olds h.rows) = b3
      generalize valS (fres h.rows) = b4
      generalize headOk h.head = b5
      cases b1 <;> cases b2 <;> cases b3 <;> cases b4 <;> cases b5 <;> simp
    · have e : (h.m == ((fres h.rows).length : Int)) = false := by rw [beq_eq_false_iff_ne]; exact h2
      rw [e]; simp
  · have e : (h.n == ((olds h.rows).length : Int)) = false := by rw [beq_eq_false_iff_ne]; exact h1
    rw [e]; simp
theorem vld_parts {h : Hk} (hv : vld h = true) : areR h.rows = true ∧ h.n = (olds h.rows).length ∧ min h.n 1 ≤ h.a ∧ h.a ≤ 2147483647 - h.n ∧ valS (olds h.rows) = true ∧ h.m = (fres h.rows).length ∧ min h.m 1 ≤ h.b ∧ h.b ≤ 2147483647 - h.m ∧ valS (fres h.rows) = true ∧ headOk h.head = true := by
  unfold vld side at hv
  simp only [Bool.and_eq_true, beq_iff_eq, decide_eq_true_eq] at hv
  obtain ⟨h1, ⟨h2, h3, h4, h5⟩, ⟨h6, h7, h8, h9⟩, h10⟩ := hv
  exact ⟨h1, h2, h3, h4, h5, h6, h7, h8, h9, h10⟩

/-! ### one behind the other -/
def plc (a n : Int) : Int := if 0 < n then a - 1 else a
/-- the last line is not whole -/
def lack (s : List ByteArray) : Bool := match s.getLast? with
  | none => false
  | some x => !whT x
theorem lack_any : ∀ {s : List ByteArray}, valS s = true → s.any (fun x => !whT x) = lack s
  | [], _ => rfl
  | [x], _ => by simp [lack]
  | x :: y :: r, h => by
    rw [valS_cons] at h
    simp only [Bool.and_eq_true, List.isEmpty_cons, Bool.false_or] at h
    have := lack_any (s := y :: r) h.2
    rw [List.any_cons, this, h.1.2]
    unfold lack
    rw [List.getLast?_cons_cons]
    simp
def ordP : List Hk → Int → Int → Bool → Bool → Bool
  | [], _, _, _, _ => true
  | h :: l, x, y, en, ov => if plc h.a h.n < x ∨ plc h.a h.n - x ≠ plc h.b h.m - y ∨ (en = true ∧ 0 < h.n) ∨ (ov = true ∧ 0 < h.m) then false else ordP l (plc h.a h.n + h.n) (plc h.b h.m + h.m) (en || lack (olds h.rows)) (ov || lack (fres h.rows))
def part (o : Rw → Bool) (l : List Rw) : Bool := l.any fun r => !whT r.t && o r
theorem part_olds (l : List Rw) : part isO l = (olds l).any fun x => !whT x := by
  induction l with
  | nil => rfl
  | cons r l ih =>
    unfold part at ih ⊢
    rw [List.any_cons, ih, olds_cons]
    cases isO r <;> simp
theorem part_fres (l : List Rw) : part isF l = (fres l).any fun x => !whT x := by
  induction l with
  | nil => rfl
  | cons r l ih =>
    unfold part at ih ⊢
    rw [List.any_cons, ih, fres_cons]
    cases isF r <;> simp
def orderN (l : List Hk) : Nat := if l.all vld then (if ordP l 0 0 false false then 0 else 112) else 100
end Go.Proofs.YtnbonghlmdnabaaDoor.Hu
