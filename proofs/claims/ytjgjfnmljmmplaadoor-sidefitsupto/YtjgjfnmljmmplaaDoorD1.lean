/-
  The walk of Of.
-/
import Derived.Test.YtjgjfnmljmmplaaDoorC4
namespace Go.Proofs.YtjgjfnmljmmplaaDoor
open Go.RowKit
open Ed (Ch Run Pr)

def toR (p : Pr) : Run := (p.1, p.2, 1)
def WfP (p : Pr) : Prop := I64 p.1 ∧ I64 p.2
def ofN (P : List Pr) (n m : Int) : Nat := if Ed.cnt n && Ed.cnt m then (if Ed.rise P 0 0 n m then 0 else 60) else 1
theorem ofR_pairs (P : List Pr) : ∀ a b n m : Int, Ed.ofR (P.map toR) a b n m = Ed.ofL P a b n m := by
  induction P with
  | nil => intro a b n m; rfl
  | cons p P ih =>
    intro a b n m
    rw [List.map_cons, Ed.ofR, Ed.ofL, ih]
    rfl
theorem take_map {P : List Pr} {k : Nat} {p : Pr} (h : P[k]? = some p) : (P.take (k + 1)).map toR = (P.take k).map toR ++ [toR p] := by
  rw [List.take_add_one, h]; simp
/-- the writer after k pairs -/
def OfI (B g : Nat) (P : List Pr) (n m : Int) (k : Nat) (a b : Int) (w : World) : Prop :=
  (∃ X, WrAt B g (wrC ((P.take k).map toR)) X w) ∧ (wrC ((P.take k).map toR)).2.1 = a ∧ (wrC ((P.take k).map toR)).2.2 = b ∧ Ed.rise P 0 0 n m = Ed.rise (P.drop k) a b n m

end Go.Proofs.YtjgjfnmljmmplaaDoor
