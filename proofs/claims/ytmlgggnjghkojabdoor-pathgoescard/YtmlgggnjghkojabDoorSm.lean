/-
  The walk of same: two lists of strings, held against each other; num of an error by its number.
-/
import Derived.Test.YtmlgggnjghkojabDoorP3
import Derived.Test.YtmlgggnjghkojabDoorNum
namespace Go.Proofs.YtmlgggnjghkojabDoor
open Go.RowKit

theorem num_errV (n : Nat) (w : World) (hg : ErrVar w) : Calls Tryd.prog 9 #[errV n] w fun e w' => e = .returned (.int .i64 n) ∧ Below w.heap.size w w' := by
  by_cases h : n = 0
  · subst h; exact num_nil w
  · rw [errV_pos h]; exact num_errno n w hg

end Go.Proofs.YtmlgggnjghkojabDoor
