/-
  The walks of Cost, and of the document's Valid and Cost.
-/
import Derived.Test.YtjgjfnmljmmplaaDoorC5
namespace Go.Proofs.YtjgjfnmljmmplaaDoor
open Go.RowKit
open Ed (Ch Run Pr)

theorem costO_at {s : List Ch} {k : Nat} {c : Ch} {x y : Int} (h : s[k]? = some c) : Ed.costO (s.drop k) x y = if c.a < 0 ∨ c.n < 0 ∨ c.b < 0 ∨ c.m < 0 ∨ 4611686018427387904 - x < c.n ∨ 4611686018427387904 - y < c.m then none else Ed.costO (s.drop (k + 1)) (x + c.n) (y + c.m) := by
  rw [drop_at h]; rfl
theorem min_neg (a n b m : Int) : (if m < (if b < (if n < a then n else a) then b else (if n < a then n else a)) then m else (if b < (if n < a then n else a) then b else (if n < a then n else a))) < 0 ↔ (a < 0 ∨ n < 0 ∨ b < 0 ∨ m < 0) := by
  (repeat' split) <;> omega
theorem run_min2 (x y : Int) (w : World) : (Builtin.min2 (.int .i64 x) (.int .i64 y)).run Tryd.prog w = .ok (.int .i64 (if y < x then y else x)) w := by
  by_cases h : y < x <;> simp [Builtin.min2, go_sem, h]
theorem run_min4 (a n b m : Int) (w : World) : (Builtin.min_ #[3, 3, 3, 3] 3 #[.int .i64 a, .int .i64 n, .int .i64 b, .int .i64 m]).run Tryd.prog w = .ok (.int .i64 (if m < (if b < (if n < a then n else a) then b else (if n < a then n else a)) then m else (if b < (if n < a then n else a) then b else (if n < a then n else a)))) w := by
  simp [Builtin.min_, go_sem, run_min2]
theorem cost_none {s : List Ch} (h : Ed.costO s 0 0 = none) : Ed.costP s = (0, 0) := by unfold Ed.costP; rw [h]; rfl
theorem cost_some {s : List Ch} {x y : Int} (h : Ed.costO s 0 0 = some (x, y)) : Ed.costP s = (x, y) := by unfold Ed.costP; rw [h]; rfl
theorem ret_two {a b : Value} {p q : Int} (h1 : a = .int .i64 p) (h2 : b = .int .i64 q) : Ending.returned (.tuple #[a, b]) = .returned (.tuple #[.int .i64 p, .int .i64 q]) := by rw [h1, h2]

end Go.Proofs.YtjgjfnmljmmplaaDoor
