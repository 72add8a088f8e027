/-
  Normal and Pairs with Valid's error.
-/
import Derived.Test.YtjgjfnmljmmplaaDoorD5
import Derived.Test.YtjgjfnmljmmplaaDoorD6
namespace Go.Proofs.YtjgjfnmljmmplaaDoor
open Go.RowKit
open Ed (Ch Run Pr)

/-- the normal script, the pairs, where s is a script -/
def nrmA (s : List Ch) (n m : Int) : List Ch := if Ed.validN s n m = 0 then Ed.normal s n m else []
def prsA (s : List Ch) (n m : Int) : List Pr := if Ed.validN s n m = 0 then Ed.prs s n 0 0 else []
set_option maxHeartbeats 1000000 in
theorem normal_all {v : Value} {s : List Ch} {n m : Int} {w : World} (hr : RdC w v s) (hwf : ∀ c ∈ s, WfC c) (hl : s.length ≤ 10000000000000) :
    Calls Tryd.prog 17 #[v, .int .i64 n, .int .i64 m] w fun e w' => ∃ v', e = .returned (.tuple #[v', errV (Ed.validN s n m)]) ∧ OwnC w' w.heap.size v' (nrmA s n m) ∧ Below w.heap.size w w' := by
  by_cases hk : Ed.validN s n m = 0
  · have e : nrmA s n m = Ed.normal s n m := by unfold nrmA; rw [if_pos hk]
    rw [e, hk, errV_zero]
    exact normal_any hr hwf (Ed.validN_zero.1 hk)
  · have e : nrmA s n m = [] := by unfold nrmA; rw [if_neg hk]
    rw [e]
    have HC := hid (valid_any (n := n) (m := m) hr hwf hl)
    obtain ⟨a, c, rfl⟩ := hr.shape
    generalize Ed.validN s n m = k at HC hk
    have he : errV k = .iface 50 (.int .i64 k) := by unfold errV; rw [if_neg hk]
    rw [he] at HC ⊢
    clear hr hwf he e hk
    go_enter Tryd.func17, Tryd.ntmps17
    go_wp2_with fail
    refine HC.out.mono ?_
    rintro e w1 ⟨rfl, hb1⟩
    have HB := hid hb1
    clear hb1
    go_wp2
    go_ret2
    exact ⟨_, rfl, World.ownsRow_nil _ _ _ _, HB.out⟩
end Go.Proofs.YtjgjfnmljmmplaaDoor
