/-
  Several texts in one: D7, D1.
-/
import Derived.Test.YtmomeemkdfoklaaDoorD5
import Derived.Test.YtmomeemkdfoklaaDoorD6
import Derived.Test.YtmomeemkdfoklaaDoorC4
/-
  Normal and Pairs with Valid's error.
-/
namespace Go.Proofs.YtmomeemkdfoklaaDoor
open Go.RowKit
open Ed (Ch Run Pr)

/-- the normal script, the pairs, where s is a script -/
def nrmA (s : List Ch) (n m : Int) : List Ch := if Ed.validN s n m = 0 then Ed.normal s n m else []
def prsA (s : List Ch) (n m : Int) : List Pr := if Ed.validN s n m = 0 then Ed.prs s n 0 0 else []
set_option maxHeartbeats 1000000 in
theorem normal_all {v : Value} {s : List Ch} {n m : Int} {w : World} (hr : RdC w v s) (hwf : ∀ c ∈ s, WfC c) (hl : s.length ≤ 10000000000000) :
    Calls Tryd.prog 17 #[v, .int .i64 n, .int .i64 m] w fun e w' => ∃ v', e = .returned (.tuple #[v', errV (Ed.validN s n m)]) ∧ OwnC w' w.heap.size v' (nrmA s n m) ∧ Below w.heap.size w w' := by
  by_cases hk : Ed.validN s n m = 0
  · have e : nrmA s n m = Ed.normal s n m := by unfold nrmA; rw [if_pos hk]
    rw [e, hk, errV_zero]
    exact normal_any hr hwf (Ed.validN_zero.1 hk)
  · have e : nrmA s n m = [] := by unfold nrmA; rw [if_neg hk]
    rw [e]
    have HC := hid (valid_any (n := n) (m := m) hr hwf hl)
    obtain ⟨a, c, rfl⟩ := hr.shape
    generalize Ed.validN s n m = k at HC hk
    have he : errV k = .iface 60 (.int .i64 k) := by unfold errV; rw [if_neg hk]
    rw [he] at HC ⊢
    clear hr hwf he e hk
    go_enter Tryd.func17, Tryd.ntmps17
    go_wp2_with fail
    refine HC.out.mono ?_
    rintro e w1 ⟨rfl, hb1⟩
    have HB := hid hb1
    clear hb1
    go_wp2
    go_ret2
    exact ⟨_, rfl, World.ownsRow_nil _ _ _ _, HB.out⟩
end Go.Proofs.YtmomeemkdfoklaaDoor
/-
  The walk of Of.
-/
namespace Go.Proofs.YtmomeemkdfoklaaDoor
open Go.RowKit
open Ed (Ch Run Pr)

def toR (p : Pr) : Run := (p.1, p.2, 1)
def WfP (p : Pr) : Prop := I64 p.1 ∧ I64 p.2
def ofN (P : List Pr) (n m : Int) : Nat := if Ed.cnt n && Ed.cnt m then (if Ed.rise P 0 0 n m then 0 else 60) else 1
theorem ofR_pairs (P : List Pr) : ∀ a b n m : Int, Ed.ofR (P.map toR) a b n m = Ed.ofL P a b n m := by
  induction P with
  | nil => intro a b n m; rfl
  | cons p P ih =>
    intro a b n m
    rw [List.map_cons, Ed.ofR, Ed.ofL, ih]
    rfl
theorem take_map {P : List Pr} {k : Nat} {p : Pr} (h : P[k]? = some p) : (P.take (k + 1)).map toR = (P.take k).map toR ++ [toR p] := by
  rw [List.take_add_one, h]; simp
/-- the writer after k pairs -/
def OfI (B g : Nat) (P : List Pr) (n m : Int) (k : Nat) (a b : Int) (w : World) : Prop :=
  (∃ X, WrAt B g (wrC ((P.take k).map toR)) X w) ∧ (wrC ((P.take k).map toR)).2.1 = a ∧ (wrC ((P.take k).map toR)).2.2 = b ∧ Ed.rise P 0 0 n m = Ed.rise (P.drop k) a b n m

end Go.Proofs.YtmomeemkdfoklaaDoor
