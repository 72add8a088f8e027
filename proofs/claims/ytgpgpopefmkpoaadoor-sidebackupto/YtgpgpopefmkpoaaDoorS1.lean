/-
  The walks of the program's kindOf, firstLength, and of the document's class.
-/
import Derived.Test.YtgpgpopefmkpoaaDoorSa
namespace Go.Proofs.YtgpgpopefmkpoaaDoor
open Go.RowKit

theorem ret_int {a b : Int} (h : a = b) : Ending.returned (.int .i64 a) = .returned (.int .i64 b) := by rw [h]
theorem byte_parts (n : Nat) (h : n < 256) : (0 ≤ n ∧ n ≤ 8) ∨ (9 ≤ n ∧ n ≤ 9) ∨ (10 ≤ n ∧ n ≤ 31) ∨ (32 ≤ n ∧ n ≤ 32) ∨ (33 ≤ n ∧ n ≤ 47) ∨ (48 ≤ n ∧ n ≤ 57) ∨ (58 ≤ n ∧ n ≤ 64) ∨ (65 ≤ n ∧ n ≤ 90) ∨ (91 ≤ n ∧ n ≤ 94) ∨ (95 ≤ n ∧ n ≤ 95) ∨ (96 ≤ n ∧ n ≤ 96) ∨ (97 ≤ n ∧ n ≤ 122) ∨ (123 ≤ n ∧ n ≤ 127) ∨ (128 ≤ n ∧ n ≤ 255) := by omega

set_option maxHeartbeats 4000000 in
theorem kindOf_any (c : UInt8) (w : World) :
    Calls Tryd.prog 84 #[.int .u8 c.toNat] w fun e w' => e = .returned (.int .i64 (Sd.kdN c.toNat : Nat)) ∧ w' = w := by
  have hp := byte_parts c.toNat c.toNat_lt
  generalize c.toNat = n at hp ⊢
  rcases hp with ⟨h1, h2⟩ | ⟨h1, h2⟩ | ⟨h1, h2⟩ | ⟨h1, h2⟩ | ⟨h1, h2⟩ | ⟨h1, h2⟩ | ⟨h1, h2⟩ | ⟨h1, h2⟩ | ⟨h1, h2⟩ | ⟨h1, h2⟩ | ⟨h1, h2⟩ | ⟨h1, h2⟩ | ⟨h1, h2⟩ | ⟨h1, h2⟩
  · have HR : Hid (((2 : Nat) : Int) = ((Sd.kdN n : Nat) : Int)) := hid (by
      unfold Sd.kdN
      rw [if_neg (by omega), if_neg (by omega)])
    have g97 : decide ((97 : Int) ≤ (n : Int)) = false := by rw [decide_eq_false_iff_not]; omega
    have l122 : decide ((n : Int) ≤ (122 : Int)) = true := by rw [decide_eq_true_eq]; omega
    have g65 : decide ((65 : Int) ≤ (n : Int)) = false := by rw [decide_eq_false_iff_not]; omega
    have l90 : decide ((n : Int) ≤ (90 : Int)) = true := by rw [decide_eq_true_eq]; omega
    have g48 : decide ((48 : Int) ≤ (n : Int)) = false := by rw [decide_eq_false_iff_not]; omega
    have l57 : decide ((n : Int) ≤ (57 : Int)) = true := by rw [decide_eq_true_eq]; omega
    have g128 : decide ((128 : Int) ≤ (n : Int)) = false := by rw [decide_eq_false_iff_not]; omega
    have e95 : ((n : Int) == (95 : Int)) = false := by rw [beq_eq_false_iff_ne]; omega
    have e32 : ((n : Int) == (32 : Int)) = false := by rw [beq_eq_false_iff_ne]; omega
    have e9 : ((n : Int) == (9 : Int)) = false := by rw [beq_eq_false_iff_ne]; omega
    go_enter Tryd.func84, Tryd.ntmps84
    go_wp2
    go_ret
    exact ⟨ret_int HR.out, rfl⟩
  · have hn : n = 9 := by omega
    subst hn
    clear h1 h2
    go_enter Tryd.func84, Tryd.ntmps84
    go_wp2
    go_ret
    exact ⟨rfl, rfl⟩
  · have HR : Hid (((2 : Nat) : Int) = ((Sd.kdN n : Nat) : Int)) := hid (by
      unfold Sd.kdN
      rw [if_neg (by omega), if_neg (by omega)])
    have g97 : decide ((97 : Int) ≤ (n : Int)) = false := by rw [decide_eq_false_iff_not]; omega
    have l122 : decide ((n : Int) ≤ (122 : Int)) = true := by rw [decide_eq_true_eq]; omega
    have g65 : decide ((65 : Int) ≤ (n : Int)) = false := by rw [decide_eq_false_iff_not]; omega
    have l90 : decide ((n : Int) ≤ (90 : Int)) = true := by rw [decide_eq_true_eq]; omega
    have g48 : decide ((48 : Int) ≤ (n : Int)) = false := by rw [decide_eq_false_iff_not]; omega
    have l57 : decide ((n : Int) ≤ (57 : Int)) = true := by rw [decide_eq_true_eq]; omega
    have g128 : decide ((128 : Int) ≤ (n : Int)) = false := by rw [decide_eq_false_iff_not]; omega
    have e95 : ((n : Int) == (95 : Int)) = false := by rw [beq_eq_false_iff_ne]; omega
    have e32 : ((n : Int) == (32 : Int)) = false := by rw [beq_eq_false_iff_ne]; omega
    have e9 : ((n : Int) == (9 : Int)) = false := by rw [beq_eq_false_iff_ne]; omega
    go_enter Tryd.func84, Tryd.ntmps84
    go_wp2
    go_ret
    exact ⟨ret_int HR.out, rfl⟩
  · have hn : n = 32 := by omega
    subst hn
    clear h1 h2
    go_enter Tryd.func84, Tryd.ntmps84
    go_wp2
    go_ret
    exact ⟨rfl, rfl⟩
  · have HR : Hid (((2 : Nat) : Int) = ((Sd.kdN n : Nat) : Int)) := hid (by
      unfold Sd.kdN
      rw [if_neg (by omega), if_neg (by omega)])
    have g97 : decide ((97 : Int) ≤ (n : Int)) = false := by rw [decide_eq_false_iff_not]; omega
    have l122 : decide ((n : Int) ≤ (122 : Int)) = true := by rw [decide_eq_true_eq]; omega
    have g65 : decide ((65 : Int) ≤ (n : Int)) = false := by rw [decide_eq_false_iff_not]; omega
    have l90 : decide ((n : Int) ≤ (90 : Int)) = true := by rw [decide_eq_true_eq]; omega
    have g48 : decide ((48 : Int) ≤ (n : Int)) = false := by rw [decide_eq_false_iff_not]; omega
    have l57 : decide ((n : Int) ≤ (57 : Int)) = true := by rw [decide_eq_true_eq]; omega
    have g128 : decide ((128 : Int) ≤ (n : Int)) = false := by rw [decide_eq_false_iff_not]; omega
    have e95 : ((n : Int) == (95 : Int)) = false := by rw [beq_eq_false_iff_ne]; omega
    have e32 : ((n : Int) == (32 : Int)) = false := by rw [beq_eq_false_iff_ne]; omega
    have e9 : ((n : Int) == (9 : Int)) = false := by rw [beq_eq_false_iff_ne]; omega
    go_enter Tryd.func84, Tryd.ntmps84
    go_wp2
    go_ret
    exact ⟨ret_int HR.out, rfl⟩
  · have HR : Hid (((0 : Nat) : Int) = ((Sd.kdN n : Nat) : Int)) := hid (by
      unfold Sd.kdN
      rw [if_pos (by omega)])
    have g97 : decide ((97 : Int) ≤ (n : Int)) = false := by rw [decide_eq_false_iff_not]; omega
    have l122 : decide ((n : Int) ≤ (122 : Int)) = true := by rw [decide_eq_true_eq]; omega
    have g65 : decide ((65 : Int) ≤ (n : Int)) = false := by rw [decide_eq_false_iff_not]; omega
    have l90 : decide ((n : Int) ≤ (90 : Int)) = true := by rw [decide_eq_true_eq]; omega
    have g48 : decide ((48 : Int) ≤ (n : Int)) = true := by rw [decide_eq_true_eq]; omega
    have l57 : decide ((n : Int) ≤ (57 : Int)) = true := by rw [decide_eq_true_eq]; omega
    have g128 : decide ((128 : Int) ≤ (n : Int)) = false := by rw [decide_eq_false_iff_not]; omega
    have e95 : ((n : Int) == (95 : Int)) = false := by rw [beq_eq_false_iff_ne]; omega
    have e32 : ((n : Int) == (32 : Int)) = false := by rw [beq_eq_false_iff_ne]; omega
    have e9 : ((n : Int) == (9 : Int)) = false := by rw [beq_eq_false_iff_ne]; omega
    go_enter Tryd.func84, Tryd.ntmps84
    go_wp2
    go_ret
    exact ⟨ret_int HR.out, rfl⟩
  · have HR : Hid (((2 : Nat) : Int) = ((Sd.kdN n : Nat) : Int)) := hid (by
      unfold Sd.kdN
      rw [if_neg (by omega), if_neg (by omega)])
    have g97 : decide ((97 : Int) ≤ (n : Int)) = false := by rw [decide_eq_false_iff_not]; omega
    have l122 : decide ((n : Int) ≤ (122 : Int)) = true := by rw [decide_eq_true_eq]; omega
    have g65 : decide ((65 : Int) ≤ (n : Int)) = false := by rw [decide_eq_false_iff_not]; omega
    have l90 : decide ((n : Int) ≤ (90 : Int)) = true := by rw [decide_eq_true_eq]; omega
    have g48 : decide ((48 : Int) ≤ (n : Int)) = true := by rw [decide_eq_true_eq]; omega
    have l57 : decide ((n : Int) ≤ (57 : Int)) = false := by rw [decide_eq_false_iff_not]; omega
    have g128 : decide ((128 : Int) ≤ (n : Int)) = false := by rw [decide_eq_false_iff_not]; omega
    have e95 : ((n : Int) == (95 : Int)) = false := by rw [beq_eq_false_iff_ne]; omega
    have e32 : ((n : Int) == (32 : Int)) = false := by rw [beq_eq_false_iff_ne]; omega
    have e9 : ((n : Int) == (9 : Int)) = false := by rw [beq_eq_false_iff_ne]; omega
    go_enter Tryd.func84, Tryd.ntmps84
    go_wp2
    go_ret
    exact ⟨ret_int HR.out, rfl⟩
  · have HR : Hid (((0 : Nat) : Int) = ((Sd.kdN n : Nat) : Int)) := hid (by
      unfold Sd.kdN
      rw [if_pos (by omega)])
    have g97 : decide ((97 : Int) ≤ (n : Int)) = false := by rw [decide_eq_false_iff_not]; omega
    have l122 : decide ((n : Int) ≤ (122 : Int)) = true := by rw [decide_eq_true_eq]; omega
    have g65 : decide ((65 : Int) ≤ (n : Int)) = true := by rw [decide_eq_true_eq]; omega
    have l90 : decide ((n : Int) ≤ (90 : Int)) = true := by rw [decide_eq_true_eq]; omega
    have g48 : decide ((48 : Int) ≤ (n : Int)) = true := by rw [decide_eq_true_eq]; omega
    have l57 : decide ((n : Int) ≤ (57 : Int)) = false := by rw [decide_eq_false_iff_not]; omega
    have g128 : decide ((128 : Int) ≤ (n : Int)) = false := by rw [decide_eq_false_iff_not]; omega
    have e95 : ((n : Int) == (95 : Int)) = false := by rw [beq_eq_false_iff_ne]; omega
    have e32 : ((n : Int) == (32 : Int)) = false := by rw [beq_eq_false_iff_ne]; omega
    have e9 : ((n : Int) == (9 : Int)) = false := by rw [beq_eq_false_iff_ne]; omega
    go_enter Tryd.func84, Tryd.ntmps84
    go_wp2
    go_ret
    exact ⟨ret_int HR.out, rfl⟩
  · have HR : Hid (((2 : Nat) : Int) = ((Sd.kdN n : Nat) : Int)) := hid (by
      unfold Sd.kdN
      rw [if_neg (by omega), if_neg (by omega)])
    have g97 : decide ((97 : Int) ≤ (n : Int)) = false := by rw [decide_eq_false_iff_not]; omega
    have l122 : decide ((n : Int) ≤ (122 : Int)) = true := by rw [decide_eq_true_eq]; omega
    have g65 : decide ((65 : Int) ≤ (n : Int)) = true := by rw [decide_eq_true_eq]; omega
    have l90 : decide ((n : Int) ≤ (90 : Int)) = false := by rw [decide_eq_false_iff_not]; omega
    have g48 : decide ((48 : Int) ≤ (n : Int)) = true := by rw [decide_eq_true_eq]; omega
    have l57 : decide ((n : Int) ≤ (57 : Int)) = false := by rw [decide_eq_false_iff_not]; omega
    have g128 : decide ((128 : Int) ≤ (n : Int)) = false := by rw [decide_eq_false_iff_not]; omega
    have e95 : ((n : Int) == (95 : Int)) = false := by rw [beq_eq_false_iff_ne]; omega
    have e32 : ((n : Int) == (32 : Int)) = false := by rw [beq_eq_false_iff_ne]; omega
    have e9 : ((n : Int) == (9 : Int)) = false := by rw [beq_eq_false_iff_ne]; omega
    go_enter Tryd.func84, Tryd.ntmps84
    go_wp2
    go_ret
    exact ⟨ret_int HR.out, rfl⟩
  · have hn : n = 95 := by omega
    subst hn
    clear h1 h2
    go_enter Tryd.func84, Tryd.ntmps84
    go_wp2
    go_ret
    exact ⟨rfl, rfl⟩
  · have hn : n = 96 := by omega
    subst hn
    clear h1 h2
    go_enter Tryd.func84, Tryd.ntmps84
    go_wp2
    go_ret
    exact ⟨rfl, rfl⟩
  · have HR : Hid (((0 : Nat) : Int) = ((Sd.kdN n : Nat) : Int)) := hid (by
      unfold Sd.kdN
      rw [if_pos (by omega)])
    have g97 : decide ((97 : Int) ≤ (n : Int)) = true := by rw [decide_eq_true_eq]; omega
    have l122 : decide ((n : Int) ≤ (122 : Int)) = true := by rw [decide_eq_true_eq]; omega
    have g65 : decide ((65 : Int) ≤ (n : Int)) = true := by rw [decide_eq_true_eq]; omega
    have l90 : decide ((n : Int) ≤ (90 : Int)) = false := by rw [decide_eq_false_iff_not]; omega
    have g48 : decide ((48 : Int) ≤ (n : Int)) = true := by rw [decide_eq_true_eq]; omega
    have l57 : decide ((n : Int) ≤ (57 : Int)) = false := by rw [decide_eq_false_iff_not]; omega
    have g128 : decide ((128 : Int) ≤ (n : Int)) = false := by rw [decide_eq_false_iff_not]; omega
    have e95 : ((n : Int) == (95 : Int)) = false := by rw [beq_eq_false_iff_ne]; omega
    have e32 : ((n : Int) == (32 : Int)) = false := by rw [beq_eq_false_iff_ne]; omega
    have e9 : ((n : Int) == (9 : Int)) = false := by rw [beq_eq_false_iff_ne]; omega
    go_enter Tryd.func84, Tryd.ntmps84
    go_wp2
    go_ret
    exact ⟨ret_int HR.out, rfl⟩
  · have HR : Hid (((2 : Nat) : Int) = ((Sd.kdN n : Nat) : Int)) := hid (by
      unfold Sd.kdN
      rw [if_neg (by omega), if_neg (by omega)])
    have g97 : decide ((97 : Int) ≤ (n : Int)) = true := by rw [decide_eq_true_eq]; omega
    have l122 : decide ((n : Int) ≤ (122 : Int)) = false := by rw [decide_eq_false_iff_not]; omega
    have g65 : decide ((65 : Int) ≤ (n : Int)) = true := by rw [decide_eq_true_eq]; omega
    have l90 : decide ((n : Int) ≤ (90 : Int)) = false := by rw [decide_eq_false_iff_not]; omega
    have g48 : decide ((48 : Int) ≤ (n : Int)) = true := by rw [decide_eq_true_eq]; omega
    have l57 : decide ((n : Int) ≤ (57 : Int)) = false := by rw [decide_eq_false_iff_not]; omega
    have g128 : decide ((128 : Int) ≤ (n : Int)) = false := by rw [decide_eq_false_iff_not]; omega
    have e95 : ((n : Int) == (95 : Int)) = false := by rw [beq_eq_false_iff_ne]; omega
    have e32 : ((n : Int) == (32 : Int)) = false := by rw [beq_eq_false_iff_ne]; omega
    have e9 : ((n : Int) == (9 : Int)) = false := by rw [beq_eq_false_iff_ne]; omega
    go_enter Tryd.func84, Tryd.ntmps84
    go_wp2
    go_ret
    exact ⟨ret_int HR.out, rfl⟩
  · have HR : Hid (((0 : Nat) : Int) = ((Sd.kdN n : Nat) : Int)) := hid (by
      unfold Sd.kdN
      rw [if_pos (by omega)])
    have g97 : decide ((97 : Int) ≤ (n : Int)) = true := by rw [decide_eq_true_eq]; omega
    have l122 : decide ((n : Int) ≤ (122 : Int)) = false := by rw [decide_eq_false_iff_not]; omega
    have g65 : decide ((65 : Int) ≤ (n : Int)) = true := by rw [decide_eq_true_eq]; omega
    have l90 : decide ((n : Int) ≤ (90 : Int)) = false := by rw [decide_eq_false_iff_not]; omega
    have g48 : decide ((48 : Int) ≤ (n : Int)) = true := by rw [decide_eq_true_eq]; omega
    have l57 : decide ((n : Int) ≤ (57 : Int)) = false := by rw [decide_eq_false_iff_not]; omega
    have g128 : decide ((128 : Int) ≤ (n : Int)) = true := by rw [decide_eq_true_eq]; omega
    have e95 : ((n : Int) == (95 : Int)) = false := by rw [beq_eq_false_iff_ne]; omega
    have e32 : ((n : Int) == (32 : Int)) = false := by rw [beq_eq_false_iff_ne]; omega
    have e9 : ((n : Int) == (9 : Int)) = false := by rw [beq_eq_false_iff_ne]; omega
    go_enter Tryd.func84, Tryd.ntmps84
    go_wp2
    go_ret
    exact ⟨ret_int HR.out, rfl⟩

end Go.Proofs.YtgpgpopefmkpoaaDoor
