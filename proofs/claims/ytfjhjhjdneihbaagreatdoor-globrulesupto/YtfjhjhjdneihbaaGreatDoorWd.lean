/-
  Sets of bytes as four words of 64 bits each.
-/
import Derived.Test.YtfjhjhjdneihbaaGreatDoorPe
import Derived.WalkKit
import Derived.Laws.Bits64
import Derived.Laws.Bits64b
namespace Go.Proofs.YtfjhjhjdneihbaaGreatDoor
open Go.RowKit

def bn (f : UInt8 → Bool) (j : Nat) : Nat → Nat
  | 0 => 0
  | k + 1 => bn f j k ||| (if f (UInt8.ofNat (64 * j + k)) then 2 ^ k else 0)
/-- the j-th word of a set -/
def wd (f : UInt8 → Bool) (j : Nat) : Nat := bn f j 64

theorem bn_bit (f : UInt8 → Bool) (j : Nat) : ∀ k b, (bn f j k).testBit b = (decide (b < k) && f (UInt8.ofNat (64 * j + b)))
  | 0, b => by simp [bn]
  | k + 1, b => by
    rw [bn, Nat.testBit_or, bn_bit f j k b]
    by_cases hb : b = k
    · subst hb
      have e1 : decide (b < b) = false := decide_eq_false (by omega)
      have e2 : decide (b < b + 1) = true := decide_eq_true (by omega)
      rw [e1, e2, Bool.false_and, Bool.false_or, Bool.true_and]
      cases f (UInt8.ofNat (64 * j + b)) with
      | true => rw [if_pos rfl, Nat.testBit_two_pow, decide_eq_true rfl]
      | false => rw [if_neg (by simp)]; exact Nat.zero_testBit b
    · have e : (if f (UInt8.ofNat (64 * j + k)) then 2 ^ k else 0).testBit b = false := by
        split
        · rw [Nat.testBit_two_pow]; simp; omega
        · simp
      rw [e, Bool.or_false]
      congr 1
      rw [decide_eq_decide]
      omega
theorem wd_bit (f : UInt8 → Bool) (j b : Nat) : (wd f j).testBit b = (decide (b < 64) && f (UInt8.ofNat (64 * j + b))) := bn_bit f j 64 b
theorem wd_lt (f : UInt8 → Bool) (j : Nat) : wd f j < 18446744073709551616 := by
  refine Nat.lt_pow_two_of_testBit (n := 64) (wd f j) fun i hi => ?_
  rw [wd_bit, decide_eq_false (by omega)]; rfl
theorem byte_split (c : UInt8) : UInt8.ofNat (64 * (c.toNat / 64) + c.toNat % 64) = c := by
  rw [Nat.div_add_mod]; simp
theorem pow_lt64 (b : Nat) (h : b < 64) : 2 ^ b < 18446744073709551616 := Nat.pow_lt_pow_right (a := 2) (m := b) (n := 64) (by omega) h
theorem ofNat_inj (a b : Nat) (ha : a < 256) (hb : b < 256) (h : UInt8.ofNat a = UInt8.ofNat b) : a = b := by
  have := congrArg UInt8.toNat h
  simp at this
  omega
/-- one byte more -/
theorem wd_add (f : UInt8 → Bool) (c j : Nat) (hj : j < 4) :
    wd (Pg.or2 f (Pg.bt c c)) j = if c / 64 = j then wd f j ||| 2 ^ (c % 64) else wd f j := by
  refine Nat.eq_of_testBit_eq fun b => ?_
  have hbt : ∀ b, b < 64 → Pg.bt c c (UInt8.ofNat (64 * j + b)) = decide (c = 64 * j + b) := by
    intro b hb
    have e : (UInt8.ofNat (64 * j + b)).toNat = 64 * j + b := by rw [UInt8.toNat_ofNat']; omega
    unfold Pg.bt
    rw [e, Bool.eq_iff_iff]
    simp only [Bool.and_eq_true, decide_eq_true_eq]
    omega
  rw [wd_bit]
  by_cases hb : b < 64
  · rw [decide_eq_true hb, Bool.true_and]
    show (f _ || Pg.bt c c _) = _
    rw [hbt b hb]
    split
    · next h =>
      rw [Nat.testBit_or, wd_bit, decide_eq_true hb, Bool.true_and, Nat.testBit_two_pow]
      congr 1
      rw [decide_eq_decide]
      omega
    · next h =>
      rw [wd_bit, decide_eq_true hb, Bool.true_and, decide_eq_false (by omega), Bool.or_false]
  · rw [decide_eq_false hb, Bool.false_and]
    split
    · rw [Nat.testBit_or, wd_bit, decide_eq_false hb, Nat.testBit_two_pow, decide_eq_false (by omega)]; rfl
    · rw [wd_bit, decide_eq_false hb]; rfl
theorem wd_turn (f : UInt8 → Bool) (j : Nat) : wd (Pg.turn true f) j = 18446744073709551615 ^^^ wd f j := by
  refine Nat.eq_of_testBit_eq fun b => ?_
  rw [wd_bit, Nat.testBit_xor, wd_bit, show (18446744073709551615 : Nat) = 2 ^ 64 - 1 from rfl, Nat.testBit_two_pow_sub_one]
  by_cases hb : b < 64
  · rw [decide_eq_true hb]; simp [Pg.turn]
  · rw [decide_eq_false hb]; rfl
theorem wd_no (j : Nat) : wd Pg.no j = 0 := by
  refine Nat.eq_of_testBit_eq fun b => ?_
  rw [wd_bit]; simp [Pg.no]

/-- the operations of the walks, over words -/
theorem bits_or_wd (f : UInt8 → Bool) (c : Nat) (hc : c < 256) : bits .or .u64 (wd f (c / 64)) ((2 ^ (c % 64) : Nat) : Int) = (wd (Pg.or2 f (Pg.bt c c)) (c / 64) : Int) := by
  rw [bits_or_u64_nat _ _ (wd_lt f _) (pow_lt64 _ (by omega)), wd_add f c (c / 64) (by omega), if_pos rfl]
theorem wd_other (f : UInt8 → Bool) (c j : Nat) (hj : j < 4) (h : c / 64 ≠ j) : wd (Pg.or2 f (Pg.bt c c)) j = wd f j := by
  rw [wd_add f c j hj, if_neg h]
theorem bits_not_wd (f : UInt8 → Bool) (j : Nat) : bits .xor .u64 18446744073709551615 (wd f j) = (wd (Pg.turn true f) j : Int) := by
  have := bits_xor_u64_nat 18446744073709551615 (wd f j) (by omega) (wd_lt f j)
  rw [wd_turn]; exact this
theorem bit_has (f : UInt8 → Bool) (c : UInt8) : bits .and .u64 ((wd f (c.toNat / 64) / 2 ^ (c.toNat % 64) : Nat) : Int) 1 = ((f c).toNat : Int) := by
  have h1 : wd f (c.toNat / 64) / 2 ^ (c.toNat % 64) < 18446744073709551616 := Nat.lt_of_le_of_lt (Nat.div_le_self _ _) (wd_lt f _)
  have := bits_and_u64_nat (wd f (c.toNat / 64) / 2 ^ (c.toNat % 64)) 1 h1 (by omega)
  refine this.trans ?_
  rw [Nat.and_one_is_mod]
  have hb := wd_bit f (c.toNat / 64) (c.toNat % 64)
  rw [Nat.testBit_eq_decide_div_mod_eq, decide_eq_true (Nat.mod_lt _ (by omega)), Bool.true_and, byte_split] at hb
  rw [← hb]
  have : wd f (c.toNat / 64) / 2 ^ (c.toNat % 64) % 2 < 2 := Nat.mod_lt _ (by omega)
  generalize wd f (c.toNat / 64) / 2 ^ (c.toNat % 64) % 2 = x at this
  match x, this with
  | 0, _ => rfl
  | 1, _ => rfl

/-- ranges grow by one byte -/
theorem range_snoc (f : UInt8 → Bool) (lo c : Nat) (h : lo ≤ c + 1) : Pg.or2 (Pg.or2 f (fun x => decide (lo ≤ x.toNat) && decide (x.toNat < c + 1))) (Pg.bt (c + 1) (c + 1)) = Pg.or2 f (fun x => decide (lo ≤ x.toNat) && decide (x.toNat < c + 2)) := by
  funext x
  simp only [Pg.or2, Pg.bt, Bool.or_assoc]
  congr 1
  rw [Bool.eq_iff_iff]
  simp only [Bool.or_eq_true, Bool.and_eq_true, decide_eq_true_eq]
  omega
end Go.Proofs.YtfjhjhjdneihbaaGreatDoor
