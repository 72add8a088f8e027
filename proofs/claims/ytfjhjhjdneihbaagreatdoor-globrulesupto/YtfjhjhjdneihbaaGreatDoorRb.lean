/-
  The walk of the document's classes, in three texts.
-/
import Derived.Test.YtfjhjhjdneihbaaGreatDoorRa
namespace Go.Proofs.YtfjhjhjdneihbaaGreatDoor
open Go.RowKit
theorem cAlpha_all : (List.range 256).all (fun b => decide (Pg.cAlpha (UInt8.ofNat b) = true ↔ ((97 ≤ b ∧ b ≤ 122) ∨ (65 ≤ b ∧ b ≤ 90)))) = true := by decide +kernel
theorem cAlpha_iff (b : Nat) (hb : b < 256) : Pg.cAlpha (UInt8.ofNat b) = true ↔ ((97 ≤ b ∧ b ≤ 122) ∨ (65 ≤ b ∧ b ≤ 90)) := of_decide_eq_true (List.all_eq_true.1 cAlpha_all b (List.mem_range.2 hb))
theorem cDigit_all : (List.range 256).all (fun b => decide (Pg.cDigit (UInt8.ofNat b) = true ↔ (48 ≤ b ∧ b ≤ 57))) = true := by decide +kernel
theorem cDigit_iff (b : Nat) (hb : b < 256) : Pg.cDigit (UInt8.ofNat b) = true ↔ (48 ≤ b ∧ b ≤ 57) := of_decide_eq_true (List.all_eq_true.1 cDigit_all b (List.mem_range.2 hb))
theorem cAlnum_all : (List.range 256).all (fun b => decide (Pg.cAlnum (UInt8.ofNat b) = true ↔ ((97 ≤ b ∧ b ≤ 122) ∨ (65 ≤ b ∧ b ≤ 90) ∨ (48 ≤ b ∧ b ≤ 57)))) = true := by decide +kernel
theorem cAlnum_iff (b : Nat) (hb : b < 256) : Pg.cAlnum (UInt8.ofNat b) = true ↔ ((97 ≤ b ∧ b ≤ 122) ∨ (65 ≤ b ∧ b ≤ 90) ∨ (48 ≤ b ∧ b ≤ 57)) := of_decide_eq_true (List.all_eq_true.1 cAlnum_all b (List.mem_range.2 hb))
theorem cUpper_all : (List.range 256).all (fun b => decide (Pg.cUpper (UInt8.ofNat b) = true ↔ (65 ≤ b ∧ b ≤ 90))) = true := by decide +kernel
theorem cUpper_iff (b : Nat) (hb : b < 256) : Pg.cUpper (UInt8.ofNat b) = true ↔ (65 ≤ b ∧ b ≤ 90) := of_decide_eq_true (List.all_eq_true.1 cUpper_all b (List.mem_range.2 hb))

set_option maxHeartbeats 8000000 in
set_option maxRecDepth 100000 in
theorem class_alpha (nm : ByteArray) (b : Nat) (hb : b < 256) (w : World) (h : nm.toList = [97, 108, 112, 104, 97]) :
    Calls Tryz.prog 87 #[.string nm, .int .i64 b] w fun e w' => e = .returned (.tuple #[.bool (Pg.cAlpha (UInt8.ofNat b)), .bool true]) ∧ w' = w := by
  have HI := hid (cAlpha_iff b hb)
  have t0 : (nm.toList == [97, 108, 112, 104, 97]) = true := by rw [h]; rfl
  clear h
  go_enter Tryz.func87, Tryz.ntmps87
  go_wp2
  all_goals go_ret2
  all_goals refine ⟨ret2 (congrArg Value.bool ?_) rfl, rfl⟩
  all_goals rw [Bool.eq_iff_iff, HI.out]
  all_goals (first | omega | (simp; done) | (simp; omega))

set_option maxHeartbeats 8000000 in
set_option maxRecDepth 100000 in
theorem class_digit (nm : ByteArray) (b : Nat) (hb : b < 256) (w : World) (h : nm.toList = [100, 105, 103, 105, 116]) :
    Calls Tryz.prog 87 #[.string nm, .int .i64 b] w fun e w' => e = .returned (.tuple #[.bool (Pg.cDigit (UInt8.ofNat b)), .bool true]) ∧ w' = w := by
  have HI := hid (cDigit_iff b hb)
  have t0 : (nm.toList == [97, 108, 112, 104, 97]) = false := by rw [h]; rfl
  have t1 : (nm.toList == [100, 105, 103, 105, 116]) = true := by rw [h]; rfl
  clear h
  go_enter Tryz.func87, Tryz.ntmps87
  go_wp2
  all_goals go_ret2
  all_goals refine ⟨ret2 (congrArg Value.bool ?_) rfl, rfl⟩
  all_goals rw [Bool.eq_iff_iff, HI.out]
  all_goals (first | omega | (simp; done) | (simp; omega))

set_option maxHeartbeats 8000000 in
set_option maxRecDepth 100000 in
theorem class_alnum (nm : ByteArray) (b : Nat) (hb : b < 256) (w : World) (h : nm.toList = [97, 108, 110, 117, 109]) :
    Calls Tryz.prog 87 #[.string nm, .int .i64 b] w fun e w' => e = .returned (.tuple #[.bool (Pg.cAlnum (UInt8.ofNat b)), .bool true]) ∧ w' = w := by
  have HI := hid (cAlnum_iff b hb)
  have t0 : (nm.toList == [97, 108, 112, 104, 97]) = false := by rw [h]; rfl
  have t1 : (nm.toList == [100, 105, 103, 105, 116]) = false := by rw [h]; rfl
  have t2 : (nm.toList == [97, 108, 110, 117, 109]) = true := by rw [h]; rfl
  clear h
  go_enter Tryz.func87, Tryz.ntmps87
  go_wp2
  all_goals go_ret2
  all_goals refine ⟨ret2 (congrArg Value.bool ?_) rfl, rfl⟩
  all_goals rw [Bool.eq_iff_iff, HI.out]
  all_goals (first | omega | (simp; done) | (simp; omega))

set_option maxHeartbeats 8000000 in
set_option maxRecDepth 100000 in
theorem class_upper (nm : ByteArray) (b : Nat) (hb : b < 256) (w : World) (h : nm.toList = [117, 112, 112, 101, 114]) :
    Calls Tryz.prog 87 #[.string nm, .int .i64 b] w fun e w' => e = .returned (.tuple #[.bool (Pg.cUpper (UInt8.ofNat b)), .bool true]) ∧ w' = w := by
  have HI := hid (cUpper_iff b hb)
  have t0 : (nm.toList == [97, 108, 112, 104, 97]) = false := by rw [h]; rfl
  have t1 : (nm.toList == [100, 105, 103, 105, 116]) = false := by rw [h]; rfl
  have t2 : (nm.toList == [97, 108, 110, 117, 109]) = false := by rw [h]; rfl
  have t3 : (nm.toList == [117, 112, 112, 101, 114]) = true := by rw [h]; rfl
  clear h
  go_enter Tryz.func87, Tryz.ntmps87
  go_wp2
  all_goals go_ret2
  all_goals refine ⟨ret2 (congrArg Value.bool ?_) rfl, rfl⟩
  all_goals rw [Bool.eq_iff_iff, HI.out]
  all_goals (first | omega | (simp; done) | (simp; omega))
end Go.Proofs.YtfjhjhjdneihbaaGreatDoor
