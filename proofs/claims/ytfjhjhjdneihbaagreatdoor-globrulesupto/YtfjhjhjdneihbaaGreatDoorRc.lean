/-
  The walk of the document's classes, in three texts.
-/
import Derived.Test.YtfjhjhjdneihbaaGreatDoorRa
namespace Go.Proofs.YtfjhjhjdneihbaaGreatDoor
open Go.RowKit
theorem cLower_all : (List.range 256).all (fun b => decide (Pg.cLower (UInt8.ofNat b) = true ↔ (97 ≤ b ∧ b ≤ 122))) = true := by decide +kernel
theorem cLower_iff (b : Nat) (hb : b < 256) : Pg.cLower (UInt8.ofNat b) = true ↔ (97 ≤ b ∧ b ≤ 122) := of_decide_eq_true (List.all_eq_true.1 cLower_all b (List.mem_range.2 hb))
theorem cXdigit_all : (List.range 256).all (fun b => decide (Pg.cXdigit (UInt8.ofNat b) = true ↔ ((48 ≤ b ∧ b ≤ 57) ∨ (97 ≤ b ∧ b ≤ 102) ∨ (65 ≤ b ∧ b ≤ 70)))) = true := by decide +kernel
theorem cXdigit_iff (b : Nat) (hb : b < 256) : Pg.cXdigit (UInt8.ofNat b) = true ↔ ((48 ≤ b ∧ b ≤ 57) ∨ (97 ≤ b ∧ b ≤ 102) ∨ (65 ≤ b ∧ b ≤ 70)) := of_decide_eq_true (List.all_eq_true.1 cXdigit_all b (List.mem_range.2 hb))
theorem cSpace_all : (List.range 256).all (fun b => decide (Pg.cSpace (UInt8.ofNat b) = true ↔ ((9 ≤ b ∧ b ≤ 13) ∨ b = 32))) = true := by decide +kernel
theorem cSpace_iff (b : Nat) (hb : b < 256) : Pg.cSpace (UInt8.ofNat b) = true ↔ ((9 ≤ b ∧ b ≤ 13) ∨ b = 32) := of_decide_eq_true (List.all_eq_true.1 cSpace_all b (List.mem_range.2 hb))
theorem cBlank_all : (List.range 256).all (fun b => decide (Pg.cBlank (UInt8.ofNat b) = true ↔ (b = 9 ∨ b = 32))) = true := by decide +kernel
theorem cBlank_iff (b : Nat) (hb : b < 256) : Pg.cBlank (UInt8.ofNat b) = true ↔ (b = 9 ∨ b = 32) := of_decide_eq_true (List.all_eq_true.1 cBlank_all b (List.mem_range.2 hb))

set_option maxHeartbeats 8000000 in
set_option maxRecDepth 100000 in
theorem class_lower (nm : ByteArray) (b : Nat) (hb : b < 256) (w : World) (h : nm.toList = [108, 111, 119, 101, 114]) :
    Calls Tryz.prog 87 #[.string nm, .int .i64 b] w fun e w' => e = .returned (.tuple #[.bool (Pg.cLower (UInt8.ofNat b)), .bool true]) ∧ w' = w := by
  have HI := hid (cLower_iff b hb)
  have t0 : (nm.toList == [97, 108, 112, 104, 97]) = false := by rw [h]; rfl
  have t1 : (nm.toList == [100, 105, 103, 105, 116]) = false := by rw [h]; rfl
  have t2 : (nm.toList == [97, 108, 110, 117, 109]) = false := by rw [h]; rfl
  have t3 : (nm.toList == [117, 112, 112, 101, 114]) = false := by rw [h]; rfl
  have t4 : (nm.toList == [108, 111, 119, 101, 114]) = true := by rw [h]; rfl
  clear h
  go_enter Tryz.func87, Tryz.ntmps87
  go_wp2
  all_goals go_ret2
  all_goals refine ⟨ret2 (congrArg Value.bool ?_) rfl, rfl⟩
  all_goals rw [Bool.eq_iff_iff, HI.out]
  all_goals (first | omega | (simp; done) | (simp; omega))

set_option maxHeartbeats 8000000 in
set_option maxRecDepth 100000 in
theorem class_xdigit (nm : ByteArray) (b : Nat) (hb : b < 256) (w : World) (h : nm.toList = [120, 100, 105, 103, 105, 116]) :
    Calls Tryz.prog 87 #[.string nm, .int .i64 b] w fun e w' => e = .returned (.tuple #[.bool (Pg.cXdigit (UInt8.ofNat b)), .bool true]) ∧ w' = w := by
  have HI := hid (cXdigit_iff b hb)
  have t0 : (nm.toList == [97, 108, 112, 104, 97]) = false := by rw [h]; rfl
  have t1 : (nm.toList == [100, 105, 103, 105, 116]) = false := by rw [h]; rfl
  have t2 : (nm.toList == [97, 108, 110, 117, 109]) = false := by rw [h]; rfl
  have t3 : (nm.toList == [117, 112, 112, 101, 114]) = false := by rw [h]; rfl
  have t4 : (nm.toList == [108, 111, 119, 101, 114]) = false := by rw [h]; rfl
  have t5 : (nm.toList == [120, 100, 105, 103, 105, 116]) = true := by rw [h]; rfl
  clear h
  go_enter Tryz.func87, Tryz.ntmps87
  go_wp2
  all_goals go_ret2
  all_goals refine ⟨ret2 (congrArg Value.bool ?_) rfl, rfl⟩
  all_goals rw [Bool.eq_iff_iff, HI.out]
  all_goals (first | omega | (simp; done) | (simp; omega))

set_option maxHeartbeats 8000000 in
set_option maxRecDepth 100000 in
theorem class_space (nm : ByteArray) (b : Nat) (hb : b < 256) (w : World) (h : nm.toList = [115, 112, 97, 99, 101]) :
    Calls Tryz.prog 87 #[.string nm, .int .i64 b] w fun e w' => e = .returned (.tuple #[.bool (Pg.cSpace (UInt8.ofNat b)), .bool true]) ∧ w' = w := by
  have HI := hid (cSpace_iff b hb)
  have t0 : (nm.toList == [97, 108, 112, 104, 97]) = false := by rw [h]; rfl
  have t1 : (nm.toList == [100, 105, 103, 105, 116]) = false := by rw [h]; rfl
  have t2 : (nm.toList == [97, 108, 110, 117, 109]) = false := by rw [h]; rfl
  have t3 : (nm.toList == [117, 112, 112, 101, 114]) = false := by rw [h]; rfl
  have t4 : (nm.toList == [108, 111, 119, 101, 114]) = false := by rw [h]; rfl
  have t5 : (nm.toList == [120, 100, 105, 103, 105, 116]) = false := by rw [h]; rfl
  have t6 : (nm.toList == [115, 112, 97, 99, 101]) = true := by rw [h]; rfl
  clear h
  go_enter Tryz.func87, Tryz.ntmps87
  go_wp2
  all_goals go_ret2
  all_goals refine ⟨ret2 (congrArg Value.bool ?_) rfl, rfl⟩
  all_goals rw [Bool.eq_iff_iff, HI.out]
  all_goals (first | omega | (simp; done) | (simp; omega))

set_option maxHeartbeats 8000000 in
set_option maxRecDepth 100000 in
theorem class_blank (nm : ByteArray) (b : Nat) (hb : b < 256) (w : World) (h : nm.toList = [98, 108, 97, 110, 107]) :
    Calls Tryz.prog 87 #[.string nm, .int .i64 b] w fun e w' => e = .returned (.tuple #[.bool (Pg.cBlank (UInt8.ofNat b)), .bool true]) ∧ w' = w := by
  have HI := hid (cBlank_iff b hb)
  have t0 : (nm.toList == [97, 108, 112, 104, 97]) = false := by rw [h]; rfl
  have t1 : (nm.toList == [100, 105, 103, 105, 116]) = false := by rw [h]; rfl
  have t2 : (nm.toList == [97, 108, 110, 117, 109]) = false := by rw [h]; rfl
  have t3 : (nm.toList == [117, 112, 112, 101, 114]) = false := by rw [h]; rfl
  have t4 : (nm.toList == [108, 111, 119, 101, 114]) = false := by rw [h]; rfl
  have t5 : (nm.toList == [120, 100, 105, 103, 105, 116]) = false := by rw [h]; rfl
  have t6 : (nm.toList == [115, 112, 97, 99, 101]) = false := by rw [h]; rfl
  have t7 : (nm.toList == [98, 108, 97, 110, 107]) = true := by rw [h]; rfl
  clear h
  go_enter Tryz.func87, Tryz.ntmps87
  go_wp2
  all_goals go_ret2
  all_goals refine ⟨ret2 (congrArg Value.bool ?_) rfl, rfl⟩
  all_goals rw [Bool.eq_iff_iff, HI.out]
  all_goals (first | omega | (simp; done) | (simp; omega))
end Go.Proofs.YtfjhjhjdneihbaaGreatDoor
