/-
  The walk of the document's classes, in three texts.
-/
import Derived.Test.YtfjhjhjdneihbaaGreatDoorRa
namespace Go.Proofs.YtfjhjhjdneihbaaGreatDoor
open Go.RowKit
theorem cPunct_all : (List.range 256).all (fun b => decide (Pg.cPunct (UInt8.ofNat b) = true ↔ ((33 ≤ b ∧ b ≤ 126) ∧ ¬ (97 ≤ b ∧ b ≤ 122) ∧ ¬ (65 ≤ b ∧ b ≤ 90) ∧ ¬ (48 ≤ b ∧ b ≤ 57)))) = true := by decide +kernel
theorem cPunct_iff (b : Nat) (hb : b < 256) : Pg.cPunct (UInt8.ofNat b) = true ↔ ((33 ≤ b ∧ b ≤ 126) ∧ ¬ (97 ≤ b ∧ b ≤ 122) ∧ ¬ (65 ≤ b ∧ b ≤ 90) ∧ ¬ (48 ≤ b ∧ b ≤ 57)) := of_decide_eq_true (List.all_eq_true.1 cPunct_all b (List.mem_range.2 hb))
theorem cPrint_all : (List.range 256).all (fun b => decide (Pg.cPrint (UInt8.ofNat b) = true ↔ (32 ≤ b ∧ b ≤ 126))) = true := by decide +kernel
theorem cPrint_iff (b : Nat) (hb : b < 256) : Pg.cPrint (UInt8.ofNat b) = true ↔ (32 ≤ b ∧ b ≤ 126) := of_decide_eq_true (List.all_eq_true.1 cPrint_all b (List.mem_range.2 hb))
theorem cGraph_all : (List.range 256).all (fun b => decide (Pg.cGraph (UInt8.ofNat b) = true ↔ (33 ≤ b ∧ b ≤ 126))) = true := by decide +kernel
theorem cGraph_iff (b : Nat) (hb : b < 256) : Pg.cGraph (UInt8.ofNat b) = true ↔ (33 ≤ b ∧ b ≤ 126) := of_decide_eq_true (List.all_eq_true.1 cGraph_all b (List.mem_range.2 hb))
theorem cCntrl_all : (List.range 256).all (fun b => decide (Pg.cCntrl (UInt8.ofNat b) = true ↔ (b < 32 ∨ b = 127))) = true := by decide +kernel
theorem cCntrl_iff (b : Nat) (hb : b < 256) : Pg.cCntrl (UInt8.ofNat b) = true ↔ (b < 32 ∨ b = 127) := of_decide_eq_true (List.all_eq_true.1 cCntrl_all b (List.mem_range.2 hb))

set_option maxHeartbeats 8000000 in
set_option maxRecDepth 100000 in
theorem class_punct (nm : ByteArray) (b : Nat) (hb : b < 256) (w : World) (h : nm.toList = [112, 117, 110, 99, 116]) :
    Calls Tryz.prog 87 #[.string nm, .int .i64 b] w fun e w' => e = .returned (.tuple #[.bool (Pg.cPunct (UInt8.ofNat b)), .bool true]) ∧ w' = w := by
  have HI := hid (cPunct_iff b hb)
  have t0 : (nm.toList == [97, 108, 112, 104, 97]) = false := by rw [h]; rfl
  have t1 : (nm.toList == [100, 105, 103, 105, 116]) = false := by rw [h]; rfl
  have t2 : (nm.toList == [97, 108, 110, 117, 109]) = false := by rw [h]; rfl
  have t3 : (nm.toList == [117, 112, 112, 101, 114]) = false := by rw [h]; rfl
  have t4 : (nm.toList == [108, 111, 119, 101, 114]) = false := by rw [h]; rfl
  have t5 : (nm.toList == [120, 100, 105, 103, 105, 116]) = false := by rw [h]; rfl
  have t6 : (nm.toList == [115, 112, 97, 99, 101]) = false := by rw [h]; rfl
  have t7 : (nm.toList == [98, 108, 97, 110, 107]) = false := by rw [h]; rfl
  have t8 : (nm.toList == [112, 117, 110, 99, 116]) = true := by rw [h]; rfl
  clear h
  go_enter Tryz.func87, Tryz.ntmps87
  go_wp2
  all_goals go_ret2
  all_goals refine ⟨ret2 (congrArg Value.bool ?_) rfl, rfl⟩
  all_goals rw [Bool.eq_iff_iff, HI.out]
  all_goals (first | omega | (simp; done) | (simp; omega))

set_option maxHeartbeats 8000000 in
set_option maxRecDepth 100000 in
theorem class_print (nm : ByteArray) (b : Nat) (hb : b < 256) (w : World) (h : nm.toList = [112, 114, 105, 110, 116]) :
    Calls Tryz.prog 87 #[.string nm, .int .i64 b] w fun e w' => e = .returned (.tuple #[.bool (Pg.cPrint (UInt8.ofNat b)), .bool true]) ∧ w' = w := by
  have HI := hid (cPrint_iff b hb)
  have t0 : (nm.toList == [97, 108, 112, 104, 97]) = false := by rw [h]; rfl
  have t1 : (nm.toList == [100, 105, 103, 105, 116]) = false := by rw [h]; rfl
  have t2 : (nm.toList == [97, 108, 110, 117, 109]) = false := by rw [h]; rfl
  have t3 : (nm.toList == [117, 112, 112, 101, 114]) = false := by rw [h]; rfl
  have t4 : (nm.toList == [108, 111, 119, 101, 114]) = false := by rw [h]; rfl
  have t5 : (nm.toList == [120, 100, 105, 103, 105, 116]) = false := by rw [h]; rfl
  have t6 : (nm.toList == [115, 112, 97, 99, 101]) = false := by rw [h]; rfl
  have t7 : (nm.toList == [98, 108, 97, 110, 107]) = false := by rw [h]; rfl
  have t8 : (nm.toList == [112, 117, 110, 99, 116]) = false := by rw [h]; rfl
  have t9 : (nm.toList == [112, 114, 105, 110, 116]) = true := by rw [h]; rfl
  clear h
  go_enter Tryz.func87, Tryz.ntmps87
  go_wp2
  all_goals go_ret2
  all_goals refine ⟨ret2 (congrArg Value.bool ?_) rfl, rfl⟩
  all_goals rw [Bool.eq_iff_iff, HI.out]
  all_goals (first | omega | (simp; done) | (simp; omega))

set_option maxHeartbeats 8000000 in
set_option maxRecDepth 100000 in
theorem class_graph (nm : ByteArray) (b : Nat) (hb : b < 256) (w : World) (h : nm.toList = [103, 114, 97, 112, 104]) :
    Calls Tryz.prog 87 #[.string nm, .int .i64 b] w fun e w' => e = .returned (.tuple #[.bool (Pg.cGraph (UInt8.ofNat b)), .bool true]) ∧ w' = w := by
  have HI := hid (cGraph_iff b hb)
  have t0 : (nm.toList == [97, 108, 112, 104, 97]) = false := by rw [h]; rfl
  have t1 : (nm.toList == [100, 105, 103, 105, 116]) = false := by rw [h]; rfl
  have t2 : (nm.toList == [97, 108, 110, 117, 109]) = false := by rw [h]; rfl
  have t3 : (nm.toList == [117, 112, 112, 101, 114]) = false := by rw [h]; rfl
  have t4 : (nm.toList == [108, 111, 119, 101, 114]) = false := by rw [h]; rfl
  have t5 : (nm.toList == [120, 100, 105, 103, 105, 116]) = false := by rw [h]; rfl
  have t6 : (nm.toList == [115, 112, 97, 99, 101]) = false := by rw [h]; rfl
  have t7 : (nm.toList == [98, 108, 97, 110, 107]) = false := by rw [h]; rfl
  have t8 : (nm.toList == [112, 117, 110, 99, 116]) = false := by rw [h]; rfl
  have t9 : (nm.toList == [112, 114, 105, 110, 116]) = false := by rw [h]; rfl
  have t10 : (nm.toList == [103, 114, 97, 112, 104]) = true := by rw [h]; rfl
  clear h
  go_enter Tryz.func87, Tryz.ntmps87
  go_wp2
  all_goals go_ret2
  all_goals refine ⟨ret2 (congrArg Value.bool ?_) rfl, rfl⟩
  all_goals rw [Bool.eq_iff_iff, HI.out]
  all_goals (first | omega | (simp; done) | (simp; omega))

set_option maxHeartbeats 8000000 in
set_option maxRecDepth 100000 in
theorem class_cntrl (nm : ByteArray) (b : Nat) (hb : b < 256) (w : World) (h : nm.toList = [99, 110, 116, 114, 108]) :
    Calls Tryz.prog 87 #[.string nm, .int .i64 b] w fun e w' => e = .returned (.tuple #[.bool (Pg.cCntrl (UInt8.ofNat b)), .bool true]) ∧ w' = w := by
  have HI := hid (cCntrl_iff b hb)
  have t0 : (nm.toList == [97, 108, 112, 104, 97]) = false := by rw [h]; rfl
  have t1 : (nm.toList == [100, 105, 103, 105, 116]) = false := by rw [h]; rfl
  have t2 : (nm.toList == [97, 108, 110, 117, 109]) = false := by rw [h]; rfl
  have t3 : (nm.toList == [117, 112, 112, 101, 114]) = false := by rw [h]; rfl
  have t4 : (nm.toList == [108, 111, 119, 101, 114]) = false := by rw [h]; rfl
  have t5 : (nm.toList == [120, 100, 105, 103, 105, 116]) = false := by rw [h]; rfl
  have t6 : (nm.toList == [115, 112, 97, 99, 101]) = false := by rw [h]; rfl
  have t7 : (nm.toList == [98, 108, 97, 110, 107]) = false := by rw [h]; rfl
  have t8 : (nm.toList == [112, 117, 110, 99, 116]) = false := by rw [h]; rfl
  have t9 : (nm.toList == [112, 114, 105, 110, 116]) = false := by rw [h]; rfl
  have t10 : (nm.toList == [103, 114, 97, 112, 104]) = false := by rw [h]; rfl
  have t11 : (nm.toList == [99, 110, 116, 114, 108]) = true := by rw [h]; rfl
  clear h
  go_enter Tryz.func87, Tryz.ntmps87
  go_wp2
  all_goals go_ret2
  all_goals refine ⟨ret2 (congrArg Value.bool ?_) rfl, rfl⟩
  all_goals rw [Bool.eq_iff_iff, HI.out]
  all_goals (first | omega | (simp; done) | (simp; omega))
end Go.Proofs.YtfjhjhjdneihbaaGreatDoor
