/-
  The walk of the document's classes: by the name.
-/
import Derived.Test.YtfjhjhjdneihbaaGreatDoorRb
import Derived.Test.YtfjhjhjdneihbaaGreatDoorRc
import Derived.Test.YtfjhjhjdneihbaaGreatDoorRd
namespace Go.Proofs.YtfjhjhjdneihbaaGreatDoor
open Go.RowKit

set_option maxHeartbeats 8000000 in
set_option maxRecDepth 100000 in
theorem class_none (nm : ByteArray) (b : Nat) (w : World) (h0 : nm.toList ≠ [97, 108, 112, 104, 97]) (h1 : nm.toList ≠ [100, 105, 103, 105, 116]) (h2 : nm.toList ≠ [97, 108, 110, 117, 109]) (h3 : nm.toList ≠ [117, 112, 112, 101, 114]) (h4 : nm.toList ≠ [108, 111, 119, 101, 114]) (h5 : nm.toList ≠ [120, 100, 105, 103, 105, 116]) (h6 : nm.toList ≠ [115, 112, 97, 99, 101]) (h7 : nm.toList ≠ [98, 108, 97, 110, 107]) (h8 : nm.toList ≠ [112, 117, 110, 99, 116]) (h9 : nm.toList ≠ [112, 114, 105, 110, 116]) (h10 : nm.toList ≠ [103, 114, 97, 112, 104]) (h11 : nm.toList ≠ [99, 110, 116, 114, 108]) :
    Calls Tryz.prog 87 #[.string nm, .int .i64 b] w fun e w' => e = .returned (.tuple #[.bool false, .bool false]) ∧ w' = w := by
  have t0 := beq_eq_false_iff_ne.2 h0
  have t1 := beq_eq_false_iff_ne.2 h1
  have t2 := beq_eq_false_iff_ne.2 h2
  have t3 := beq_eq_false_iff_ne.2 h3
  have t4 := beq_eq_false_iff_ne.2 h4
  have t5 := beq_eq_false_iff_ne.2 h5
  have t6 := beq_eq_false_iff_ne.2 h6
  have t7 := beq_eq_false_iff_ne.2 h7
  have t8 := beq_eq_false_iff_ne.2 h8
  have t9 := beq_eq_false_iff_ne.2 h9
  have t10 := beq_eq_false_iff_ne.2 h10
  have t11 := beq_eq_false_iff_ne.2 h11
  clear h0 h1 h2 h3 h4 h5 h6 h7 h8 h9 h10 h11
  go_enter Tryz.func87, Tryz.ntmps87
  go_wp2
  all_goals go_ret2
  all_goals exact ⟨rfl, rfl⟩

/-- a class by its name: has it a byte, and is there one? -/
def clsT (nm : List UInt8) (b : Nat) : Value := match Pg.lk nm Pg.rows with
  | none => .tuple #[.bool false, .bool false]
  | some p => .tuple #[.bool (p (UInt8.ofNat b)), .bool true]
theorem class_any (nm : ByteArray) (b : Nat) (hb : b < 256) (w : World) :
    Calls Tryz.prog 87 #[.string nm, .int .i64 b] w fun e w' => e = .returned (clsT nm.data.toList b) ∧ w' = w := by
  rw [← ByteArray.toList_eq]
  by_cases h0 : nm.toList = [97, 108, 112, 104, 97]
  · rw [h0]
    exact class_alpha nm b hb w h0
  by_cases h1 : nm.toList = [100, 105, 103, 105, 116]
  · rw [h1]
    exact class_digit nm b hb w h1
  by_cases h2 : nm.toList = [97, 108, 110, 117, 109]
  · rw [h2]
    exact class_alnum nm b hb w h2
  by_cases h3 : nm.toList = [117, 112, 112, 101, 114]
  · rw [h3]
    exact class_upper nm b hb w h3
  by_cases h4 : nm.toList = [108, 111, 119, 101, 114]
  · rw [h4]
    exact class_lower nm b hb w h4
  by_cases h5 : nm.toList = [120, 100, 105, 103, 105, 116]
  · rw [h5]
    exact class_xdigit nm b hb w h5
  by_cases h6 : nm.toList = [115, 112, 97, 99, 101]
  · rw [h6]
    exact class_space nm b hb w h6
  by_cases h7 : nm.toList = [98, 108, 97, 110, 107]
  · rw [h7]
    exact class_blank nm b hb w h7
  by_cases h8 : nm.toList = [112, 117, 110, 99, 116]
  · rw [h8]
    exact class_punct nm b hb w h8
  by_cases h9 : nm.toList = [112, 114, 105, 110, 116]
  · rw [h9]
    exact class_print nm b hb w h9
  by_cases h10 : nm.toList = [103, 114, 97, 112, 104]
  · rw [h10]
    exact class_graph nm b hb w h10
  by_cases h11 : nm.toList = [99, 110, 116, 114, 108]
  · rw [h11]
    exact class_cntrl nm b hb w h11
  have hn : Pg.lk nm.toList Pg.rows = none := by
    simp only [Pg.lk, Pg.rows]
    rw [if_neg (fun e => h0 e.symm), if_neg (fun e => h1 e.symm), if_neg (fun e => h2 e.symm), if_neg (fun e => h3 e.symm), if_neg (fun e => h4 e.symm), if_neg (fun e => h5 e.symm), if_neg (fun e => h6 e.symm), if_neg (fun e => h7 e.symm), if_neg (fun e => h8 e.symm), if_neg (fun e => h9 e.symm), if_neg (fun e => h10 e.symm), if_neg (fun e => h11 e.symm)]
  unfold clsT
  rw [hn]
  exact class_none nm b w h0 h1 h2 h3 h4 h5 h6 h7 h8 h9 h10 h11
end Go.Proofs.YtfjhjhjdneihbaaGreatDoor
