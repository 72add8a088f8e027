/-
  Unified diffs: the program's isPrinted and Print, of names without a stamp.
-/
import Derived.Test.YtkolgglllladfaaGreatDoorFw
import Derived.Laws.Runes
import Derived.WalkMore
namespace Go.Proofs.YtkolgglllladfaaGreatDoor
open Go.RowKit
open Hu (Rw Hk)

set_option maxHeartbeats 1000000 in
set_option maxRecDepth 100000 in
theorem containsAny_nil (w : World) : Calls Tryz.prog 26 #[.string ⟨#[]⟩, .string ⟨#[9, 10, 0]⟩] w fun e w' => e = .returned (.bool false) ∧ Below w.heap.size w w' := by
  have n0 := fun ty => run_next_end (P := Tryz.prog) w (⟨#[]⟩ : ByteArray) 0 ty (by decide)
  have hb : Below w.heap.size w (w.iter (⟨#[]⟩ : ByteArray) 0) := (Below.refl _ _).alloc (Nat.le_refl _) _
  have HS : ∀ w1, Calls Tryz.prog 84 #[.int .i64 0] w1 fun e w' => e = .returned (.bool false) ∧ w' = w1 := fun w1 => by
    go_enter Tryz.func84, Tryz.ntmps84
    go_wp2
    go_ret
    exact ⟨rfl, rfl⟩
  have HI : Calls Tryz.prog 50 #[.string ⟨#[]⟩, .string ⟨#[9, 10, 0]⟩] w fun e w' => e = .returned (.int .i64 (-1)) ∧ Below w.heap.size w w' := by
    go_enter Tryz.func50, Tryz.ntmps50
    go_wp2_with (go_at_call 84; refine (HS _).mono ?_; rintro e w' ⟨rfl, rfl⟩)
    refine wp_loop_rounds 1 ?_
    rw [rounds_succ]
    go_wp2
    go_ret
    exact ⟨rfl, hb⟩
  have HI2 := hid HI
  go_enter Tryz.func26, Tryz.ntmps26
  go_wp2_with fail
  refine HI2.out.mono ?_
  rintro e w1 ⟨rfl, hb1⟩
  have HB := hid hb1
  clear hb1
  go_wp2_with fail
  go_ret
  exact ⟨rfl, HB.out⟩
set_option maxHeartbeats 1000000 in
set_option maxRecDepth 100000 in
theorem isPrinted_bare (p : ByteArray) (w : World) (h0 : p.size ≠ 0) (hz : (0 : UInt8) ∉ p.data.toList) :
    Calls Tryz.prog 12 #[.agg #[.string p, .string ⟨#[]⟩]] w fun e w' => e = .returned (.bool true) ∧ Below w.heap.size w w' := by
  have he := Cx.empty_no p h0
  have hbA := (Below.refl w.heap.size w).alloc (Nat.le_refl _) (.cells #[.string p, .string ⟨#[]⟩] 23)
  have HC := hid (fun w1 => Tryz.strings_Contains_one p 0 w1)
  have e1 : decide (0 ≤ Lib.indexByte p.data.toList 0) = false := by
    rw [Pl.index_miss _ _ hz]
    rfl
  rw [e1] at HC
  have HN := hid (fun w1 => containsAny_nil w1)
  have HBA := hid hbA
  clear hbA e1 hz h0
  go_enter Tryz.func12, Tryz.ntmps12
  go_wp2_with fail
  refine (HC.out _).mono ?_
  rintro e w1 ⟨rfl, rfl⟩
  go_wp2_with fail
  refine (HN.out _).mono ?_
  rintro e w2 ⟨rfl, hb2⟩
  have HB := hid (HBA.out.trans (hb2.mono HBA.out.size))
  clear hb2
  go_wp2_with fail
  go_ret
  exact ⟨rfl, HB.out⟩
end Go.Proofs.YtkolgglllladfaaGreatDoor
