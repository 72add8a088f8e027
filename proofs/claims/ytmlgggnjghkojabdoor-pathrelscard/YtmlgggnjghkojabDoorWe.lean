/-
  The walk of went: what must come whatever the input is.
-/
import Derived.Test.YtmlgggnjghkojabDoorR7
import Derived.Test.YtmlgggnjghkojabDoorSm
namespace Go.Proofs.YtmlgggnjghkojabDoor
open Go.RowKit

theorem we_rel (w : World) (hm : MaxVar w) : Calls Tryd.prog 5 #[.string ⟨#[97, 47, 98]⟩, .string ⟨#[97, 47, 99, 47, 100]⟩] w fun e w' => e = .returned (.tuple #[.string ⟨#[46, 46, 47, 99, 47, 100]⟩, .nilIface]) ∧ Below w.heap.size w w' := by
  have e : Pp.rel (ByteArray.mk #[97, 47, 98]).data.toList (ByteArray.mk #[97, 47, 99, 47, 100]).data.toList = ([46, 46, 47, 99, 47, 100], 0) := by decide +kernel
  have K := rel_any ⟨#[97, 47, 98]⟩ ⟨#[97, 47, 99, 47, 100]⟩ w hm
  rw [e] at K
  exact K
theorem we_go (w : World) (hm : MaxVar w) : Calls Tryd.prog 7 #[.string ⟨#[97, 47, 98]⟩, .string ⟨#[46, 46, 47, 99]⟩] w fun e w' => e = .returned (.tuple #[.string ⟨#[97, 47, 99]⟩, .nilIface]) ∧ Below w.heap.size w w' := by
  have e : Pp.go (ByteArray.mk #[97, 47, 98]).data.toList (ByteArray.mk #[46, 46, 47, 99]).data.toList = ([97, 47, 99], 0) := by decide +kernel
  have K := go_any ⟨#[97, 47, 98]⟩ ⟨#[46, 46, 47, 99]⟩ w hm
  rw [e] at K
  exact K
theorem we_out (w : World) (hm : MaxVar w) : Calls Tryd.prog 7 #[.string ⟨#[97]⟩, .string ⟨#[46, 46, 47, 46, 46]⟩] w fun e w' => e = .returned (.tuple #[.string ⟨#[]⟩, errV 31]) ∧ Below w.heap.size w w' := by
  have e : Pp.go (ByteArray.mk #[97]).data.toList (ByteArray.mk #[46, 46, 47, 46, 46]).data.toList = ([], 31) := by decide +kernel
  have K := go_any ⟨#[97]⟩ ⟨#[46, 46, 47, 46, 46]⟩ w hm
  rw [e] at K
  exact K

/-- what the calls find in place -/
structure Rdy (w : World) : Prop where
  err : ErrVar w
  max : MaxVar w
theorem Rdy.below {w w' : World} (h : Rdy w) (hb : Below w.heap.size w w') : Rdy w' := ⟨h.err.below hb, h.max.below hb⟩

set_option maxHeartbeats 2000000 in
set_option maxRecDepth 100000 in
theorem went_any (w : World) (h : Rdy w) : Calls Tryd.prog 10 #[] w fun e w' => e = .returned (.bool true) ∧ Below w.heap.size w w' := by
  have HG := hid h
  clear h
  go_enter Tryd.func10, Tryd.ntmps10
  go_wp2_with fail
  refine (we_rel _ HG.out.max).mono ?_
  rintro e w1 ⟨rfl, hb1⟩
  have HG1 := hid (HG.out.below hb1)
  have HB1 := hid hb1
  clear HG hb1
  go_wp2_with fail
  refine (we_go _ HG1.out.max).mono ?_
  rintro e w2 ⟨rfl, hb2⟩
  have HG2 := hid (HG1.out.below hb2)
  have HB2 := hid (HB1.out.trans (hb2.mono HB1.out.size))
  clear HG1 HB1 hb2
  go_wp2_with fail
  refine (we_out _ HG2.out.max).mono ?_
  rintro e w3 ⟨rfl, hb3⟩
  have HG3 := hid (HG2.out.below hb3)
  have HB3 := hid (HB2.out.trans (hb3.mono HB2.out.size))
  clear HG2 HB2 hb3
  go_wp2_with fail
  refine (num_errV 31 _ HG3.out.err).mono ?_
  rintro e w4 ⟨rfl, hb4⟩
  go_wp2
  go_ret
  exact ⟨rfl, HB3.out.trans (hb4.mono HB3.out.size)⟩
end Go.Proofs.YtmlgggnjghkojabDoor
