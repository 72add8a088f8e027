/-
  The walk of sure: what must come whatever the input is.
-/
import Derived.Test.YtmlgggnjghkojabGreatDoorP7
import Derived.Test.YtmlgggnjghkojabGreatDoorSm
namespace Go.Proofs.YtmlgggnjghkojabGreatDoor
open Go.RowKit

theorem su_parts (w : World) (hm : MaxVar w) : Calls Tryz.prog 4 #[.string ⟨#[97, 47, 98]⟩] w fun e w' =>
    ∃ b o c, e = .returned (.tuple #[.slice (some ⟨b, o, none⟩) 2 c, .nilIface]) ∧ 2 ≤ c ∧ b < w'.heap.size ∧ w'.cell? ⟨b, o + 1, none⟩ = some (.string ⟨#[98]⟩) ∧ Below w.heap.size w w' := by
  have e : Pp.parts (ByteArray.mk #[97, 47, 98]).data.toList = ([[97], [98]], 0) := by decide +kernel
  refine (parts_any ⟨#[97, 47, 98]⟩ w hm).mono ?_
  rintro _ w' ⟨v, rfl, hown, hb⟩
  rw [e] at hown ⊢
  rcases rd_own hown with ⟨h, _⟩ | ⟨b, o, c, rfl, hc, hlt, hcell⟩
  · cases h
  · exact ⟨b, o, c, rfl, hc, hlt, hcell 1 _ rfl, hb⟩
theorem su_strip (w : World) : Calls Tryz.prog 12 #[.string ⟨#[97, 47, 98, 47, 99]⟩, .int .i64 1] w fun e w' => e = .returned (.tuple #[.string ⟨#[98, 47, 99]⟩, .nilIface]) ∧ Below w.heap.size w w' := by
  have e : Pp.strip (ByteArray.mk #[97, 47, 98, 47, 99]).data.toList 1 = ([98, 47, 99], 0) := by decide +kernel
  have K := strip_any ⟨#[97, 47, 98, 47, 99]⟩ 1 w (by decide) (by decide) (by decide)
  rw [e] at K
  exact K
theorem su_safe (w : World) (hm : MaxVar w) : Calls Tryz.prog 13 #[.string ⟨#[46, 47, 97, 47, 47, 98]⟩] w fun e w' => e = .returned (.tuple #[.string ⟨#[97, 47, 98]⟩, .nilIface]) ∧ Below w.heap.size w w' := by
  have e : Pp.safe (ByteArray.mk #[46, 47, 97, 47, 47, 98]).data.toList = ([97, 47, 98], 0) := by decide +kernel
  have K := safe_any ⟨#[46, 47, 97, 47, 47, 98]⟩ w (by decide) hm
  rw [e] at K
  exact K
theorem su_unsafe (w : World) (hm : MaxVar w) : Calls Tryz.prog 13 #[.string ⟨#[97, 47, 46, 46, 47, 98]⟩] w fun e w' => e = .returned (.tuple #[.string ⟨#[]⟩, errV 31]) ∧ Below w.heap.size w w' := by
  have e : Pp.safe (ByteArray.mk #[97, 47, 46, 46, 47, 98]).data.toList = ([], 31) := by decide +kernel
  have K := safe_any ⟨#[97, 47, 46, 46, 47, 98]⟩ w (by decide) hm
  rw [e] at K
  exact K
theorem su_name (w : World) : Calls Tryz.prog 15 #[.string ⟨#[97]⟩] w fun e w' => e = .returned .nilIface ∧ Below w.heap.size w w' := by
  have e : Pp.nameN (ByteArray.mk #[97]).data.toList = 0 := by decide +kernel
  have K := name_any ⟨#[97]⟩ w
  rw [e] at K
  exact K
theorem su_up (w : World) : Calls Tryz.prog 15 #[.string ⟨#[46, 46]⟩] w fun e w' => e = .returned (errV 30) ∧ Below w.heap.size w w' := by
  have e : Pp.nameN (ByteArray.mk #[46, 46]).data.toList = 30 := by decide +kernel
  have K := name_any ⟨#[46, 46]⟩ w
  rw [e] at K
  exact K
theorem su_base (w : World) : Calls Tryz.prog 16 #[.string ⟨#[97, 47, 98]⟩] w fun e w' => e = .returned (.string ⟨#[98]⟩) ∧ w' = w := by
  have e : Pp.base (ByteArray.mk #[97, 47, 98]).data.toList = [98] := by decide +kernel
  have K := base_any ⟨#[97, 47, 98]⟩ w (by decide)
  rw [e] at K
  exact K
theorem su_dir (w : World) : Calls Tryz.prog 17 #[.string ⟨#[97, 47, 98]⟩] w fun e w' => e = .returned (.string ⟨#[97]⟩) ∧ w' = w := by
  have e : Pp.dir (ByteArray.mk #[97, 47, 98]).data.toList = [97] := by decide +kernel
  have K := dir_any ⟨#[97, 47, 98]⟩ w (by decide)
  rw [e] at K
  exact K
theorem su_below (w : World) : Calls Tryz.prog 18 #[.string ⟨#[97]⟩, .string ⟨#[97, 47, 98]⟩] w fun e w' => e = .returned (.bool true) ∧ w' = w := by
  have e : Pp.below (ByteArray.mk #[97]).data.toList (ByteArray.mk #[97, 47, 98]).data.toList = true := by decide +kernel
  have K := below_any ⟨#[97]⟩ ⟨#[97, 47, 98]⟩ w
  rw [e] at K
  exact K

/-- what the calls find in place -/
structure Rdy (w : World) : Prop where
  err : ErrVar w
  max : MaxVar w
theorem Rdy.below {w w' : World} (h : Rdy w) (hb : Below w.heap.size w w') : Rdy w' := ⟨h.err.below hb, h.max.below hb⟩

set_option maxHeartbeats 4000000 in
set_option maxRecDepth 100000 in
theorem sure_any (w : World) (h : Rdy w) : Calls Tryz.prog 7 #[] w fun e w' => e = .returned (.bool true) ∧ Below w.heap.size w w' := by
  have HR := hid h
  clear h
  go_enter Tryz.func7, Tryz.ntmps7
  go_wp2_with fail
  refine (su_parts _ HR.out.max).mono ?_
  rintro e w1 ⟨b, o, c, rfl, hc, hlt, hcell, hb1⟩
  have HR1 := hid (HR.out.below hb1)
  have HC1 := hid hcell
  clear hcell
  go_wp2_with fail
  refine (su_strip _).mono ?_
  rintro e w2 ⟨rfl, hb2⟩
  have HR2 := hid (HR1.out.below hb2)
  have HB2 := hid (hb1.trans (hb2.mono hb1.size))
  have HC2 := hid ((hb2.cell (p := ⟨b, o + 1, none⟩) hlt).trans HC1.out)
  have hlt2 := Nat.lt_of_lt_of_le hlt hb2.size
  clear HR1 HC1 hb1 hb2 hlt
  go_wp2_with fail
  refine (su_safe _ HR2.out.max).mono ?_
  rintro e w3 ⟨rfl, hb3⟩
  have HR3 := hid (HR2.out.below hb3)
  have HB3 := hid (HB2.out.trans (hb3.mono HB2.out.size))
  have HC3 := hid ((hb3.cell (p := ⟨b, o + 1, none⟩) hlt2).trans HC2.out)
  have hlt3 := Nat.lt_of_lt_of_le hlt2 hb3.size
  clear HR2 HC2 HB2 hb3 hlt2
  go_wp2_with fail
  refine (su_unsafe _ HR3.out.max).mono ?_
  rintro e w4 ⟨rfl, hb4⟩
  have HR4 := hid (HR3.out.below hb4)
  have HB4 := hid (HB3.out.trans (hb4.mono HB3.out.size))
  have hC4 := (hb4.cell (p := ⟨b, o + 1, none⟩) hlt3).trans HC3.out
  clear HR3 HC3 HB3 hb4 hlt3
  go_wp2_with fail
  refine (num_errV 31 _ HR4.out.err).mono ?_
  rintro e w5 ⟨rfl, hb5⟩
  have HR5 := hid (HR4.out.below hb5)
  have HB5 := hid (HB4.out.trans (hb5.mono HB4.out.size))
  clear HR4 HB4 hb5
  go_wp2_with fail
  refine (su_name _).mono ?_
  rintro e w6 ⟨rfl, hb6⟩
  have HR6 := hid (HR5.out.below hb6)
  have HB6 := hid (HB5.out.trans (hb6.mono HB5.out.size))
  clear HR5 HB5 hb6
  go_wp2_with fail
  refine (su_up _).mono ?_
  rintro e w7 ⟨rfl, hb7⟩
  have HR7 := hid (HR6.out.below hb7)
  have HB7 := hid (HB6.out.trans (hb7.mono HB6.out.size))
  clear HR6 HB6 hb7
  go_wp2_with fail
  refine (num_errV 30 _ HR7.out.err).mono ?_
  rintro e w8 ⟨rfl, hb8⟩
  have HB8 := hid (HB7.out.trans (hb8.mono HB7.out.size))
  clear HR7 HB7 hb8
  go_wp2_with fail
  refine (su_base _).mono ?_
  rintro e w9 ⟨rfl, rfl⟩
  go_wp2_with fail
  refine (su_dir _).mono ?_
  rintro e w10 ⟨rfl, rfl⟩
  go_wp2_with fail
  refine (su_below _).mono ?_
  rintro e w11 ⟨rfl, rfl⟩
  go_wp2
  go_ret
  exact ⟨rfl, HB8.out⟩
end Go.Proofs.YtmlgggnjghkojabGreatDoor
