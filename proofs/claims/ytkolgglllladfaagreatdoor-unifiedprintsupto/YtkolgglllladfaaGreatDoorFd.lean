/-
  Unified diffs: the program's Number and Head.
-/
import Derived.Test.YtkolgglllladfaaGreatDoorFc
import Derived.Test.YtkolgglllladfaaGreatDoorShelf2
import Derived.Test.YtkolgglllladfaaGreatDoorGrC
import Derived.Lib.AtoiErrMem
namespace Go.Proofs.YtkolgglllladfaaGreatDoor
open Go.RowKit

/-- what the calls of the library read of the world: MaxLen some number, ErrSyntax and ErrRange some errors -/
structure LibV (w : World) : Prop where
  max : ∃ m : Int, w.cell? ⟨1, 0, none⟩ = some (.int .i64 m)
  syn : ∃ ev, w.cell? ⟨3, 0, none⟩ = some ev ∧ (ev = .nilIface ∨ ∃ te pe, ev = .iface te pe)
  rng : ∃ ev, w.cell? ⟨4, 0, none⟩ = some ev ∧ (ev = .nilIface ∨ ∃ te pe, ev = .iface te pe)
theorem LibV.below {w w' : World} (h : LibV w) (hb : Below w.heap.size w w') : LibV w' := by
  obtain ⟨⟨m, hm⟩, ⟨e1, h1, k1⟩, e2, h2, k2⟩ := h
  exact ⟨⟨m, (hb.cell (lt_of_cell hm)).trans hm⟩, ⟨e1, (hb.cell (lt_of_cell h1)).trans h1, k1⟩, e2, (hb.cell (lt_of_cell h2)).trans h2, k2⟩
def numI (s : ByteArray) : Nat := (Un.numP s.data.toList).getD 0
def numB (s : ByteArray) : Bool := (Un.numP s.data.toList).isSome
set_option maxHeartbeats 1000000 in
set_option maxRecDepth 100000 in
theorem number_any {w : World} {s : ByteArray} (hs : s.size ≤ 4294967296) (hv : LibV w) :
    Calls Tryz.prog 110 #[.string s] w fun e w' => e = .returned (.tuple #[.int .i64 (numI s : Nat), .bool (numB s)]) ∧ Below w.heap.size w w' := by
  cases h : Lib.parseUintB 64 s.data.toList with
  | ok u =>
    have HP := hid (Tryz.strconv_ParseUint_10_at64_ok s (by omega) u h w)
    have hn := Un.num_ok h
    clear hv
    by_cases hu : u ≤ 2147483647
    · have e1 : numI s = u := by unfold numI; rw [hn, if_pos hu]; rfl
      have e2 : numB s = true := by unfold numB; rw [hn, if_pos hu]; rfl
      rw [e1, e2]
      have h1 : ¬ ((2147483647 : Int) < (u : Int)) := by omega
      clear h hn e1 e2
      go_enter Tryz.func110, Tryz.ntmps110
      go_wp2_with fail
      refine HP.out.mono ?_
      rintro e w1 ⟨rfl, hw1⟩
      have HB : Hid (Below w.heap.size w w1) := hid (by
        rcases hw1 with rfl | rfl
        · exact Below.refl _ _
        · exact Lib.bytesWorld_below w _ s)
      clear hw1 HP
      go_wp2_with fail
      go_ret2
      exact ⟨rfl, HB.out⟩
    · have e1 : numI s = 0 := by unfold numI; rw [hn, if_neg hu]; rfl
      have e2 : numB s = false := by unfold numB; rw [hn, if_neg hu]; rfl
      rw [e1, e2]
      have h1 : (2147483647 : Int) < (u : Int) := by omega
      clear h hn e1 e2
      go_enter Tryz.func110, Tryz.ntmps110
      go_wp2_with fail
      refine HP.out.mono ?_
      rintro e w1 ⟨rfl, hw1⟩
      have HB : Hid (Below w.heap.size w w1) := hid (by
        rcases hw1 with rfl | rfl
        · exact Below.refl _ _
        · exact Lib.bytesWorld_below w _ s)
      clear hw1 HP
      go_wp2_with fail
      go_ret2
      exact ⟨rfl, HB.out⟩
  | «syntax» =>
    obtain ⟨ev, hc, hk⟩ := hv.syn
    have HP := hid (Tryz.strconv_ParseUint_10_at64_syntax s (by omega) h ev w hc hk)
    have hn := Un.num_syntax h
    have e1 : numI s = 0 := by unfold numI; rw [hn]; rfl
    have e2 : numB s = false := by unfold numB; rw [hn]; rfl
    rw [e1, e2]
    clear hv h hn hc hk e1 e2
    go_enter Tryz.func110, Tryz.ntmps110
    go_wp2_with fail
    refine HP.out.mono ?_
    rintro e w1 ⟨N, rfl, _, _, hb⟩
    have HB := hid hb
    clear hb HP
    go_wp2_with fail
    go_ret2
    exact ⟨rfl, HB.out⟩
  | range =>
    obtain ⟨ev, hc, hk⟩ := hv.rng
    have HP := hid (Tryz.strconv_ParseUint_10_at64_range s (by omega) h ev w hc hk)
    have hn := Un.num_range h
    have e1 : numI s = 0 := by unfold numI; rw [hn]; rfl
    have e2 : numB s = false := by unfold numB; rw [hn]; rfl
    rw [e1, e2]
    clear hv h hn hc hk e1 e2
    go_enter Tryz.func110, Tryz.ntmps110
    go_wp2_with fail
    refine HP.out.mono ?_
    rintro e w1 ⟨N, rfl, _, _, hb⟩
    have HB := hid hb
    clear hb HP
    go_wp2_with fail
    go_ret2
    exact ⟨rfl, HB.out⟩
end Go.Proofs.YtkolgglllladfaaGreatDoor
