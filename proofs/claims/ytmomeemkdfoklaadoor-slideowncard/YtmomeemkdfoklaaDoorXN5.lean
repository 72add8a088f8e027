/-
  The walks of the program's Blank and of the document's (gathered out of N5).
-/
import Derived.Test.YtmomeemkdfoklaaDoorXN1
namespace Go.Proofs.YtmomeemkdfoklaaDoor.Cx
open Go.RowKit

theorem bare_len (s : ByteArray) : (bareB s).size ≤ s.size := by
  unfold bareB
  split
  · rw [ByteArray.size_extract]; omega
  · exact Nat.le_refl _
theorem bare_data (s : ByteArray) : (bareB s).data.toList = if Pl.wh s.data.toList = true then s.data.toList.dropLast else s.data.toList := by
  unfold bareB
  split
  · rw [ext_take, List.dropLast_eq_take, size_data]
  · rfl
/-- IN3 -/
def blk (l : List UInt8) : Bool := (In.tl (if Pl.wh l = true then l.dropLast else l)).isEmpty

set_option maxHeartbeats 1000000 in
theorem blank_any (s : ByteArray) (w : World) (hs : s.size ≤ 140737488355327) :
    Calls Tryd.prog 40 #[.string s] w fun e w' => e = .returned (.bool (blk s.data.toList)) ∧ w' = w := by
  have hs' : s.size ≤ maxLen := by unfold maxLen; omega
  have hsb : (bareB s).size ≤ maxLen := Nat.le_trans (bare_len s) hs'
  have HB : Hid ((In.tl (bareB s).data.toList).isEmpty = blk s.data.toList) := hid (by rw [bare_data]; rfl)
  go_enter Tryd.func40, Tryd.ntmps40
  go_wp2_with (first | (go_at_call 50; refine (bare_any _ _ hs').mono ?_; rintro e w2 ⟨rfl, h2⟩; obtain rfl : w = w2 := h2.symm) | (go_at_call 49; refine (trimmed_any _ _ hsb).mono ?_; rintro e w2 ⟨rfl, h2⟩; obtain rfl : w = w2 := h2.symm))
  all_goals go_ret
  all_goals exact ⟨ret_bool HB.out, rfl⟩
set_option maxHeartbeats 1000000 in
theorem refBlank_any (s : ByteArray) (w : World) (hs : s.size ≤ 140737488355327) :
    Calls Tryd.prog 42 #[.string s] w fun e w' => e = .returned (.bool (blk s.data.toList)) ∧ w' = w := by
  have hs' : s.size ≤ maxLen := by unfold maxLen; omega
  have hsb : (bareB s).size ≤ maxLen := Nat.le_trans (bare_len s) hs'
  have HB : Hid ((In.tl (bareB s).data.toList).isEmpty = blk s.data.toList) := hid (by rw [bare_data]; rfl)
  go_enter Tryd.func42, Tryd.ntmps42
  go_wp2_with (first | (go_at_call 52; refine (refBare_any _ _ hs').mono ?_; rintro e w2 ⟨rfl, h2⟩; obtain rfl : w = w2 := h2.symm) | (go_at_call 51; refine (tail_any _ _ hsb).mono ?_; rintro e w2 ⟨rfl, h2⟩; obtain rfl : w = w2 := h2.symm))
  all_goals go_ret
  all_goals exact ⟨ret_bool HB.out, rfl⟩
end Go.Proofs.YtmomeemkdfoklaaDoor.Cx
