/-
  The walks of Whole and Bare, of the program and of the document's answer: for every string.
-/
import Derived.Test.YtjgjfnmljmmplaaDoorRows
import Derived.Test.YtjgjfnmljmmplaaDoorXPl
import Derived.WalkKit
import Derived.WalkSpells
import Derived.WalkLawsBesides
namespace Go.Proofs.YtjgjfnmljmmplaaDoor.Cx
open Go.RowKit

theorem hid {p : Prop} (h : p) : Hid p := h
theorem size_data (s : ByteArray) : s.data.toList.length = s.size := by rw [Array.length_toList]; rfl

theorem emptyB (s : ByteArray) : s.toList.isEmpty = decide (s.size = 0) := by
  rw [ByteArray.toList_eq, Bool.eq_iff_iff, List.isEmpty_iff, ← List.length_eq_zero_iff, size_data]
  simp
theorem empty_yes (s : ByteArray) (h : s.size = 0) : s.toList.isEmpty = true := by rw [emptyB]; exact decide_eq_true h
theorem empty_no (s : ByteArray) (h : s.size ≠ 0) : s.toList.isEmpty = false := by rw [emptyB]; exact decide_eq_false h

theorem wh_size (s : ByteArray) (h : s.size = 0) : Pl.wh s.data.toList = false := by
  have : s.data.toList = [] := by rw [← List.length_eq_zero_iff, size_data]; exact h
  rw [this]; rfl

theorem wh_at (s : ByteArray) (h : 0 < s.size) : ((s[s.size - 1].toNat : Int) == 10) = Pl.wh s.data.toList := by
  have hl : s.data.toList.getLast? = some (s[s.size - 1]) := by
    rw [List.getLast?_eq_getElem?, size_data, List.getElem?_eq_getElem (by rw [size_data]; omega)]
    rfl
  unfold Pl.wh
  rw [hl, Bool.eq_iff_iff]
  simp only [beq_iff_eq, Option.some.injEq, ← UInt8.toNat_inj]
  show _ ↔ _ = 10
  omega

set_option maxHeartbeats 400000 in
theorem whole_any (s : ByteArray) (w : World) (hs : s.size ≤ maxLen) :
    Calls Tryd.prog 36 #[.string s] w fun e w' => e = .returned (.bool (Pl.wh s.data.toList)) ∧ w' = w := by
  unfold maxLen at hs
  by_cases h : 0 < s.size
  · have he : s.toList.isEmpty = false := empty_no s (by omega)
    go_enter Tryd.func36, Tryd.ntmps36
    go_wp2
    go_ret
    refine ⟨?_, rfl⟩
    rw [wh_at s h]; rfl
  · have he : s.toList.isEmpty = true := empty_yes s (by omega)
    go_enter Tryd.func36, Tryd.ntmps36
    go_wp2
    go_ret
    refine ⟨?_, rfl⟩
    rw [wh_size s (by omega)]; rfl

set_option maxHeartbeats 400000 in
theorem refWhole_any (s : ByteArray) (w : World) (hs : s.size ≤ maxLen) :
    Calls Tryd.prog 45 #[.string s] w fun e w' => e = .returned (.bool (Pl.wh s.data.toList)) ∧ w' = w := by
  unfold maxLen at hs
  by_cases h : 0 < s.size
  · go_enter Tryd.func45, Tryd.ntmps45
    go_wp2
    go_ret
    refine ⟨?_, rfl⟩
    rw [wh_at s h]; rfl
  · go_enter Tryd.func45, Tryd.ntmps45
    go_wp2
    go_ret
    refine ⟨?_, rfl⟩
    rw [wh_size s (by omega)]; rfl

/-- a string without its end -/
def bareB (s : ByteArray) : ByteArray := if Pl.wh s.data.toList = true then s.extract 0 (s.size - 1) else s

theorem wh_pos (s : ByteArray) (h : Pl.wh s.data.toList = true) : 0 < s.size := by
  by_cases h0 : s.size = 0
  · rw [wh_size s h0] at h; cases h
  · omega

set_option maxHeartbeats 400000 in
theorem bare_any (s : ByteArray) (w : World) (hs : s.size ≤ maxLen) :
    Calls Tryd.prog 16 #[.string s] w fun e w' => e = .returned (.string (bareB s)) ∧ w' = w := by
  have hs' := hs
  unfold maxLen at hs
  cases hw : Pl.wh s.data.toList with
  | true =>
    have hp := wh_pos s hw
    have hb : bareB s = s.extract 0 (s.size - 1) := if_pos hw
    rw [hb]; clear hb
    go_enter Tryd.func16, Tryd.ntmps16
    go_wp2_with (go_at_call 36; refine (whole_any _ _ hs').mono ?_; rintro e w' ⟨rfl, rfl⟩)
    all_goals go_ret
    all_goals exact ⟨rfl, rfl⟩
  | false =>
    have hb : bareB s = s := if_neg (by rw [hw]; simp)
    rw [hb]; clear hb
    go_enter Tryd.func16, Tryd.ntmps16
    go_wp2_with (go_at_call 36; refine (whole_any _ _ hs').mono ?_; rintro e w' ⟨rfl, rfl⟩)
    all_goals go_ret
    all_goals exact ⟨rfl, rfl⟩

set_option maxHeartbeats 400000 in
theorem refBare_any (s : ByteArray) (w : World) (hs : s.size ≤ maxLen) :
    Calls Tryd.prog 30 #[.string s] w fun e w' => e = .returned (.string (bareB s)) ∧ w' = w := by
  have hs' := hs
  unfold maxLen at hs
  cases hw : Pl.wh s.data.toList with
  | true =>
    have hp := wh_pos s hw
    have hb : bareB s = s.extract 0 (s.size - 1) := if_pos hw
    rw [hb]; clear hb
    go_enter Tryd.func30, Tryd.ntmps30
    go_wp2_with (go_at_call 45; refine (refWhole_any _ _ hs').mono ?_; rintro e w' ⟨rfl, rfl⟩)
    all_goals go_ret
    all_goals exact ⟨rfl, rfl⟩
  | false =>
    have hb : bareB s = s := if_neg (by rw [hw]; simp)
    rw [hb]; clear hb
    go_enter Tryd.func30, Tryd.ntmps30
    go_wp2_with (go_at_call 45; refine (refWhole_any _ _ hs').mono ?_; rintro e w' ⟨rfl, rfl⟩)
    all_goals go_ret
    all_goals exact ⟨rfl, rfl⟩

end Go.Proofs.YtjgjfnmljmmplaaDoor.Cx
