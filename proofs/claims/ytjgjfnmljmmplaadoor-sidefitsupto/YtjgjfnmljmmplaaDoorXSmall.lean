/-
  The walks of the program's firstLength, Count and Place: for every string.
-/
import Derived.Test.YtjgjfnmljmmplaaDoorGrS6
import Derived.Test.YtjgjfnmljmmplaaDoorShelf
namespace Go.Proofs.YtjgjfnmljmmplaaDoor.Cx
open Go.RowKit

set_option maxHeartbeats 400000 in
theorem first_any (s : ByteArray) (w : World) (hs : s.size ≤ maxLen) :
    Calls Tryd.prog 32 #[.string s] w fun e w' => e = .returned (.int .i64 (Pl.fl s.data.toList)) ∧ w' = w := by
  unfold maxLen at hs
  have hge := Lib.indexByte_ge s.data.toList 10
  have hle := Pl.fl_le s.data.toList
  rw [size_data] at hle
  by_cases h : Lib.indexByte s.data.toList 10 < 0
  · have hf : Pl.fl s.data.toList = s.size := by unfold Pl.fl; rw [if_pos h, size_data]
    have hn : ¬ (0 ≤ Lib.indexByte s.data.toList 10) := by omega
    rw [hf]; clear hf hle
    go_enter Tryd.func32, Tryd.ntmps32
    go_wp2_with (go_at_call 55; refine (Tryd.strings_IndexByte _ _ _).mono ?_; rintro e w' ⟨rfl, rfl⟩; rw [show ((10 : Int).toNat.toUInt8) = 10 from rfl])
    all_goals go_ret
    all_goals exact ⟨rfl, rfl⟩
  · have hf : (Pl.fl s.data.toList : Int) = Lib.indexByte s.data.toList 10 + 1 := by unfold Pl.fl; rw [if_neg h]; omega
    have hn : 0 ≤ Lib.indexByte s.data.toList 10 := by omega
    have hl : Lib.indexByte s.data.toList 10 + 1 ≤ s.size := by omega
    rw [hf]; clear hf hle
    go_enter Tryd.func32, Tryd.ntmps32
    go_wp2_with (go_at_call 55; refine (Tryd.strings_IndexByte _ _ _).mono ?_; rintro e w' ⟨rfl, rfl⟩; rw [show ((10 : Int).toNat.toUInt8) = 10 from rfl])
    all_goals go_ret
    all_goals exact ⟨rfl, rfl⟩

theorem count_le (s : ByteArray) : Lib.countByte s.data.toList 10 ≤ s.size := by
  unfold Lib.countByte
  have h1 : List.count (10 : UInt8) s.data.toList ≤ s.data.toList.length := List.count_le_length
  rw [size_data] at h1
  exact h1

theorem num_no (s : ByteArray) (h : s.size = 0 ∨ Pl.wh s.data.toList = true) : Pl.num s.data.toList = Lib.countByte s.data.toList 10 := by
  unfold Pl.num
  rw [if_neg]
  · rfl
  · rintro ⟨h1, h2⟩
    rcases h with h | h
    · exact h1 (by rw [← List.length_eq_zero_iff, size_data]; exact h)
    · rw [h] at h2; cases h2
theorem num_yes (s : ByteArray) (h1 : s.size ≠ 0) (h2 : Pl.wh s.data.toList = false) : (Pl.num s.data.toList : Int) = Lib.countByte s.data.toList 10 + 1 := by
  unfold Pl.num
  rw [if_pos ⟨fun e => h1 (by rw [← size_data, e]; rfl), h2⟩]
  omega

set_option maxHeartbeats 400000 in
theorem count_any (s : ByteArray) (w : World) (hs : s.size < maxLen) :
    Calls Tryd.prog 31 #[.string s] w fun e w' => e = .returned (.int .i64 (Pl.num s.data.toList)) ∧ w' = w := by
  have hs' : s.size ≤ maxLen := Nat.le_of_lt hs
  unfold maxLen at hs
  have hc := count_le s
  by_cases h0 : s.size = 0
  · rw [num_no s (.inl h0)]
    have he := empty_yes s h0
    have HW := hid h0
    clear h0
    go_enter Tryd.func31, Tryd.ntmps31
    go_wp2_with (first | (go_at_call 54; refine (Tryd.strings_Count_one _ _ _).mono ?_; rintro e w' ⟨rfl, rfl⟩) | (go_at_call 36; refine (whole_any _ _ hs').mono ?_; rintro e w' ⟨rfl, rfl⟩))
    all_goals go_ret
    all_goals exact ⟨rfl, rfl⟩
  · have he := empty_no s h0
    cases hw : Pl.wh s.data.toList with
    | true =>
      rw [num_no s (.inr hw)]
      go_enter Tryd.func31, Tryd.ntmps31
      go_wp2_with (first | (go_at_call 54; refine (Tryd.strings_Count_one _ _ _).mono ?_; rintro e w' ⟨rfl, rfl⟩) | (go_at_call 36; refine (whole_any _ _ hs').mono ?_; rintro e w' ⟨rfl, rfl⟩))
      all_goals go_ret
      all_goals exact ⟨rfl, rfl⟩
    | false =>
      rw [num_yes s h0 hw]
      go_enter Tryd.func31, Tryd.ntmps31
      go_wp2_with (first | (go_at_call 54; refine (Tryd.strings_Count_one _ _ _).mono ?_; rintro e w' ⟨rfl, rfl⟩) | (go_at_call 36; refine (whole_any _ _ hs').mono ?_; rintro e w' ⟨rfl, rfl⟩))
      all_goals go_ret
      all_goals exact ⟨rfl, rfl⟩

theorem byte_at (s : ByteArray) (k : Nat) (h : k < s.size) : s.data.toList[k]? = some s[k] := by
  rw [List.getElem?_eq_getElem (by rw [size_data]; exact h)]; rfl
theorem last_upto (s : ByteArray) (o : Nat) (ho : o ≤ s.size) : ∀ k, k ≤ o → Lib.lastIdx (s.extract 0 o) 10 k = Lib.lastIdx s 10 k := by
  intro k
  induction k with
  | zero => intro _; rfl
  | succ k ih =>
    intro hk
    have hsz : (s.extract 0 o).size = o := by simp; omega
    have e : (s.extract 0 o).data[k]! = s.data[k]! := by
      rw [at_bang s k (by omega), at_bang _ k (by omega)]
      have h1 := byte_at (s.extract 0 o) k (by omega)
      have h2 := byte_at s k (by omega)
      rw [Lib.extract_data, List.drop_zero, List.getElem?_take, if_pos (by omega), h2] at h1
      exact (Option.some.inj h1).symm
    unfold Lib.lastIdx
    rw [e, ih (by omega)]

theorem ahead_last (s : ByteArray) (o : Nat) (ho : o ≤ s.size) : Lib.lastIndexByte (s.extract 0 o) 10 = lst s o := by
  have hsz : (s.extract 0 o).size = o := by simp; omega
  unfold Lib.lastIndexByte lst
  rw [hsz]
  exact last_upto s o ho o (Nat.le_refl _)
theorem ahead_count (s : ByteArray) (o : Nat) : (Lib.countByte (s.extract 0 o).data.toList 10 : Int) = cnt s o := by
  unfold cnt
  rw [Lib.extract_data]
  simp

end Go.Proofs.YtjgjfnmljmmplaaDoor.Cx
