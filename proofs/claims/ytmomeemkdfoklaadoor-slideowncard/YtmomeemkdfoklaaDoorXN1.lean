/-
  The walks of the program's isBlank, trimmed, isSum, and of the document's Space, tail.
-/
import Derived.Test.YtmomeemkdfoklaaDoorXEnds
import Derived.Test.YtmomeemkdfoklaaDoorXN0
namespace Go.Proofs.YtmomeemkdfoklaaDoor.Cx
open Go.RowKit

theorem ret_bool {a b : Bool} (h : a = b) : Ending.returned (.bool a) = .returned (.bool b) := by rw [h]
theorem ret_str {a b : ByteArray} (h : a = b) : Ending.returned (.string a) = .returned (.string b) := by rw [h]
theorem ieq {n m : Int} (h : n = m) : (n == m) = true := by rw [h]; exact beq_self_eq_true _
theorem ine {n m : Int} (h : n ≠ m) : (n == m) = false := beq_false_of_ne h
theorem bl_num (c : UInt8) : In.bl c = ((c.toNat : Int) == 9 || (c.toNat : Int) == 11 || (c.toNat : Int) == 12 || (c.toNat : Int) == 13 || (c.toNat : Int) == 32) := by
  have := In.byte_all (fun c => In.bl c == ((c.toNat : Int) == 9 || (c.toNat : Int) == 11 || (c.toNat : Int) == 12 || (c.toNat : Int) == 13 || (c.toNat : Int) == 32)) (by decide +kernel) c
  exact eq_of_beq this

set_option maxHeartbeats 1000000 in
theorem isBlank_any (c : UInt8) (w : World) :
    Calls Tryd.prog 56 #[.int .u8 c.toNat] w fun e w' => e = .returned (.bool (In.bl c)) ∧ w' = w := by
  have HB := hid (bl_num c)
  generalize (c.toNat : Int) = n at HB ⊢
  by_cases h1 : n = 9
  · have HR : Hid (true = In.bl c) := hid (by rw [HB.out, ieq h1]; rfl)
    have h1' := ieq h1
    clear h1
    go_enter Tryd.func56, Tryd.ntmps56
    go_wp2
    go_ret
    exact ⟨ret_bool HR.out, rfl⟩
  · have e1 := ine h1
    clear h1
    by_cases h2 : n = 11
    · have e2 := ieq h2
      have HR : Hid (true = In.bl c) := hid (by rw [HB.out, e1, e2]; rfl)
      clear h2
      go_enter Tryd.func56, Tryd.ntmps56
      go_wp2
      go_ret
      exact ⟨ret_bool HR.out, rfl⟩
    · have e2 := ine h2
      clear h2
      by_cases h3 : n = 12
      · have e3 := ieq h3
        have HR : Hid (true = In.bl c) := hid (by rw [HB.out, e1, e2, e3]; rfl)
        clear h3
        go_enter Tryd.func56, Tryd.ntmps56
        go_wp2
        go_ret
        exact ⟨ret_bool HR.out, rfl⟩
      · have e3 := ine h3
        clear h3
        by_cases h4 : n = 13
        · have e4 := ieq h4
          have HR : Hid (true = In.bl c) := hid (by rw [HB.out, e1, e2, e3, e4]; rfl)
          clear h4
          go_enter Tryd.func56, Tryd.ntmps56
          go_wp2
          go_ret
          exact ⟨ret_bool HR.out, rfl⟩
        · have e4 := ine h4
          clear h4
          by_cases h5 : n = 32
          · have e5 := ieq h5
            have HR : Hid (true = In.bl c) := hid (by rw [HB.out, e1, e2, e3, e4, e5]; rfl)
            clear h5
            go_enter Tryd.func56, Tryd.ntmps56
            go_wp2
            go_ret
            exact ⟨ret_bool HR.out, rfl⟩
          · have e5 := ine h5
            have HR : Hid (false = In.bl c) := hid (by rw [HB.out, e1, e2, e3, e4, e5]; rfl)
            clear h5
            go_enter Tryd.func56, Tryd.ntmps56
            go_wp2
            go_ret
            exact ⟨ret_bool HR.out, rfl⟩

theorem take_snoc (s : ByteArray) (k : Nat) (h : k < s.size) : s.data.toList.take (k + 1) = s.data.toList.take k ++ [s[k]] := by
  rw [List.take_add_one, List.getElem?_eq_getElem (by rw [size_data]; exact h)]
  rfl
theorem take_all (s : ByteArray) : s.data.toList.take s.size = s.data.toList := List.take_of_length_le (Nat.le_of_eq (size_data s))
theorem ext_take (s : ByteArray) (k : Nat) : (s.extract 0 k).data.toList = s.data.toList.take k := by
  simp [ByteArray.data_extract]
theorem bytes_eta (s : ByteArray) : (⟨s.data.toList.toArray⟩ : ByteArray) = s := rfl
theorem bytes_of {s : ByteArray} {l : List UInt8} (h : s.data.toList = l) : s = ⟨l.toArray⟩ := by rw [← h]

set_option maxHeartbeats 1000000 in
theorem trimmed_any (s : ByteArray) (w : World) (hs : s.size ≤ maxLen) :
    Calls Tryd.prog 49 #[.string s] w fun e w' => e = .returned (.string ⟨(In.tl s.data.toList).toArray⟩) ∧ w' = w := by
  unfold maxLen at hs
  go_enter Tryd.func49, Tryd.ntmps49
  go_wp2
  go_loopw [3] (fun i wr => ∃ k : Nat, k ≤ s.size ∧ i = .int .i64 k ∧ wr = w ∧ Hid (In.tl (s.data.toList.take k) = In.tl s.data.toList)) (fun i _ => (intOf i).toNat)
  case atStart => exact ⟨s.size, Nat.le_refl _, rfl, rfl, hid (by rw [take_all])⟩
  case round =>
    obtain ⟨k, hk, rfl, rfl, HT⟩ := hrel
    cases k with
    | zero =>
      go_wp2
      go_ret
      refine ⟨ret_str (bytes_of ?_), rfl⟩
      rw [← HT.out]; rfl
    | succ k =>
      have hlt : k < s.size := by omega
      have HS := hid (take_snoc s k hlt)
      cases hb : In.bl s[k] with
      | true =>
        have HB := hid (In.tl_blank (s.data.toList.take k) s[k] hb)
        go_wp2_with (go_at_call 56; refine (isBlank_any _ _).mono ?_; rintro e w2 ⟨rfl, rfl⟩)
        go_roundw
        case rel => exact ⟨k, by omega, by go_num, by first | rfl | trivial, hid (by rw [← HT.out, HS.out, HB.out])⟩
        case measure => simp [intOf]
      | false =>
        have HB := hid (In.tl_else (s.data.toList.take k) s[k] hb)
        go_wp2_with (go_at_call 56; refine (isBlank_any _ _).mono ?_; rintro e w2 ⟨rfl, rfl⟩)
        go_ret
        refine ⟨ret_str (bytes_of ?_), rfl⟩
        rw [ext_take, ← HT.out, HS.out, HB.out]

set_option maxHeartbeats 1000000 in
theorem space_any (c : UInt8) (w : World) :
    Calls Tryd.prog 58 #[.int .u8 c.toNat] w fun e w' => e = .returned (.bool (In.bl c)) ∧ w' = w := by
  have HB := hid (bl_num c)
  generalize (c.toNat : Int) = n at HB ⊢
  go_enter Tryd.func58, Tryd.ntmps58
  go_wp2
  all_goals go_ret
  all_goals exact ⟨ret_bool (HB.out.trans (by simp [*])).symm, rfl⟩

def lenOf : Value → Nat
  | .string s => s.size
  | _ => 0
set_option maxHeartbeats 1000000 in
theorem tail_any (s : ByteArray) (w : World) (hs : s.size ≤ maxLen) :
    Calls Tryd.prog 51 #[.string s] w fun e w' => e = .returned (.string ⟨(In.tl s.data.toList).toArray⟩) ∧ w' = w := by
  unfold maxLen at hs
  go_enter Tryd.func51, Tryd.ntmps51
  go_wp2
  go_loopw [0] (fun t wr => ∃ x : ByteArray, t = .string x ∧ x.size ≤ s.size ∧ wr = w ∧ Hid (In.tl x.data.toList = In.tl s.data.toList)) (fun t _ => lenOf t)
  case atStart => exact ⟨s, rfl, Nat.le_refl _, rfl, rfl⟩
  case round =>
    obtain ⟨x, rfl, hk, rfl, HT⟩ := hrel
    by_cases h0 : x.size = 0
    · have he : x.toList.isEmpty = true := empty_yes x h0
      go_wp2
      go_ret
      refine ⟨ret_str (bytes_of ?_), rfl⟩
      have h1 : x.data.toList = [] := List.length_eq_zero_iff.1 (by rw [size_data]; exact h0)
      rw [← HT.out, h1]; rfl
    · have he : x.toList.isEmpty = false := empty_no x h0
      obtain ⟨k, hk1⟩ : ∃ k, x.size = k + 1 := ⟨x.size - 1, by omega⟩
      have hlt : k < x.size := by omega
      have HS := hid (take_snoc x k hlt)
      have HA : Hid (x.data.toList = x.data.toList.take k ++ [x[k]]) := hid (by rw [← HS.out, ← hk1, take_all])
      have hk2 : x.size - 1 = k := by omega
      cases hb : In.bl x[k] with
      | true =>
        have HB := hid (In.tl_blank (x.data.toList.take k) x[k] hb)
        have HN := hid hk1
        go_wp2_with (go_at_call 58; refine (space_any _ _).mono ?_; rintro e w2 ⟨rfl, rfl⟩)
        go_roundw
        case rel => exact ⟨x.extract 0 k, rfl, by rw [ByteArray.size_extract]; omega, by first | rfl | trivial, hid (by rw [ext_take, ← HT.out, ← HB.out, ← HA.out])⟩
        case measure =>
          show (x.extract 0 k).size < x.size
          rw [ByteArray.size_extract]; omega
      | false =>
        have HB := hid (In.tl_else (x.data.toList.take k) x[k] hb)
        go_wp2_with (go_at_call 58; refine (space_any _ _).mono ?_; rintro e w2 ⟨rfl, rfl⟩)
        go_ret
        refine ⟨ret_str (bytes_of ?_), rfl⟩
        rw [← HT.out, HA.out, HB.out]
end Go.Proofs.YtmomeemkdfoklaaDoor.Cx
