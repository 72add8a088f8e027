/-
  The walks of the program's readByte, readQuoted and Unquote: for every string.
-/
import Derived.Test.YtkolgglllladfaaGreatDoorXQ4
namespace Go.Proofs.YtkolgglllladfaaGreatDoor.Cx
open Go.RowKit

theorem letters_list : (ByteArray.mk #[97, 98, 116, 110, 118, 102, 114, 34, 92]).data.toList = Pq.letters := rfl
theorem three (s : ByteArray) (h : 4 ≤ s.size) : (s.extract 1 4).data.toList = [s[1], s[2], s[3]] := by
  rw [Lib.extract_data, data4 s h]
  simp
theorem three_oct (s : ByteArray) (h : 4 ≤ s.size) : isOct (s.extract 1 4) = (Pq.oct s[1] && Pq.oct s[2] && Pq.oct s[3] && decide (s[1].toNat ≤ 51)) := by
  unfold isOct
  rw [three s h]
  simp [Bool.and_assoc]

theorem bits_all : ((List.range 4).all fun x => (List.range 8).all fun y => (List.range 8).all fun z => bits .or .u8 (bits .or .u8 ((x : Int) * 64) ((y : Int) * 8)) (z : Int) == ((x * 64 + y * 8 + z : Nat) : Int)) = true := by decide +kernel
theorem bits_oct (a b c : UInt8) (h1 : (48 : Int) ≤ a.toNat ∧ (a.toNat : Int) ≤ 51) (h2 : (48 : Int) ≤ b.toNat ∧ (b.toNat : Int) ≤ 55) (h3 : (48 : Int) ≤ c.toNat ∧ (c.toNat : Int) ≤ 55) :
    bits .or .u8 (bits .or .u8 (((a.toNat : Int) - 48) * 64) (((b.toNat : Int) - 48) * 8)) ((c.toNat : Int) - 48) = ((((a.toNat - 48) * 64 + (b.toNat - 48) * 8 + (c.toNat - 48)).toUInt8.toNat : Nat) : Int) := by
  obtain ⟨x, hx⟩ : ∃ x, x = a.toNat - 48 := ⟨_, rfl⟩
  obtain ⟨y, hy⟩ : ∃ y, y = b.toNat - 48 := ⟨_, rfl⟩
  obtain ⟨z, hz⟩ : ∃ z, z = c.toNat - 48 := ⟨_, rfl⟩
  rw [← hx, ← hy, ← hz, byte_of _ (by omega), show (a.toNat : Int) - 48 = x by omega, show (b.toNat : Int) - 48 = y by omega, show (c.toNat : Int) - 48 = z by omega]
  have h := List.all_eq_true.1 (List.all_eq_true.1 (List.all_eq_true.1 bits_all x (List.mem_range.2 (by omega))) y (List.mem_range.2 (by omega))) z (List.mem_range.2 (by omega))
  exact eq_of_beq h

set_option maxHeartbeats 1000000 in
theorem readByte_self (s : ByteArray) (w : World) (_hs : s.size ≤ maxLen) (h1 : 1 ≤ s.size) (h0 : s[0] ≠ 92) :
    Calls Tryz.prog 122 #[.string s] w fun e w' => e = .returned (.tuple #[.int .u8 (rbV s).1.toNat, .int .i64 (rbV s).2]) ∧ ∃ m, w' = w.drewN m := by
  have HV := hid (rbV_some (rb_self s h1 h0))
  have e0 : ((s[0].toNat : Int) != 92) = true := by
    rw [bne_iff_ne]
    exact fun e => h0 (UInt8.toNat_inj.1 (by show _ = 92; omega))
  clear h0
  go_enter Tryz.func122, Tryz.ntmps122
  go_wp2
  go_ret2
  exact ⟨by rw [HV.out]; rfl, 0, rfl⟩

set_option maxHeartbeats 1000000 in
theorem readByte_short (s : ByteArray) (w : World) (h1 : 1 ≤ s.size) (h2 : s.size < 2) (h0 : s[0] = 92) :
    Calls Tryz.prog 122 #[.string s] w fun e w' => e = .returned (.tuple #[.int .u8 (rbV s).1.toNat, .int .i64 (rbV s).2]) ∧ ∃ m, w' = w.drewN m := by
  have HV := hid (rbV_none (rb_short s h1 h2 h0))
  have e0 : ((s[0].toNat : Int) != 92) = false := by rw [h0]; rfl
  have d2 : decide ((2 : Int) ≤ (s.size : Int)) = false := decide_eq_false (by omega)
  have d4 : decide ((4 : Int) ≤ (s.size : Int)) = false := decide_eq_false (by omega)
  clear h0
  go_enter Tryz.func122, Tryz.ntmps122
  go_wp2
  go_ret2
  exact ⟨by rw [HV.out]; rfl, 0, rfl⟩

set_option maxHeartbeats 1000000 in
theorem readByte_letter (s : ByteArray) (w : World) (hs : s.size ≤ maxLen) (h2 : 2 ≤ s.size) (h0 : s[0] = 92) (hi : (0 : Int) ≤ Lib.indexByte Pq.letters s[1]) :
    Calls Tryz.prog 122 #[.string s] w fun e w' => e = .returned (.tuple #[.int .u8 (rbV s).1.toNat, .int .i64 (rbV s).2]) ∧ ∃ m, w' = w.drewN m := by
  unfold maxLen at hs
  obtain ⟨k, hk, hk9⟩ := index_lt Pq.letters s[1] hi
  have hk9' : k < 9 := hk9
  have HV : Hid (rbV s = ((ByteArray.mk #[7, 8, 9, 10, 11, 12, 13, 34, 92])[k], 2)) := hid (by
    rw [rbV_some (rb_letter s h2 h0 hi), hk, meant_data k hk9', Int.toNat_natCast, List.getD_eq_getElem?_getD, List.getElem?_eq_getElem (by exact hk9')]
    rfl)
  have HK := hid hk
  have e0 : ((s[0].toNat : Int) != 92) = false := by rw [h0]; rfl
  have d2 : decide ((2 : Int) ≤ (s.size : Int)) = true := decide_eq_true (by omega)
  have hk9'' : (k : Int) < 9 := by omega
  clear h0 hi hk hk9
  go_enter Tryz.func122, Tryz.ntmps122
  go_wp2_with fail
  refine (Tryz.strings_IndexByte _ _ _).mono ?_
  rintro e w' ⟨rfl, rfl⟩
  rw [byte_back, letters_list, HK.out]
  go_wp2
  go_ret2
  exact ⟨by rw [HV.out]; rfl, 0, rfl⟩

set_option maxHeartbeats 1000000 in
theorem readByte_few (s : ByteArray) (w : World) (h2 : 2 ≤ s.size) (h4 : s.size < 4) (h0 : s[0] = 92) (hi : ¬ (0 : Int) ≤ Lib.indexByte Pq.letters s[1]) :
    Calls Tryz.prog 122 #[.string s] w fun e w' => e = .returned (.tuple #[.int .u8 (rbV s).1.toNat, .int .i64 (rbV s).2]) ∧ ∃ m, w' = w.drewN m := by
  have HV := hid (rbV_none (rb_few s h2 h4 h0 hi))
  have hge := Lib.indexByte_ge Pq.letters s[1]
  have HK := hid (show Lib.indexByte Pq.letters s[1] = -1 by omega)
  have e0 : ((s[0].toNat : Int) != 92) = false := by rw [h0]; rfl
  have d2 : decide ((2 : Int) ≤ (s.size : Int)) = true := decide_eq_true (by omega)
  have d4 : decide ((4 : Int) ≤ (s.size : Int)) = false := decide_eq_false (by omega)
  clear h0 hi hge
  go_enter Tryz.func122, Tryz.ntmps122
  go_wp2_with fail
  refine (Tryz.strings_IndexByte _ _ _).mono ?_
  rintro e w' ⟨rfl, rfl⟩
  rw [byte_back, letters_list, HK.out]
  go_wp2
  go_ret2
  exact ⟨by rw [HV.out]; rfl, 0, rfl⟩

set_option maxHeartbeats 1000000 in
theorem readByte_four (s : ByteArray) (w : World) (hs : s.size ≤ maxLen) (h4 : 4 ≤ s.size) (h0 : s[0] = 92) (hi : ¬ (0 : Int) ≤ Lib.indexByte Pq.letters s[1]) :
    Calls Tryz.prog 122 #[.string s] w fun e w' => e = .returned (.tuple #[.int .u8 (rbV s).1.toNat, .int .i64 (rbV s).2]) ∧ ∃ m, w' = w.drewN m := by
  unfold maxLen at hs
  have hr := rb_four s h4 h0 hi
  have ht := three_oct s h4
  have hge := Lib.indexByte_ge Pq.letters s[1]
  have HK := hid (show Lib.indexByte Pq.letters s[1] = -1 by omega)
  have e0 : ((s[0].toNat : Int) != 92) = false := by rw [h0]; rfl
  have d2 : decide ((2 : Int) ≤ (s.size : Int)) = true := decide_eq_true (by omega)
  have d4 : decide ((4 : Int) ≤ (s.size : Int)) = true := decide_eq_true (by omega)
  have h3 : (s.extract 1 4).size = 3 := by simp; omega
  have H3 := hid h3
  clear h0 hi hge h3
  by_cases ho : Pq.oct s[1] = true ∧ Pq.oct s[2] = true ∧ Pq.oct s[3] = true ∧ s[1].toNat ≤ 51
  · rw [if_pos ho] at hr
    have HT : Hid (isOct (s.extract 1 4) = true) := hid (by rw [ht, ho.1, ho.2.1, ho.2.2.1]; simpa using ho.2.2.2)
    have HV := hid (rbV_some hr)
    obtain ⟨o1, o2, o3, ho⟩ := ho
    simp [Pq.oct] at o1 o2 o3
    have b1 : (48 : Int) ≤ s[1].toNat ∧ (s[1].toNat : Int) ≤ 51 := by omega
    have b2 : (48 : Int) ≤ s[2].toNat ∧ (s[2].toNat : Int) ≤ 55 := by omega
    have b3 : (48 : Int) ≤ s[3].toNat ∧ (s[3].toNat : Int) ≤ 55 := by omega
    have g1 : (1 : Int) < (s.size : Int) := by omega
    have g2 : (2 : Int) < (s.size : Int) := by omega
    have g3 : (3 : Int) < (s.size : Int) := by omega
    clear hr ht o1 o2 o3 ho
    go_enter Tryz.func122, Tryz.ntmps122
    go_wp2_with fail
    refine (Tryz.strings_IndexByte _ _ _).mono ?_
    rintro e w' ⟨rfl, rfl⟩
    rw [byte_back, letters_list, HK.out]
    go_wp2_with fail
    refine (isOctal_any _ _ (by rw [H3.out]; omega) (by rw [H3.out]; unfold maxLen; omega)).mono ?_
    rintro e w' ⟨rfl, rfl⟩
    rw [HT.out]
    go_wp2
    go_quiet (fail)
    go_wp2
    go_ret2
    refine ⟨?_, _, rfl⟩
    rw [HV.out]
    exact ret_two (congrArg (Value.int .u8) (bits_oct s[1] s[2] s[3] b1 b2 b3)) rfl
  · rw [if_neg ho] at hr
    have HT : Hid (isOct (s.extract 1 4) = false) := hid (by
      rw [ht]
      cases h1 : Pq.oct s[1] <;> cases h2 : Pq.oct s[2] <;> cases h3 : Pq.oct s[3] <;> simp [h1, h2, h3] at ho ⊢
      omega)
    have HV := hid (rbV_none hr)
    clear hr ht ho
    go_enter Tryz.func122, Tryz.ntmps122
    go_wp2_with fail
    refine (Tryz.strings_IndexByte _ _ _).mono ?_
    rintro e w' ⟨rfl, rfl⟩
    rw [byte_back, letters_list, HK.out]
    go_wp2_with fail
    refine (isOctal_any _ _ (by rw [H3.out]; omega) (by rw [H3.out]; unfold maxLen; omega)).mono ?_
    rintro e w' ⟨rfl, rfl⟩
    rw [HT.out]
    go_wp2
    go_ret2
    exact ⟨by rw [HV.out]; rfl, 0, rfl⟩

theorem readByte_any (s : ByteArray) (w : World) (hs : s.size ≤ maxLen) (h1 : 1 ≤ s.size) :
    Calls Tryz.prog 122 #[.string s] w fun e w' => e = .returned (.tuple #[.int .u8 (rbV s).1.toNat, .int .i64 (rbV s).2]) ∧ ∃ m, w' = w.drewN m := by
  by_cases h0 : s[0] = 92
  · by_cases h2 : s.size < 2
    · exact readByte_short s w h1 h2 h0
    · by_cases hi : (0 : Int) ≤ Lib.indexByte Pq.letters s[1]
      · exact readByte_letter s w hs (by omega) h0 hi
      · by_cases h4 : s.size < 4
        · exact readByte_few s w (by omega) h4 h0 hi
        · exact readByte_four s w hs (by omega) h0 hi
  · exact readByte_self s w hs h1 h0
end Go.Proofs.YtkolgglllladfaaGreatDoor.Cx
