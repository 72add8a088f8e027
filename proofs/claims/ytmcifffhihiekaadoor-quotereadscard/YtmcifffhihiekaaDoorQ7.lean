/-
  The walk of the document's read where two bytes or more are there: for every string.
-/
import Derived.Test.YtmcifffhihiekaaDoorQ4
namespace Go.Proofs.YtmcifffhihiekaaDoor
open Go.RowKit

set_option maxHeartbeats 2000000 in
theorem read_few (s : ByteArray) (w : World) (hs : s.size ≤ maxLen) (h2 : 2 ≤ s.size) (h0 : s[0] = 92) (h4 : s.size < 4) :
    Calls Tryd.prog 23 #[.string s] w fun e w' => e = .returned (.tuple #[.int .u8 (rbV s).1.toNat, .int .i64 (rbV s).2]) ∧ ∃ m, w' = w.drewN m := by
  unfold maxLen at hs
  have e0 : ((s[0].toNat : Int) != 92) = false := by rw [h0]; rfl
  have dA : decide ((s.size : Int) < 2) = false := decide_eq_false (by omega)
  have h21 : (1 : Int) < (s.size : Int) := by omega
  have H0 := hid h0
  clear h0
  have c1 := s[1].toNat_lt
  go_enter Tryd.func23, Tryd.ntmps23
  go_wp2
  go_loopw [4] (fun i wr => ∃ k : Nat, k ≤ 9 ∧ i = .int .i64 k ∧ s[1] ∉ Pq.letters.take k ∧ ∃ m, wr = w.drewN m) (fun i _ => 9 - (intOf i).toNat)
  case atStart => exact ⟨0, Nat.zero_le _, rfl, by simp, 0, rfl⟩
  case round =>
    obtain ⟨k, hk, rfl, ha, m, rfl⟩ := hrel
    have HA := hid ha
    clear ha
    by_cases hlt : k < 9
    · have hlt' : (k : Int) < 9 := by omega
      go_wp2
      go_quiet (fail)
      go_wp2
      · have ht : (((ByteArray.mk #[97, 98, 116, 110, 118, 102, 114, 34, 92])[k].toNat : Int) == (s[1].toNat : Int)) = true := by assumption
        go_ret2
        exact ⟨by rw [read_hit s k hlt h2 H0.out HA.out ht]; rfl, _, rfl⟩
      · have ht : (((ByteArray.mk #[97, 98, 116, 110, 118, 102, 114, 34, 92])[k].toNat : Int) == (s[1].toNat : Int)) = false := by assumption
        go_roundw
        case rel => exact ⟨k + 1, by omega, by go_num, read_miss s[1] k hlt HA.out ht, _, rfl⟩
        case measure => simp [intOf]; omega
    · have hk9 : k = 9 := by omega
      subst hk9
      have hi : ¬ (0 : Int) ≤ Lib.indexByte Pq.letters s[1] := by rw [index_none Pq.letters s[1] HA.out]; omega
      clear HA hk hlt
      have HV := hid (rb_few s h2 h4 H0.out hi)
      have dB : decide ((s.size : Int) < 4) = true := decide_eq_true (by omega)
      clear hi H0
      go_wp2
      go_ret2
      exact ⟨by rw [rbV_none HV.out]; rfl, _, rfl⟩

set_option maxHeartbeats 2000000 in
theorem read_one (s : ByteArray) (w : World) (hs : s.size ≤ maxLen) (h2 : 2 ≤ s.size) (h0 : s[0] = 92) (h4 : 4 ≤ s.size) (o1 : Pq.oct s[1] = false) :
    Calls Tryd.prog 23 #[.string s] w fun e w' => e = .returned (.tuple #[.int .u8 (rbV s).1.toNat, .int .i64 (rbV s).2]) ∧ ∃ m, w' = w.drewN m := by
  unfold maxLen at hs
  have e0 : ((s[0].toNat : Int) != 92) = false := by rw [h0]; rfl
  have dA : decide ((s.size : Int) < 2) = false := decide_eq_false (by omega)
  have h21 : (1 : Int) < (s.size : Int) := by omega
  have dB : decide ((s.size : Int) < 4) = false := decide_eq_false (by omega)
  have h23 : (2 : Int) < (s.size : Int) := by omega
  have h33 : (3 : Int) < (s.size : Int) := by omega
  have O1 := hid (octN_no o1)
  have OO := hid o1
  clear o1
  have H0 := hid h0
  clear h0
  have c1 := s[1].toNat_lt
  go_enter Tryd.func23, Tryd.ntmps23
  go_wp2
  go_loopw [4] (fun i wr => ∃ k : Nat, k ≤ 9 ∧ i = .int .i64 k ∧ s[1] ∉ Pq.letters.take k ∧ ∃ m, wr = w.drewN m) (fun i _ => 9 - (intOf i).toNat)
  case atStart => exact ⟨0, Nat.zero_le _, rfl, by simp, 0, rfl⟩
  case round =>
    obtain ⟨k, hk, rfl, ha, m, rfl⟩ := hrel
    have HA := hid ha
    clear ha
    by_cases hlt : k < 9
    · have hlt' : (k : Int) < 9 := by omega
      go_wp2
      go_quiet (fail)
      go_wp2
      · have ht : (((ByteArray.mk #[97, 98, 116, 110, 118, 102, 114, 34, 92])[k].toNat : Int) == (s[1].toNat : Int)) = true := by assumption
        go_ret2
        exact ⟨by rw [read_hit s k hlt h2 H0.out HA.out ht]; rfl, _, rfl⟩
      · have ht : (((ByteArray.mk #[97, 98, 116, 110, 118, 102, 114, 34, 92])[k].toNat : Int) == (s[1].toNat : Int)) = false := by assumption
        go_roundw
        case rel => exact ⟨k + 1, by omega, by go_num, read_miss s[1] k hlt HA.out ht, _, rfl⟩
        case measure => simp [intOf]; omega
    · have hk9 : k = 9 := by omega
      subst hk9
      have hi : ¬ (0 : Int) ≤ Lib.indexByte Pq.letters s[1] := by rw [index_none Pq.letters s[1] HA.out]; omega
      clear HA hk hlt
      have HV : Hid (Pq.rb s.data.toList = none) := hid (by rw [rb_four s h4 H0.out hi, OO.out]; simp)
      clear hi H0 OO
      go_wp2_with fail
      refine (octal_any _ _).mono ?_
      rintro e w' ⟨rfl, rfl⟩
      rw [O1.out]
      go_wp2
      go_ret2
      exact ⟨by rw [rbV_none HV.out]; rfl, _, rfl⟩

set_option maxHeartbeats 2000000 in
theorem read_high (s : ByteArray) (w : World) (hs : s.size ≤ maxLen) (h2 : 2 ≤ s.size) (h0 : s[0] = 92) (h4 : 4 ≤ s.size) (x : Nat) (O1 : Hid (octN s[1] = x)) (x1 : s[1].toNat = 48 + x) (x8 : x < 8) (hx : 3 < x) :
    Calls Tryd.prog 23 #[.string s] w fun e w' => e = .returned (.tuple #[.int .u8 (rbV s).1.toNat, .int .i64 (rbV s).2]) ∧ ∃ m, w' = w.drewN m := by
  unfold maxLen at hs
  have e0 : ((s[0].toNat : Int) != 92) = false := by rw [h0]; rfl
  have dA : decide ((s.size : Int) < 2) = false := decide_eq_false (by omega)
  have h21 : (1 : Int) < (s.size : Int) := by omega
  have dB : decide ((s.size : Int) < 4) = false := decide_eq_false (by omega)
  have h23 : (2 : Int) < (s.size : Int) := by omega
  have h33 : (3 : Int) < (s.size : Int) := by omega
  have dx : decide ((3 : Int) < (x : Int)) = true := decide_eq_true (by omega)
  have X1 := hid x1
  clear x1
  have H0 := hid h0
  clear h0
  have c1 := s[1].toNat_lt
  go_enter Tryd.func23, Tryd.ntmps23
  go_wp2
  go_loopw [4] (fun i wr => ∃ k : Nat, k ≤ 9 ∧ i = .int .i64 k ∧ s[1] ∉ Pq.letters.take k ∧ ∃ m, wr = w.drewN m) (fun i _ => 9 - (intOf i).toNat)
  case atStart => exact ⟨0, Nat.zero_le _, rfl, by simp, 0, rfl⟩
  case round =>
    obtain ⟨k, hk, rfl, ha, m, rfl⟩ := hrel
    have HA := hid ha
    clear ha
    by_cases hlt : k < 9
    · have hlt' : (k : Int) < 9 := by omega
      go_wp2
      go_quiet (fail)
      go_wp2
      · have ht : (((ByteArray.mk #[97, 98, 116, 110, 118, 102, 114, 34, 92])[k].toNat : Int) == (s[1].toNat : Int)) = true := by assumption
        go_ret2
        exact ⟨by rw [read_hit s k hlt h2 H0.out HA.out ht]; rfl, _, rfl⟩
      · have ht : (((ByteArray.mk #[97, 98, 116, 110, 118, 102, 114, 34, 92])[k].toNat : Int) == (s[1].toNat : Int)) = false := by assumption
        go_roundw
        case rel => exact ⟨k + 1, by omega, by go_num, read_miss s[1] k hlt HA.out ht, _, rfl⟩
        case measure => simp [intOf]; omega
    · have hk9 : k = 9 := by omega
      subst hk9
      have hi : ¬ (0 : Int) ≤ Lib.indexByte Pq.letters s[1] := by rw [index_none Pq.letters s[1] HA.out]; omega
      clear HA hk hlt
      have HV : Hid (Pq.rb s.data.toList = none) := hid (by rw [rb_four s h4 H0.out hi, if_neg (by have := X1.out; omega)])
      clear hi H0 X1
      go_wp2_with fail
      refine (octal_any _ _).mono ?_
      rintro e w' ⟨rfl, rfl⟩
      rw [O1.out]
      go_wp2_with fail
      refine (octal_any _ _).mono ?_
      rintro e w' ⟨rfl, rfl⟩
      rw [O1.out]
      go_wp2
      go_ret2
      exact ⟨by rw [rbV_none HV.out]; rfl, _, rfl⟩

set_option maxHeartbeats 2000000 in
theorem read_two (s : ByteArray) (w : World) (hs : s.size ≤ maxLen) (h2 : 2 ≤ s.size) (h0 : s[0] = 92) (h4 : 4 ≤ s.size) (x : Nat) (O1 : Hid (octN s[1] = x)) (_x8 : x < 8) (hx : ¬ 3 < x) (o2 : Pq.oct s[2] = false) :
    Calls Tryd.prog 23 #[.string s] w fun e w' => e = .returned (.tuple #[.int .u8 (rbV s).1.toNat, .int .i64 (rbV s).2]) ∧ ∃ m, w' = w.drewN m := by
  unfold maxLen at hs
  have e0 : ((s[0].toNat : Int) != 92) = false := by rw [h0]; rfl
  have dA : decide ((s.size : Int) < 2) = false := decide_eq_false (by omega)
  have h21 : (1 : Int) < (s.size : Int) := by omega
  have dB : decide ((s.size : Int) < 4) = false := decide_eq_false (by omega)
  have h23 : (2 : Int) < (s.size : Int) := by omega
  have h33 : (3 : Int) < (s.size : Int) := by omega
  have dx : decide ((3 : Int) < (x : Int)) = false := decide_eq_false (by omega)
  have O2 := hid (octN_no o2)
  have OO := hid o2
  clear o2
  have H0 := hid h0
  clear h0
  have c1 := s[1].toNat_lt
  go_enter Tryd.func23, Tryd.ntmps23
  go_wp2
  go_loopw [4] (fun i wr => ∃ k : Nat, k ≤ 9 ∧ i = .int .i64 k ∧ s[1] ∉ Pq.letters.take k ∧ ∃ m, wr = w.drewN m) (fun i _ => 9 - (intOf i).toNat)
  case atStart => exact ⟨0, Nat.zero_le _, rfl, by simp, 0, rfl⟩
  case round =>
    obtain ⟨k, hk, rfl, ha, m, rfl⟩ := hrel
    have HA := hid ha
    clear ha
    by_cases hlt : k < 9
    · have hlt' : (k : Int) < 9 := by omega
      go_wp2
      go_quiet (fail)
      go_wp2
      · have ht : (((ByteArray.mk #[97, 98, 116, 110, 118, 102, 114, 34, 92])[k].toNat : Int) == (s[1].toNat : Int)) = true := by assumption
        go_ret2
        exact ⟨by rw [read_hit s k hlt h2 H0.out HA.out ht]; rfl, _, rfl⟩
      · have ht : (((ByteArray.mk #[97, 98, 116, 110, 118, 102, 114, 34, 92])[k].toNat : Int) == (s[1].toNat : Int)) = false := by assumption
        go_roundw
        case rel => exact ⟨k + 1, by omega, by go_num, read_miss s[1] k hlt HA.out ht, _, rfl⟩
        case measure => simp [intOf]; omega
    · have hk9 : k = 9 := by omega
      subst hk9
      have hi : ¬ (0 : Int) ≤ Lib.indexByte Pq.letters s[1] := by rw [index_none Pq.letters s[1] HA.out]; omega
      clear HA hk hlt
      have HV : Hid (Pq.rb s.data.toList = none) := hid (by rw [rb_four s h4 H0.out hi, OO.out]; simp)
      clear hi H0 OO
      go_wp2_with fail
      refine (octal_any _ _).mono ?_
      rintro e w' ⟨rfl, rfl⟩
      rw [O1.out]
      go_wp2_with fail
      refine (octal_any _ _).mono ?_
      rintro e w' ⟨rfl, rfl⟩
      rw [O1.out]
      go_wp2_with fail
      refine (octal_any _ _).mono ?_
      rintro e w' ⟨rfl, rfl⟩
      rw [O2.out]
      go_wp2
      go_ret2
      exact ⟨by rw [rbV_none HV.out]; rfl, _, rfl⟩

set_option maxHeartbeats 2000000 in
theorem read_three (s : ByteArray) (w : World) (hs : s.size ≤ maxLen) (h2 : 2 ≤ s.size) (h0 : s[0] = 92) (h4 : 4 ≤ s.size) (x : Nat) (O1 : Hid (octN s[1] = x)) (_x8 : x < 8) (hx : ¬ 3 < x) (y : Nat) (O2 : Hid (octN s[2] = y)) (_y8 : y < 8) (o3 : Pq.oct s[3] = false) :
    Calls Tryd.prog 23 #[.string s] w fun e w' => e = .returned (.tuple #[.int .u8 (rbV s).1.toNat, .int .i64 (rbV s).2]) ∧ ∃ m, w' = w.drewN m := by
  unfold maxLen at hs
  have e0 : ((s[0].toNat : Int) != 92) = false := by rw [h0]; rfl
  have dA : decide ((s.size : Int) < 2) = false := decide_eq_false (by omega)
  have h21 : (1 : Int) < (s.size : Int) := by omega
  have dB : decide ((s.size : Int) < 4) = false := decide_eq_false (by omega)
  have h23 : (2 : Int) < (s.size : Int) := by omega
  have h33 : (3 : Int) < (s.size : Int) := by omega
  have dx : decide ((3 : Int) < (x : Int)) = false := decide_eq_false (by omega)
  have O3 := hid (octN_no o3)
  have OO := hid o3
  clear o3
  have H0 := hid h0
  clear h0
  have c1 := s[1].toNat_lt
  go_enter Tryd.func23, Tryd.ntmps23
  go_wp2
  go_loopw [4] (fun i wr => ∃ k : Nat, k ≤ 9 ∧ i = .int .i64 k ∧ s[1] ∉ Pq.letters.take k ∧ ∃ m, wr = w.drewN m) (fun i _ => 9 - (intOf i).toNat)
  case atStart => exact ⟨0, Nat.zero_le _, rfl, by simp, 0, rfl⟩
  case round =>
    obtain ⟨k, hk, rfl, ha, m, rfl⟩ := hrel
    have HA := hid ha
    clear ha
    by_cases hlt : k < 9
    · have hlt' : (k : Int) < 9 := by omega
      go_wp2
      go_quiet (fail)
      go_wp2
      · have ht : (((ByteArray.mk #[97, 98, 116, 110, 118, 102, 114, 34, 92])[k].toNat : Int) == (s[1].toNat : Int)) = true := by assumption
        go_ret2
        exact ⟨by rw [read_hit s k hlt h2 H0.out HA.out ht]; rfl, _, rfl⟩
      · have ht : (((ByteArray.mk #[97, 98, 116, 110, 118, 102, 114, 34, 92])[k].toNat : Int) == (s[1].toNat : Int)) = false := by assumption
        go_roundw
        case rel => exact ⟨k + 1, by omega, by go_num, read_miss s[1] k hlt HA.out ht, _, rfl⟩
        case measure => simp [intOf]; omega
    · have hk9 : k = 9 := by omega
      subst hk9
      have hi : ¬ (0 : Int) ≤ Lib.indexByte Pq.letters s[1] := by rw [index_none Pq.letters s[1] HA.out]; omega
      clear HA hk hlt
      have HV : Hid (Pq.rb s.data.toList = none) := hid (by rw [rb_four s h4 H0.out hi, OO.out]; simp)
      clear hi H0 OO
      go_wp2_with fail
      refine (octal_any _ _).mono ?_
      rintro e w' ⟨rfl, rfl⟩
      rw [O1.out]
      go_wp2_with fail
      refine (octal_any _ _).mono ?_
      rintro e w' ⟨rfl, rfl⟩
      rw [O1.out]
      go_wp2_with fail
      refine (octal_any _ _).mono ?_
      rintro e w' ⟨rfl, rfl⟩
      rw [O2.out]
      go_wp2_with fail
      refine (octal_any _ _).mono ?_
      rintro e w' ⟨rfl, rfl⟩
      rw [O3.out]
      go_wp2
      go_ret2
      exact ⟨by rw [rbV_none HV.out]; rfl, _, rfl⟩

set_option maxHeartbeats 2000000 in
theorem read_all (s : ByteArray) (w : World) (hs : s.size ≤ maxLen) (h2 : 2 ≤ s.size) (h0 : s[0] = 92) (h4 : 4 ≤ s.size) (x : Nat) (O1 : Hid (octN s[1] = x)) (_x8 : x < 8) (hx : ¬ 3 < x) (y : Nat) (O2 : Hid (octN s[2] = y)) (_y8 : y < 8) (z : Nat) (O3 : Hid (octN s[3] = z)) (_z8 : z < 8) (HV0 : Hid (Lib.indexByte Pq.letters s[1] < 0 → Pq.rb s.data.toList = some ((x * 64 + y * 8 + z).toUInt8, 4))) :
    Calls Tryd.prog 23 #[.string s] w fun e w' => e = .returned (.tuple #[.int .u8 (rbV s).1.toNat, .int .i64 (rbV s).2]) ∧ ∃ m, w' = w.drewN m := by
  unfold maxLen at hs
  have e0 : ((s[0].toNat : Int) != 92) = false := by rw [h0]; rfl
  have dA : decide ((s.size : Int) < 2) = false := decide_eq_false (by omega)
  have h21 : (1 : Int) < (s.size : Int) := by omega
  have dB : decide ((s.size : Int) < 4) = false := decide_eq_false (by omega)
  have h23 : (2 : Int) < (s.size : Int) := by omega
  have h33 : (3 : Int) < (s.size : Int) := by omega
  have dx : decide ((3 : Int) < (x : Int)) = false := decide_eq_false (by omega)
  have H0 := hid h0
  clear h0
  have c1 := s[1].toNat_lt
  go_enter Tryd.func23, Tryd.ntmps23
  go_wp2
  go_loopw [4] (fun i wr => ∃ k : Nat, k ≤ 9 ∧ i = .int .i64 k ∧ s[1] ∉ Pq.letters.take k ∧ ∃ m, wr = w.drewN m) (fun i _ => 9 - (intOf i).toNat)
  case atStart => exact ⟨0, Nat.zero_le _, rfl, by simp, 0, rfl⟩
  case round =>
    obtain ⟨k, hk, rfl, ha, m, rfl⟩ := hrel
    have HA := hid ha
    clear ha
    by_cases hlt : k < 9
    · have hlt' : (k : Int) < 9 := by omega
      go_wp2
      go_quiet (fail)
      go_wp2
      · have ht : (((ByteArray.mk #[97, 98, 116, 110, 118, 102, 114, 34, 92])[k].toNat : Int) == (s[1].toNat : Int)) = true := by assumption
        go_ret2
        exact ⟨by rw [read_hit s k hlt h2 H0.out HA.out ht]; rfl, _, rfl⟩
      · have ht : (((ByteArray.mk #[97, 98, 116, 110, 118, 102, 114, 34, 92])[k].toNat : Int) == (s[1].toNat : Int)) = false := by assumption
        go_roundw
        case rel => exact ⟨k + 1, by omega, by go_num, read_miss s[1] k hlt HA.out ht, _, rfl⟩
        case measure => simp [intOf]; omega
    · have hk9 : k = 9 := by omega
      subst hk9
      have hi : ¬ (0 : Int) ≤ Lib.indexByte Pq.letters s[1] := by rw [index_none Pq.letters s[1] HA.out]; omega
      clear HA hk hlt
      have HV := hid (HV0.out (by omega))
      generalize hW : w.drewN m = W
      have HW := hid hW
      clear hW
      have b1 : 0 ≤ octN s[1] ∧ octN s[1] ≤ 3 := by rw [O1.out]; omega
      have b2 : 0 ≤ octN s[2] ∧ octN s[2] ≤ 7 := by rw [O2.out]; omega
      have b3 : 0 ≤ octN s[3] ∧ octN s[3] ≤ 7 := by rw [O3.out]; omega
      go_wp2_with fail
      refine (octal_any _ _).mono ?_
      rintro e w' ⟨rfl, rfl⟩
      rw [O1.out]
      go_wp2_with fail
      refine (octal_any _ _).mono ?_
      rintro e w' ⟨rfl, rfl⟩
      rw [O1.out]
      go_wp2_with fail
      refine (octal_any _ _).mono ?_
      rintro e w' ⟨rfl, rfl⟩
      rw [O2.out]
      go_wp2_with fail
      refine (octal_any _ _).mono ?_
      rintro e w' ⟨rfl, rfl⟩
      rw [O3.out]
      go_wp2
      go_quiet (first | (go_at_call 28; exact Calls.quiet_of_same (octal_any _ _)))
      go_wp2
      go_ret2
      refine ⟨?_, _, by rw [← HW.out]; exact World.drewN_drewN _ _ _⟩
      rw [rbV_some HV.out]
      refine ret_two (congrArg (Value.int .u8) ?_) rfl
      rw [byte_of _ (by omega)]
      rw [O1.out, O2.out, O3.out]
      omega


theorem read_any (s : ByteArray) (w : World) (hs : s.size ≤ maxLen) (h1 : 1 ≤ s.size) (h0 : s[0] = 92) :
    Calls Tryd.prog 23 #[.string s] w fun e w' => e = .returned (.tuple #[.int .u8 (rbV s).1.toNat, .int .i64 (rbV s).2]) ∧ ∃ m, w' = w.drewN m := by
  by_cases h2 : s.size < 2
  · exact read_short s w h1 h2 h0
  · have h2' : 2 ≤ s.size := by omega
    by_cases h4 : s.size < 4
    · exact read_few s w hs h2' h0 h4
    · have h4' : 4 ≤ s.size := by omega
      cases o1 : Pq.oct s[1] with
      | false => exact read_one s w hs h2' h0 h4' o1
      | true =>
        obtain ⟨x, O1, x1, x8⟩ := octN_yes o1
        by_cases hx : 3 < x
        · exact read_high s w hs h2' h0 h4' x O1 x1 x8 hx
        · cases o2 : Pq.oct s[2] with
          | false => exact read_two s w hs h2' h0 h4' x O1 x8 hx o2
          | true =>
            obtain ⟨y, O2, y1, y8⟩ := octN_yes o2
            cases o3 : Pq.oct s[3] with
            | false => exact read_three s w hs h2' h0 h4' x O1 x8 hx y O2 y8 o3
            | true =>
              obtain ⟨z, O3, z1, z8⟩ := octN_yes o3
              refine read_all s w hs h2' h0 h4' x O1 x8 hx y O2 y8 z O3 z8 (hid fun hi => ?_)
              rw [rb_four s h4' h0 (by omega), if_pos ⟨o1, o2, o3, by omega⟩, x1, y1, z1]
              simp
end Go.Proofs.YtmcifffhihiekaaDoor
