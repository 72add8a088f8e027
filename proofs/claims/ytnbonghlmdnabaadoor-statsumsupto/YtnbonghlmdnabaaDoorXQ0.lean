/-
  The walks of the small functions that only read: printed, Needs, plainLength, isOctal of the program, Needs and octal of the document's answer: for every string and every byte.
-/
import Derived.Test.YtnbonghlmdnabaaDoorRows
import Derived.Test.YtnbonghlmdnabaaDoorPq
import Derived.WalkKit
import Derived.WalkSpells
import Derived.WalkLawsBesides
namespace Go.Proofs.YtnbonghlmdnabaaDoor.Cx
open Go.RowKit

theorem hid {p : Prop} (h : p) : Hid p := h
theorem size_data (s : ByteArray) : s.data.toList.length = s.size := by rw [Array.length_toList]; rfl
theorem emptyB (s : ByteArray) : s.toList.isEmpty = decide (s.size = 0) := by
  rw [ByteArray.toList_eq, Bool.eq_iff_iff, List.isEmpty_iff, ← List.length_eq_zero_iff, size_data]
  simp
theorem empty_yes (s : ByteArray) (h : s.size = 0) : s.toList.isEmpty = true := by rw [emptyB]; exact decide_eq_true h
theorem empty_no (s : ByteArray) (h : s.size ≠ 0) : s.toList.isEmpty = false := by rw [emptyB]; exact decide_eq_false h
theorem take_snoc (s : ByteArray) (k : Nat) (h : k < s.size) : s.data.toList.take (k + 1) = s.data.toList.take k ++ [s[k]] := by
  rw [List.take_add_one, List.getElem?_eq_getElem (by rw [size_data]; exact h)]
  rfl
theorem take_all (s : ByteArray) (k : Nat) (h : s.size ≤ k) : s.data.toList.take k = s.data.toList := List.take_of_length_le (by rw [size_data]; exact h)
theorem ieq {n : Nat} {m : Int} (h : (n : Int) = m) : ((n : Int) == m) = true := beq_iff_eq.2 h
theorem ine {n : Nat} {m : Int} (h : (n : Int) ≠ m) : ((n : Int) == m) = false := beq_eq_false_iff_ne.2 h

/-- whether a byte may be printed -/
def seen (c : UInt8) : Bool := decide (32 ≤ c.toNat) && decide (c.toNat ≤ 126)
theorem seen_yes {c : UInt8} (h1 : 32 ≤ c.toNat) (h2 : c.toNat ≤ 126) : seen c = true := by simp [seen, h1, h2]
theorem seen_no {c : UInt8} (h : c.toNat < 32 ∨ 126 < c.toNat) : seen c = false := by simp [seen]; omega

set_option maxHeartbeats 400000 in
theorem printed_any (c : UInt8) (w : World) : Calls Tryd.prog 45 #[.int .u8 c.toNat] w fun e w' => e = .returned (.bool (seen c)) ∧ w' = w := by
  have hc := c.toNat_lt
  by_cases h1 : 32 ≤ c.toNat
  · by_cases h2 : c.toNat ≤ 126
    · rw [seen_yes h1 h2]
      have d2 : decide ((c.toNat : Int) ≤ 126) = true := decide_eq_true (by omega)
      go_enter Tryd.func45, Tryd.ntmps45
      go_wp2
      go_ret
      exact ⟨rfl, rfl⟩
    · rw [seen_no (.inr (by omega))]
      have d2 : decide ((c.toNat : Int) ≤ 126) = false := decide_eq_false (by omega)
      go_enter Tryd.func45, Tryd.ntmps45
      go_wp2
      go_ret
      exact ⟨rfl, rfl⟩
  · rw [seen_no (.inl (by omega))]
    go_enter Tryd.func45, Tryd.ntmps45
    go_wp2
    go_ret
    exact ⟨rfl, rfl⟩

theorem needs_hit (s : ByteArray) (k : Nat) (h : k < s.size) (hb : Pq.bad s[k] = true) : Pq.needs s.data.toList = true := by
  unfold Pq.needs
  rw [Bool.or_eq_true]
  refine .inl (List.any_eq_true.2 ⟨s[k], ?_, hb⟩)
  have := List.getElem_mem (l := s.data.toList) (n := k) (by rw [size_data]; exact h)
  exact this
theorem any_snoc (s : ByteArray) (k : Nat) (h : k < s.size) (p : UInt8 → Bool) (ha : (s.data.toList.take k).any p = false) (hb : p s[k] = false) : (s.data.toList.take (k + 1)).any p = false := by
  rw [take_snoc s k h, List.any_append, ha]
  simp [hb]
theorem needs_last (s : ByteArray) (k : Nat) (h : s.size ≤ k) (ha : (s.data.toList.take k).any Pq.bad = false) : Pq.needs s.data.toList = s.toList.isEmpty := by
  rw [take_all s k h] at ha
  unfold Pq.needs
  rw [ha, Bool.false_or, ByteArray.toList_eq]

set_option maxHeartbeats 1000000 in
theorem needs_any (s : ByteArray) (w : World) (hs : s.size ≤ maxLen) :
    Calls Tryd.prog 28 #[.string s] w fun e w' => e = .returned (.bool (Pq.needs s.data.toList)) ∧ w' = w := by
  unfold maxLen at hs
  go_enter Tryd.func28, Tryd.ntmps28
  go_wp2
  go_loop [7] (fun i => ∃ k : Nat, k ≤ s.size ∧ i = .int .i64 k ∧ (s.data.toList.take k).any Pq.bad = false) (fun i => s.size - (intOf i).toNat)
  case atStart => exact ⟨0, Nat.zero_le _, rfl, rfl⟩
  case round =>
    obtain ⟨k, hk, rfl, ha⟩ := hrel
    have HA := hid ha
    clear ha
    by_cases hlt : k < s.size
    · have hc := s[k].toNat_lt
      cases hb : Pq.bad s[k] with
      | true =>
        have HN := hid (needs_hit s k hlt hb)
        have hn : s[k].toNat = 32 ∨ s[k].toNat = 34 ∨ s[k].toNat = 92 ∨ (s[k].toNat < 32 ∨ 126 < s[k].toNat) := by
          simp [Pq.bad] at hb; omega
        clear hb HA
        by_cases h32 : s[k].toNat = 32
        · have e1 := ieq (m := 32) (by omega : (s[k].toNat : Int) = 32)
          clear h32 hn
          go_wp2
          go_ret
          exact ⟨by rw [HN.out]; rfl, rfl⟩
        · have e1 := ine (m := 32) (by omega : (s[k].toNat : Int) ≠ 32)
          by_cases h34 : s[k].toNat = 34
          · have e2 := ieq (m := 34) (by omega : (s[k].toNat : Int) = 34)
            clear h32 h34 hn
            go_wp2
            go_ret
            exact ⟨by rw [HN.out]; rfl, rfl⟩
          · have e2 := ine (m := 34) (by omega : (s[k].toNat : Int) ≠ 34)
            by_cases h92 : s[k].toNat = 92
            · have e3 := ieq (m := 92) (by omega : (s[k].toNat : Int) = 92)
              clear h32 h34 h92 hn
              go_wp2
              go_ret
              exact ⟨by rw [HN.out]; rfl, rfl⟩
            · have e3 := ine (m := 92) (by omega : (s[k].toNat : Int) ≠ 92)
              have HS := hid (seen_no (c := s[k]) (by omega))
              clear h32 h34 h92 hn
              go_wp2_with fail
              refine (printed_any _ _).mono ?_
              rintro e w' ⟨rfl, rfl⟩
              rw [HS.out]
              go_wp2
              go_ret
              exact ⟨by rw [HN.out]; rfl, rfl⟩
      | false =>
        have HB := hid (any_snoc s k hlt Pq.bad HA.out hb)
        have hn : 33 ≤ s[k].toNat ∧ s[k].toNat ≠ 34 ∧ s[k].toNat ≠ 92 ∧ s[k].toNat ≤ 126 := by
          simp [Pq.bad] at hb; omega
        have e1 := ine (m := 32) (by omega : (s[k].toNat : Int) ≠ 32)
        have e2 := ine (m := 34) (by omega : (s[k].toNat : Int) ≠ 34)
        have e3 := ine (m := 92) (by omega : (s[k].toNat : Int) ≠ 92)
        have HS := hid (seen_yes (c := s[k]) (by omega) (by omega))
        clear hb hn HA
        go_wp2_with fail
        refine (printed_any _ _).mono ?_
        rintro e w' ⟨rfl, rfl⟩
        rw [HS.out]
        go_wp2
        go_round
        case rel => exact ⟨k + 1, by omega, by go_num, HB.out⟩
        case measure => simp [intOf]; omega
    · have HN := hid (needs_last s k (by omega) HA.out)
      clear HA
      go_wp2
      go_ret
      exact ⟨by rw [HN.out]; rfl, rfl⟩
end Go.Proofs.YtnbonghlmdnabaaDoor.Cx
