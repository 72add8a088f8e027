/-
  The walks of plainLength and isOctal of the program, Needs and octal of the document's answer: for every string and every byte.
-/
import Derived.Test.YtnbonghlmdnabaaDoorXQ0
namespace Go.Proofs.YtnbonghlmdnabaaDoor.Cx
open Go.RowKit

theorem all_snoc (s : ByteArray) (k : Nat) (h : k < s.size) (p : UInt8 → Bool) (ha : (s.data.toList.take k).all p = true) (hb : p s[k] = true) : (s.data.toList.take (k + 1)).all p = true := by
  rw [take_snoc s k h, List.all_append, ha]
  simp [hb]
theorem while_take (l : List UInt8) (p : UInt8 → Bool) (k : Nat) (ha : (l.take k).all p = true) (hk : k ≤ l.length) : l.takeWhile p = l.take k ++ (l.drop k).takeWhile p := by
  induction l generalizing k with
  | nil => simp
  | cons c l ih =>
    cases k with
    | zero => simp
    | succ k =>
      simp only [List.take_succ_cons, List.all_cons, Bool.and_eq_true] at ha
      rw [List.takeWhile_cons_of_pos ha.1, ih k ha.2 (by simpa using hk)]
      simp
theorem drop_head (s : ByteArray) (k : Nat) (h : k < s.size) : s.data.toList.drop k = s[k] :: s.data.toList.drop (k + 1) := by
  rw [List.drop_eq_getElem_cons (by rw [size_data]; exact h)]
  rfl
theorem while_hit (s : ByteArray) (k : Nat) (h : k < s.size) (p : UInt8 → Bool) (ha : (s.data.toList.take k).all p = true) (hb : p s[k] = false) : (s.data.toList.takeWhile p).length = k := by
  rw [while_take _ p k ha (by rw [size_data]; omega), drop_head s k h, List.takeWhile_cons_of_neg (by rw [hb]; simp)]
  simp
  omega
theorem while_last (s : ByteArray) (k : Nat) (h : s.size ≤ k) (p : UInt8 → Bool) (ha : (s.data.toList.take k).all p = true) : (s.data.toList.takeWhile p).length = s.size := by
  rw [take_all s k h] at ha
  have e := while_take s.data.toList p s.data.toList.length (by rw [List.take_length]; exact ha) (Nat.le_refl _)
  rw [List.take_length, List.drop_length, List.takeWhile_nil, List.append_nil] at e
  rw [e, size_data]

/-- how long a name is that is not quoted -/
def pl (s : ByteArray) : Nat := (s.data.toList.takeWhile Pq.plain).length
theorem pl_le (s : ByteArray) : pl s ≤ s.size := by
  unfold pl
  rw [← size_data s]
  exact (List.takeWhile_prefix ..).length_le

theorem oct_yes {c : UInt8} (h1 : 48 ≤ c.toNat) (h2 : c.toNat ≤ 55) : Pq.oct c = true := by simp [Pq.oct, h1, h2]
theorem oct_no {c : UInt8} (h : c.toNat < 48 ∨ 55 < c.toNat) : Pq.oct c = false := by simp [Pq.oct]; omega
theorem all_hit (s : ByteArray) (k : Nat) (h : k < s.size) (p : UInt8 → Bool) (hb : p s[k] = false) : s.data.toList.all p = false := by
  rw [List.all_eq_false]
  refine ⟨s[k], ?_, by rw [hb]; simp⟩
  exact List.getElem_mem (l := s.data.toList) (n := k) (by rw [size_data]; exact h)

/-- whether digits are the octal number of a byte -/
def isOct (s : ByteArray) : Bool := s.data.toList.all Pq.oct && decide ((s.data.toList.headD 0).toNat ≤ 51)
theorem isOct_no (s : ByteArray) (k : Nat) (h : k < s.size) (hb : Pq.oct s[k] = false) : isOct s = false := by
  unfold isOct; rw [all_hit s k h _ hb]; rfl
theorem head_data (s : ByteArray) (h : 0 < s.size) : s.data.toList.headD 0 = s[0] := by
  have := drop_head s 0 h
  rw [List.drop_zero] at this
  rw [this]
  rfl
theorem isOct_last (s : ByteArray) (k : Nat) (h0 : 0 < s.size) (h : s.size ≤ k) (ha : (s.data.toList.take k).all Pq.oct = true) : isOct s = decide ((s[0].toNat : Int) ≤ 51) := by
  rw [take_all s k h] at ha
  unfold isOct
  rw [ha, Bool.true_and, head_data s h0]
  rw [Bool.eq_iff_iff, decide_eq_true_eq, decide_eq_true_eq]
  omega

set_option maxHeartbeats 1000000 in
theorem refNeeds_any (s : ByteArray) (w : World) (hs : s.size ≤ maxLen) :
    Calls Tryd.prog 31 #[.string s] w fun e w' => e = .returned (.bool (Pq.needs s.data.toList)) ∧ w' = w := by
  unfold maxLen at hs
  go_enter Tryd.func31, Tryd.ntmps31
  go_wp2
  go_loop [3] (fun i => ∃ k : Nat, k ≤ s.size ∧ i = .int .i64 k ∧ (s.data.toList.take k).any Pq.bad = false) (fun i => s.size - (intOf i).toNat)
  case atStart => exact ⟨0, Nat.zero_le _, rfl, rfl⟩
  case round =>
    obtain ⟨k, hk, rfl, ha⟩ := hrel
    have HA := hid ha
    clear ha
    by_cases hlt : k < s.size
    · have hc := s[k].toNat_lt
      cases hb : Pq.bad s[k] with
      | true =>
        have HN := hid (needs_hit s k hlt hb)
        have hn : s[k].toNat < 33 ∨ s[k].toNat = 34 ∨ s[k].toNat = 92 ∨ 127 ≤ s[k].toNat := by
          simp [Pq.bad] at hb; omega
        clear hb HA
        by_cases h32 : s[k].toNat < 33
        · have e1 : decide ((s[k].toNat : Int) < 33) = true := decide_eq_true (by omega)
          clear h32 hn
          go_wp2
          go_ret
          exact ⟨by rw [HN.out]; rfl, rfl⟩
        · have e1 : decide ((s[k].toNat : Int) < 33) = false := decide_eq_false (by omega)
          by_cases h34 : s[k].toNat = 34
          · have e2 := ieq (m := 34) (by omega : (s[k].toNat : Int) = 34)
            clear h32 h34 hn
            go_wp2
            go_ret
            exact ⟨by rw [HN.out]; rfl, rfl⟩
          · have e2 := ine (m := 34) (by omega : (s[k].toNat : Int) ≠ 34)
            by_cases h92 : s[k].toNat = 92
            · have e3 := ieq (m := 92) (by omega : (s[k].toNat : Int) = 92)
              clear h32 h34 h92 hn
              go_wp2
              go_ret
              exact ⟨by rw [HN.out]; rfl, rfl⟩
            · have e3 := ine (m := 92) (by omega : (s[k].toNat : Int) ≠ 92)
              have e4 : decide ((127 : Int) ≤ (s[k].toNat : Int)) = true := decide_eq_true (by omega)
              clear h32 h34 h92 hn
              go_wp2
              go_ret
              exact ⟨by rw [HN.out]; rfl, rfl⟩
      | false =>
        have HB := hid (any_snoc s k hlt Pq.bad HA.out hb)
        have hn : 33 ≤ s[k].toNat ∧ s[k].toNat ≠ 34 ∧ s[k].toNat ≠ 92 ∧ s[k].toNat ≤ 126 := by
          simp [Pq.bad] at hb; omega
        have e1 : decide ((s[k].toNat : Int) < 33) = false := decide_eq_false (by omega)
        have e2 := ine (m := 34) (by omega : (s[k].toNat : Int) ≠ 34)
        have e3 := ine (m := 92) (by omega : (s[k].toNat : Int) ≠ 92)
        have e4 : decide ((127 : Int) ≤ (s[k].toNat : Int)) = false := decide_eq_false (by omega)
        clear hb hn HA
        go_wp2
        go_round
        case rel => exact ⟨k + 1, by omega, by go_num, HB.out⟩
        case measure => simp [intOf]; omega
    · have HN := hid (needs_last s k (by omega) HA.out)
      clear HA
      go_wp2
      go_ret
      exact ⟨by rw [HN.out]; rfl, rfl⟩

end Go.Proofs.YtnbonghlmdnabaaDoor.Cx
