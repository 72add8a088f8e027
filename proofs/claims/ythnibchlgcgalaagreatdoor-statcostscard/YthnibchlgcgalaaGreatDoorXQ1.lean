/-
  The walks of plainLength and isOctal of the program, Needs and octal of the document's answer: for every string and every byte.
-/
import Derived.Test.YthnibchlgcgalaaGreatDoorXQ0
namespace Go.Proofs.YthnibchlgcgalaaGreatDoor.Cx
open Go.RowKit

theorem all_snoc (s : ByteArray) (k : Nat) (h : k < s.size) (p : UInt8 → Bool) (ha : (s.data.toList.take k).all p = true) (hb : p s[k] = true) : (s.data.toList.take (k + 1)).all p = true := by
  rw [take_snoc s k h, List.all_append, ha]
  simp [hb]
theorem while_take (l : List UInt8) (p : UInt8 → Bool) (k : Nat) (ha : (l.take k).all p = true) (hk : k ≤ l.length) : l.takeWhile p = l.take k ++ (l.drop k).takeWhile p := by
  induction l generalizing k with
  | nil => simp
  | cons c l ih =>
    cases k with
    | zero => simp
    | succ k =>
      simp only [List.take_succ_cons, List.all_cons, Bool.and_eq_true] at ha
      rw [List.takeWhile_cons_of_pos ha.1, ih k ha.2 (by simpa using hk)]
      simp
theorem drop_head (s : ByteArray) (k : Nat) (h : k < s.size) : s.data.toList.drop k = s[k] :: s.data.toList.drop (k + 1) := by
  rw [List.drop_eq_getElem_cons (by rw [size_data]; exact h)]
  rfl
theorem while_hit (s : ByteArray) (k : Nat) (h : k < s.size) (p : UInt8 → Bool) (ha : (s.data.toList.take k).all p = true) (hb : p s[k] = false) : (s.data.toList.takeWhile p).length = k := by
  rw [while_take _ p k ha (by rw [size_data]; omega), drop_head s k h, List.takeWhile_cons_of_neg (by rw [hb]; simp)]
  simp
  omega
theorem while_last (s : ByteArray) (k : Nat) (h : s.size ≤ k) (p : UInt8 → Bool) (ha : (s.data.toList.take k).all p = true) : (s.data.toList.takeWhile p).length = s.size := by
  rw [take_all s k h] at ha
  have e := while_take s.data.toList p s.data.toList.length (by rw [List.take_length]; exact ha) (Nat.le_refl _)
  rw [List.take_length, List.drop_length, List.takeWhile_nil, List.append_nil] at e
  rw [e, size_data]

/-- how long a name is that is not quoted -/
def pl (s : ByteArray) : Nat := (s.data.toList.takeWhile Pq.plain).length
theorem pl_le (s : ByteArray) : pl s ≤ s.size := by
  unfold pl
  rw [← size_data s]
  exact (List.takeWhile_prefix ..).length_le

theorem oct_yes {c : UInt8} (h1 : 48 ≤ c.toNat) (h2 : c.toNat ≤ 55) : Pq.oct c = true := by simp [Pq.oct, h1, h2]
theorem oct_no {c : UInt8} (h : c.toNat < 48 ∨ 55 < c.toNat) : Pq.oct c = false := by simp [Pq.oct]; omega
theorem all_hit (s : ByteArray) (k : Nat) (h : k < s.size) (p : UInt8 → Bool) (hb : p s[k] = false) : s.data.toList.all p = false := by
  rw [List.all_eq_false]
  refine ⟨s[k], ?_, by rw [hb]; simp⟩
  exact List.getElem_mem (l := s.data.toList) (n := k) (by rw [size_data]; exact h)

/-- whether digits are the octal number of a byte -/
def isOct (s : ByteArray) : Bool := s.data.toList.all Pq.oct && decide ((s.data.toList.headD 0).toNat ≤ 51)
theorem isOct_no (s : ByteArray) (k : Nat) (h : k < s.size) (hb : Pq.oct s[k] = false) : isOct s = false := by
  unfold isOct; rw [all_hit s k h _ hb]; rfl
theorem head_data (s : ByteArray) (h : 0 < s.size) : s.data.toList.headD 0 = s[0] := by
  have := drop_head s 0 h
  rw [List.drop_zero] at this
  rw [this]
  rfl
theorem isOct_last (s : ByteArray) (k : Nat) (h0 : 0 < s.size) (h : s.size ≤ k) (ha : (s.data.toList.take k).all Pq.oct = true) : isOct s = decide ((s[0].toNat : Int) ≤ 51) := by
  rw [take_all s k h] at ha
  unfold isOct
  rw [ha, Bool.true_and, head_data s h0]
  rw [Bool.eq_iff_iff, decide_eq_true_eq, decide_eq_true_eq]
  omega

end Go.Proofs.YthnibchlgcgalaaGreatDoor.Cx
