/-
  Of a text that begins with a backslash: what its escape means; the walk of the document's read.
-/
import Derived.Test.YtnbonghlmdnabaaDoorXQ2
namespace Go.Proofs.YtnbonghlmdnabaaDoor.Cx
open Go.RowKit

/-- the byte at the beginning of a text, and how many bytes stand for it: 0, where there is none -/
def rbV (s : ByteArray) : UInt8 × Nat := (Pq.rb s.data.toList).getD (0, 0)

theorem data1 (s : ByteArray) (h : 1 ≤ s.size) : s.data.toList = s[0] :: s.data.toList.drop 1 := by
  have := drop_head s 0 h
  rwa [List.drop_zero] at this
theorem data2 (s : ByteArray) (h : 2 ≤ s.size) : s.data.toList = s[0] :: s[1] :: s.data.toList.drop 2 := by
  have := data1 s (by omega)
  rwa [drop_head s 1 h] at this
theorem data4 (s : ByteArray) (h : 4 ≤ s.size) : s.data.toList = s[0] :: s[1] :: s[2] :: s[3] :: s.data.toList.drop 4 := by
  have := data2 s (by omega)
  rwa [drop_head s 2 (by omega), drop_head s 3 (by omega)] at this
theorem nil_of (s : ByteArray) (k : Nat) (h : s.size ≤ k) : s.data.toList.drop k = [] := List.drop_of_length_le (by rw [size_data]; exact h)

theorem rb_self (s : ByteArray) (h : 1 ≤ s.size) (h0 : s[0] ≠ 92) : Pq.rb s.data.toList = some (s[0], 1) := by
  rw [data1 s h]
  simp only [Pq.rb, ne_eq, h0, not_false_eq_true, if_true]
theorem rb_short (s : ByteArray) (h : 1 ≤ s.size) (h2 : s.size < 2) (h0 : s[0] = 92) : Pq.rb s.data.toList = none := by
  rw [data1 s h, nil_of s 1 (by omega), h0]; rfl
theorem rb_letter (s : ByteArray) (h : 2 ≤ s.size) (h0 : s[0] = 92) (hi : (0 : Int) ≤ Lib.indexByte Pq.letters s[1]) : Pq.rb s.data.toList = some (Pq.meant.getD (Lib.indexByte Pq.letters s[1]).toNat 0, 2) := by
  rw [data2 s h, h0]
  simp only [Pq.rb, ne_eq, not_true_eq_false, if_false, hi, if_true]
theorem rb_few (s : ByteArray) (h : 2 ≤ s.size) (h4 : s.size < 4) (h0 : s[0] = 92) (hi : ¬ (0 : Int) ≤ Lib.indexByte Pq.letters s[1]) : Pq.rb s.data.toList = none := by
  rw [data2 s h, h0]
  by_cases h3 : s.size = 2
  · rw [nil_of s 2 (by omega)]
    simp only [Pq.rb, ne_eq, not_true_eq_false, if_false, hi]
  · rw [drop_head s 2 (by omega), nil_of s 3 (by omega)]
    simp only [Pq.rb, ne_eq, not_true_eq_false, if_false, hi]
theorem rb_four (s : ByteArray) (h : 4 ≤ s.size) (h0 : s[0] = 92) (hi : ¬ (0 : Int) ≤ Lib.indexByte Pq.letters s[1]) :
    Pq.rb s.data.toList = if Pq.oct s[1] = true ∧ Pq.oct s[2] = true ∧ Pq.oct s[3] = true ∧ s[1].toNat ≤ 51 then some (((s[1].toNat - 48) * 64 + (s[2].toNat - 48) * 8 + (s[3].toNat - 48)).toUInt8, 4) else none := by
  rw [data4 s h, h0]
  simp only [Pq.rb, ne_eq, not_true_eq_false, if_false, hi]

theorem letters_data (k : Nat) (hk : k < 9) : (ByteArray.mk #[97, 98, 116, 110, 118, 102, 114, 34, 92])[k] = Pq.letters[k] := rfl

theorem rbV_none {s : ByteArray} (h : Pq.rb s.data.toList = none) : rbV s = (0, 0) := by unfold rbV; rw [h]; rfl
theorem rbV_some {s : ByteArray} {x : UInt8 × Nat} (h : Pq.rb s.data.toList = some x) : rbV s = x := by unfold rbV; rw [h]; rfl

theorem ret_two {a b c d : Value} (h1 : a = c) (h2 : b = d) : Ending.returned (.tuple #[a, b]) = .returned (.tuple #[c, d]) := by rw [h1, h2]
theorem read_hit (s : ByteArray) (k : Nat) (hk : k < 9) (h : 2 ≤ s.size) (h0 : s[0] = 92) (ha : s[1] ∉ Pq.letters.take k)
    (ht : (((ByteArray.mk #[97, 98, 116, 110, 118, 102, 114, 34, 92])[k].toNat : Int) == (s[1].toNat : Int)) = true) : rbV s = ((ByteArray.mk #[7, 8, 9, 10, 11, 12, 13, 34, 92])[k], 2) := by
  have hc : Pq.letters[k] = s[1] := by
    rw [letters_data k hk, beq_iff_eq] at ht
    exact UInt8.toNat_inj.1 (by omega)
  have hi := index_hit Pq.letters s[1] k hk ha hc
  rw [rbV_some (rb_letter s h h0 (by rw [hi]; omega)), hi, meant_data k hk]
  simp only [Int.toNat_natCast]
  rw [List.getD_eq_getElem?_getD, List.getElem?_eq_getElem (by exact hk)]
  rfl
theorem read_miss (c : UInt8) (k : Nat) (hk : k < 9) (ha : c ∉ Pq.letters.take k) (ht : (((ByteArray.mk #[97, 98, 116, 110, 118, 102, 114, 34, 92])[k].toNat : Int) == (c.toNat : Int)) = false) : c ∉ Pq.letters.take (k + 1) := by
  refine miss_snoc Pq.letters c k hk ha fun e => ?_
  rw [letters_data k hk, beq_eq_false_iff_ne] at ht
  exact ht (by rw [e])

end Go.Proofs.YtnbonghlmdnabaaDoor.Cx
