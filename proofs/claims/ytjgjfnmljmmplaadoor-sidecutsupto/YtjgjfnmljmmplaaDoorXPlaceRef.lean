/-
  The walk of the document's Place, for every text and every offset.
-/
import Derived.Test.YtjgjfnmljmmplaaDoorXEnds
import Derived.Lib.Strings
namespace Go.Proofs.YtjgjfnmljmmplaaDoor.Cx
open Go.RowKit

/-- how many bytes 10 stand ahead of place k -/
def cnt (s : ByteArray) (k : Nat) : Int := Lib.countByte (s.data.toList.take k) 10
/-- where the last byte 10 ahead of place k stands, or -1 -/
def lst (s : ByteArray) (k : Nat) : Int := Lib.lastIdx s 10 k

theorem cnt_le (s : ByteArray) (k : Nat) : 0 ≤ cnt s k ∧ cnt s k ≤ k := by
  unfold cnt Lib.countByte
  have h1 : List.count (10 : UInt8) (s.data.toList.take k) ≤ (s.data.toList.take k).length := List.count_le_length
  have h2 : (s.data.toList.take k).length ≤ k := List.length_take_le _ _
  omega
theorem lst_le (s : ByteArray) (k : Nat) : -1 ≤ lst s k ∧ lst s k < k := by
  unfold lst
  rcases Lib.lastIdx_spec s 10 k with ⟨e, _⟩ | ⟨i, hi, e, _⟩ <;> rw [e] <;> omega
theorem take_snoc (s : ByteArray) (k : Nat) (h : k < s.size) : s.data.toList.take (k + 1) = s.data.toList.take k ++ [s[k]] := by
  rw [List.take_succ_eq_append_getElem (by simpa using h)]; rfl
theorem at_bang (s : ByteArray) (k : Nat) (h : k < s.size) : s.data[k]! = s[k] := by
  have : k < s.data.size := h
  rw [getElem!_pos s.data k this]; rfl
theorem ten_iff (c : UInt8) : ((c.toNat : Int) = 10) ↔ c = 10 := by
  rw [← UInt8.toNat_inj]
  show _ ↔ _ = 10
  omega
theorem step_hit (s : ByteArray) (k : Nat) (h : k < s.size) (e : ((s[k].toNat : Int) == 10) = true) : cnt s (k + 1) = cnt s k + 1 ∧ lst s (k + 1) = k := by
  have e' := beq_iff_eq.1 e
  have e2 := (ten_iff _).1 e'
  refine ⟨?_, ?_⟩
  · unfold cnt Lib.countByte; rw [take_snoc s k h, List.count_append, e2]; simp
  · unfold lst; exact Lib.lastIdx_hit s 10 k (by rw [at_bang s k h]; exact e')
theorem step_miss (s : ByteArray) (k : Nat) (h : k < s.size) (e : ((s[k].toNat : Int) == 10) = false) : cnt s (k + 1) = cnt s k ∧ lst s (k + 1) = lst s k := by
  have e' := beq_eq_false_iff_ne.1 e
  have e2 : s[k] ≠ 10 := fun x => e' ((ten_iff _).2 x)
  refine ⟨?_, ?_⟩
  · unfold cnt Lib.countByte; rw [take_snoc s k h, List.count_append]; simp [e2]
  · unfold lst; exact Lib.lastIdx_miss s 10 k (by rw [at_bang s k h]; exact e')

theorem ret_three {a b c d : Int} {p q : Bool} (h1 : a = b) (h2 : c = d) (h3 : p = q) :
    Ending.returned (.tuple #[.int .i64 a, .int .i64 c, .bool p]) = .returned (.tuple #[.int .i64 b, .int .i64 d, .bool q]) := by rw [h1, h2, h3]

end Go.Proofs.YtjgjfnmljmmplaaDoor.Cx
