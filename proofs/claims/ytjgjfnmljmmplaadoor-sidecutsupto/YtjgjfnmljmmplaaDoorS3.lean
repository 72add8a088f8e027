/-
  The walk of the program's Words.
-/
import Derived.Test.YtjgjfnmljmmplaaDoorS2
namespace Go.Proofs.YtjgjfnmljmmplaaDoor
open Go.RowKit

theorem emptyB (s : ByteArray) : s.toList.isEmpty = decide (s.size = 0) := by
  rw [ByteArray.toList_eq, Bool.eq_iff_iff, List.isEmpty_iff, ← List.length_eq_zero_iff, dsize]
  simp
theorem empty_yes (s : ByteArray) (h : s.size = 0) : s.toList.isEmpty = true := by rw [emptyB]; exact decide_eq_true h
theorem empty_no (s : ByteArray) (h : s.size ≠ 0) : s.toList.isEmpty = false := by rw [emptyB]; exact decide_eq_false h
theorem eqnil_yes (s : ByteArray) (h : s.size = 0) : (s.toList == []) = true := by
  rw [beq_iff_eq, ByteArray.toList_eq, ← List.length_eq_zero_iff, dsize]; exact h
theorem eqnil_no (s : ByteArray) (h : s.size ≠ 0) : (s.toList == []) = false := by
  rw [beq_eq_false_iff_ne, ne_eq, ByteArray.toList_eq, ← List.length_eq_zero_iff, dsize]; exact h
def strLen : Value → Nat
  | .string s => s.size
  | _ => 0
/-- the pieces of a text as strings -/
def wdB (s : ByteArray) : List ByteArray := (Sd.wds s.data.toList).map bB
theorem wdB_nil {s : ByteArray} (h : s.size = 0) : wdB s = [] := by
  have : s.data.toList = [] := List.length_eq_zero_iff.1 (by rw [dsize]; exact h)
  unfold wdB
  rw [this, Sd.wds_nil]; rfl
theorem wdB_cons {s : ByteArray} (h : s.size ≠ 0) : wdB s = s.extract 0 (Sd.fl s.data.toList) :: wdB (s.extract (Sd.fl s.data.toList) s.size) := by
  have hne : s.data.toList ≠ [] := fun e => h (by rw [← dsize, e]; rfl)
  unfold wdB
  rw [Sd.wds_cons hne, List.map_cons]
  congr 1
  · rw [ext_bB]; simp
  · congr 2
    rw [ext_bB, bB_data, List.take_of_length_le (by rw [List.length_drop, dsize]; omega)]
theorem wdB_len (s : ByteArray) : (wdB s).length ≤ s.size := by
  unfold wdB
  rw [List.length_map, ← dsize]
  exact Sd.wds_len _

end Go.Proofs.YtjgjfnmljmmplaaDoor
