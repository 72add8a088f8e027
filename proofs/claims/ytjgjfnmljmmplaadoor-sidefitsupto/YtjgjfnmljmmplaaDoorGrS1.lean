/-
  Several texts in one: S1, S2, S3.
-/
import Derived.Test.YtjgjfnmljmmplaaDoorSa
/-
  The walks of the program's kindOf, firstLength, and of the document's class.
-/
namespace Go.Proofs.YtjgjfnmljmmplaaDoor
open Go.RowKit

theorem ret_int {a b : Int} (h : a = b) : Ending.returned (.int .i64 a) = .returned (.int .i64 b) := by rw [h]
theorem byte_parts (n : Nat) (h : n < 256) : (0 ≤ n ∧ n ≤ 8) ∨ (9 ≤ n ∧ n ≤ 9) ∨ (10 ≤ n ∧ n ≤ 31) ∨ (32 ≤ n ∧ n ≤ 32) ∨ (33 ≤ n ∧ n ≤ 47) ∨ (48 ≤ n ∧ n ≤ 57) ∨ (58 ≤ n ∧ n ≤ 64) ∨ (65 ≤ n ∧ n ≤ 90) ∨ (91 ≤ n ∧ n ≤ 94) ∨ (95 ≤ n ∧ n ≤ 95) ∨ (96 ≤ n ∧ n ≤ 96) ∨ (97 ≤ n ∧ n ≤ 122) ∨ (123 ≤ n ∧ n ≤ 127) ∨ (128 ≤ n ∧ n ≤ 255) := by omega

end Go.Proofs.YtjgjfnmljmmplaaDoor
/-
  The walks of the program's firstLength and Words.
-/
namespace Go.Proofs.YtjgjfnmljmmplaaDoor
open Go.RowKit

theorem fl_at {l : Sd.Bs} {k : Nat} (h0 : 0 < k) (hk : k ≤ l.length) (hn : ∀ j x y, j + 1 < k → l[j]? = some x → l[j + 1]? = some y → Sd.cut x y = false)
    (he : k = l.length ∨ ∃ x y, l[k - 1]? = some x ∧ l[k]? = some y ∧ Sd.cut x y = true) : Sd.fl l = k := by
  obtain ⟨n, rfl⟩ : ∃ n, k = n + 1 := ⟨k - 1, by omega⟩
  exact Sd.fl_eq n l (by omega) (fun j x y hj => hn j x y (by omega)) he
/-- no piece ends within the first so many -/
def NC (l : Sd.Bs) (k : Nat) : Prop := ∀ j x y, j + 1 < k → l[j]? = some x → l[j + 1]? = some y → Sd.cut x y = false
theorem nc_one (l : Sd.Bs) : NC l 1 := fun j x y hj => by omega
theorem nc_more {l : Sd.Bs} {k : Nat} {x y : UInt8} (h : NC l k) (hk : 0 < k) (hx : l[k - 1]? = some x) (hy : l[k]? = some y) (hc : Sd.cut x y = false) : NC l (k + 1) := by
  intro j a b hj ha hb
  by_cases e : j + 1 < k
  · exact h j a b e ha hb
  · have e2 : j = k - 1 := by omega
    subst e2
    rw [show k - 1 + 1 = k by omega] at hb
    rw [hx] at ha
    rw [hy] at hb
    cases ha; cases hb
    exact hc
theorem cut_two {x y : UInt8} (h : Sd.kd x = 2) : Sd.cut x y = true := by
  unfold Sd.cut
  rw [h]
  cases e : Sd.kd y == 2 with
  | true => simp
  | false => simp only [bne, e]; rfl
theorem cut_un {x y : UInt8} (h : Sd.kd y ≠ Sd.kd x) : Sd.cut x y = true := by
  unfold Sd.cut
  rw [bne_iff_ne.2 h]; rfl
theorem cut_same {x y : UInt8} (h : Sd.kd y = Sd.kd x) (h2 : Sd.kd x ≠ 2) : Sd.cut x y = false := by
  unfold Sd.cut
  rw [h, beq_eq_false_iff_ne.2 h2]
  simp

end Go.Proofs.YtjgjfnmljmmplaaDoor
/-
  The walk of the program's Words.
-/
namespace Go.Proofs.YtjgjfnmljmmplaaDoor
open Go.RowKit

theorem emptyB (s : ByteArray) : s.toList.isEmpty = decide (s.size = 0) := by
  rw [ByteArray.toList_eq, Bool.eq_iff_iff, List.isEmpty_iff, ← List.length_eq_zero_iff, dsize]
  simp
theorem empty_yes (s : ByteArray) (h : s.size = 0) : s.toList.isEmpty = true := by rw [emptyB]; exact decide_eq_true h
theorem empty_no (s : ByteArray) (h : s.size ≠ 0) : s.toList.isEmpty = false := by rw [emptyB]; exact decide_eq_false h
theorem eqnil_yes (s : ByteArray) (h : s.size = 0) : (s.toList == []) = true := by
  rw [beq_iff_eq, ByteArray.toList_eq, ← List.length_eq_zero_iff, dsize]; exact h
theorem eqnil_no (s : ByteArray) (h : s.size ≠ 0) : (s.toList == []) = false := by
  rw [beq_eq_false_iff_ne, ne_eq, ByteArray.toList_eq, ← List.length_eq_zero_iff, dsize]; exact h
def strLen : Value → Nat
  | .string s => s.size
  | _ => 0
/-- the pieces of a text as strings -/
def wdB (s : ByteArray) : List ByteArray := (Sd.wds s.data.toList).map bB
theorem wdB_nil {s : ByteArray} (h : s.size = 0) : wdB s = [] := by
  have : s.data.toList = [] := List.length_eq_zero_iff.1 (by rw [dsize]; exact h)
  unfold wdB
  rw [this, Sd.wds_nil]; rfl
theorem wdB_cons {s : ByteArray} (h : s.size ≠ 0) : wdB s = s.extract 0 (Sd.fl s.data.toList) :: wdB (s.extract (Sd.fl s.data.toList) s.size) := by
  have hne : s.data.toList ≠ [] := fun e => h (by rw [← dsize, e]; rfl)
  unfold wdB
  rw [Sd.wds_cons hne, List.map_cons]
  congr 1
  · rw [ext_bB]; simp
  · congr 2
    rw [ext_bB, bB_data, List.take_of_length_le (by rw [List.length_drop, dsize]; omega)]
theorem wdB_len (s : ByteArray) : (wdB s).length ≤ s.size := by
  unfold wdB
  rw [List.length_map, ← dsize]
  exact Sd.wds_len _

end Go.Proofs.YtjgjfnmljmmplaaDoor
