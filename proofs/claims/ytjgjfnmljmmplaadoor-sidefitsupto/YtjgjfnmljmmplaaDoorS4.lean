/-
  The walk of the document's Words.
-/
import Derived.Test.YtjgjfnmljmmplaaDoorGrS1
namespace Go.Proofs.YtjgjfnmljmmplaaDoor
open Go.RowKit

/-- no piece ends behind the first so many, within the next -/
def NCf (l : Sd.Bs) (fr k : Nat) : Prop := ∀ j x y, fr ≤ j → j + 1 < k → l[j]? = some x → l[j + 1]? = some y → Sd.cut x y = false
theorem ncf_one (l : Sd.Bs) (fr : Nat) : NCf l fr (fr + 1) := fun j x y h1 h2 => by omega
theorem ncf_more {l : Sd.Bs} {fr k : Nat} {x y : UInt8} (h : NCf l fr k) (hk : 0 < k) (hx : l[k - 1]? = some x) (hy : l[k]? = some y) (hc : Sd.cut x y = false) : NCf l fr (k + 1) := by
  intro j a b hf hj ha hb
  by_cases e : j + 1 < k
  · exact h j a b hf e ha hb
  · have e2 : j = k - 1 := by omega
    subst e2
    rw [show k - 1 + 1 = k by omega] at hb
    rw [hx] at ha
    rw [hy] at hb
    cases ha; cases hb
    exact hc
theorem ext_data (s : ByteArray) (x y : Nat) : (s.extract x y).data.toList = (s.data.toList.drop x).take (y - x) := by rw [ext_bB, bB_data]
theorem ext_end (s : ByteArray) (x : Nat) : (s.extract x s.size).data.toList = s.data.toList.drop x := by
  rw [ext_data, List.take_of_length_le (by rw [List.length_drop, dsize]; omega)]
theorem wdB_step {s : ByteArray} {fr k : Nat} (hfr : fr < k) (hk : k ≤ s.size) (hn : NCf s.data.toList fr k) (he : k = s.size ∨ ∃ x y, s.data.toList[k - 1]? = some x ∧ s.data.toList[k]? = some y ∧ Sd.cut x y = true) :
    wdB (s.extract fr s.size) = s.extract fr k :: wdB (s.extract k s.size) := by
  have hsz : (s.extract fr s.size).size = s.size - fr := by rw [← dsize, ext_end, List.length_drop, dsize]
  have hf : Sd.fl (s.extract fr s.size).data.toList = k - fr := by
    rw [ext_end]
    refine fl_at (by omega) (by rw [List.length_drop, dsize]; omega) (fun j x y hj hx hy => ?_) ?_
    · rw [List.getElem?_drop] at hx hy
      exact hn (fr + j) x y (by omega) (by omega) hx hy
    · rcases he with he | ⟨x, y, hx, hy, hc⟩
      · exact .inl (by rw [List.length_drop, dsize]; omega)
      · refine .inr ⟨x, y, ?_, ?_, hc⟩
        · rw [List.getElem?_drop, show fr + (k - fr - 1) = k - 1 by omega]; exact hx
        · rw [List.getElem?_drop, show fr + (k - fr) = k by omega]; exact hy
  rw [wdB_cons (by omega), hf]
  congr 1
  · apply ba_ext
    rw [ext_data, ext_end, ext_data]
    simp
  · congr 1
    apply ba_ext
    rw [ext_data, ext_end, ext_end, hsz, List.drop_drop, show fr + (k - fr) = k by omega, List.take_of_length_le (by rw [List.length_drop, dsize]; omega)]
theorem cl_cut {x y : UInt8} {b : Bool} (h : Sd.cut x y = b) : ((Sd.clN y.toNat != Sd.clN x.toNat) || (Sd.clN y.toNat == 0)) = b := by
  rw [← h, Sd.cut_cl]; rfl

end Go.Proofs.YtjgjfnmljmmplaaDoor
