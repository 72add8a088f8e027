/-
  The walks of the program's firstLength and Words.
-/
import Derived.Test.YtjgjfnmljmmplaaDoorS1
namespace Go.Proofs.YtjgjfnmljmmplaaDoor
open Go.RowKit

theorem fl_at {l : Sd.Bs} {k : Nat} (h0 : 0 < k) (hk : k ≤ l.length) (hn : ∀ j x y, j + 1 < k → l[j]? = some x → l[j + 1]? = some y → Sd.cut x y = false)
    (he : k = l.length ∨ ∃ x y, l[k - 1]? = some x ∧ l[k]? = some y ∧ Sd.cut x y = true) : Sd.fl l = k := by
  obtain ⟨n, rfl⟩ : ∃ n, k = n + 1 := ⟨k - 1, by omega⟩
  exact Sd.fl_eq n l (by omega) (fun j x y hj => hn j x y (by omega)) he
/-- no piece ends within the first so many -/
def NC (l : Sd.Bs) (k : Nat) : Prop := ∀ j x y, j + 1 < k → l[j]? = some x → l[j + 1]? = some y → Sd.cut x y = false
theorem nc_one (l : Sd.Bs) : NC l 1 := fun j x y hj => by omega
theorem nc_more {l : Sd.Bs} {k : Nat} {x y : UInt8} (h : NC l k) (hk : 0 < k) (hx : l[k - 1]? = some x) (hy : l[k]? = some y) (hc : Sd.cut x y = false) : NC l (k + 1) := by
  intro j a b hj ha hb
  by_cases e : j + 1 < k
  · exact h j a b e ha hb
  · have e2 : j = k - 1 := by omega
    subst e2
    rw [show k - 1 + 1 = k by omega] at hb
    rw [hx] at ha
    rw [hy] at hb
    cases ha; cases hb
    exact hc
theorem cut_two {x y : UInt8} (h : Sd.kd x = 2) : Sd.cut x y = true := by
  unfold Sd.cut
  rw [h]
  cases e : Sd.kd y == 2 with
  | true => simp
  | false => simp only [bne, e]; rfl
theorem cut_un {x y : UInt8} (h : Sd.kd y ≠ Sd.kd x) : Sd.cut x y = true := by
  unfold Sd.cut
  rw [bne_iff_ne.2 h]; rfl
theorem cut_same {x y : UInt8} (h : Sd.kd y = Sd.kd x) (h2 : Sd.kd x ≠ 2) : Sd.cut x y = false := by
  unfold Sd.cut
  rw [h, beq_eq_false_iff_ne.2 h2]
  simp

end Go.Proofs.YtjgjfnmljmmplaaDoor
