/-
  A list of changes as an argument: opened, sized.
-/
import Derived.Test.YtnbonghlmdnabaaDoorC0
import Derived.ProofKit
import Derived.OpenShut
import Derived.SizedLaws
import Derived.Deep.Slices
namespace Go.Proofs.YtnbonghlmdnabaaDoor
open Go.RowKit Go.Deep
open Ed (Ch Run Pr)

theorem laidOut : laidOutB Tryd.prog = true := by kernel_rfl
instance : Inhabited Ch := ⟨⟨0, 0, 0, 0⟩⟩
theorem wf_I64 {n : Int} (h : (Lit.int .i64 n).wf = true) : I64 n := by
  simp only [Lit.wf, Bool.and_eq_true, decide_eq_true_eq] at h
  exact h
theorem addr_none4 {w : World} {a : Addr} {v : Value} (h : w.cell? a = some v) : ∃ b o, a = ⟨b, o, none⟩ ∧ b < w.heap.size := by
  obtain ⟨b, o, spot⟩ := a
  have hspot : spot = none := World.cell?_spot h
  subst hspot
  exact ⟨b, o, rfl, lt_of_cell h⟩
theorem csC_back {l : List Ch} {j : Nat} {u : Value} (h : (csC l)[j]? = some u) : ∃ k i c, j = k * 4 + i ∧ i < 4 ∧ l[k]? = some c ∧ (cC c)[i]? = some u := by
  have hj : j < l.length * 4 := by
    rw [← csC_length]
    rcases Nat.lt_or_ge j (csC l).length with q | q
    · exact q
    · rw [List.getElem?_eq_none q] at h; cases h
  have hk : j / 4 < l.length := by omega
  obtain ⟨c, hc⟩ : ∃ c, l[j / 4]? = some c := ⟨_, List.getElem?_eq_getElem hk⟩
  refine ⟨j / 4, j % 4, c, by omega, by omega, hc, ?_⟩
  rw [← csC_get hc (j % 4) (by omega), show j / 4 * 4 + j % 4 = j by omega]
  exact h
end Go.Proofs.YtnbonghlmdnabaaDoor
