/-
  Plain: the whole box.
-/
import Derived.Test.YtpedbnghhmnjjaaL4b
namespace Go.Proofs.Ytpedbnghhmnjjaa
open Ed (Ch)

theorem whole_box (N M : List Int) :
    My.tb N.length (My.goA N M [⟨0, 0, N.length, M.length⟩] (fun _ => false)) = (My.mkF N M).1 ∧ My.tb M.length (My.goB N M [⟨0, 0, N.length, M.length⟩] (fun _ => false)) = (My.mkF N M).2 := by
  have hc : ∀ l : List Int, My.cut l 0 l.length = l := by intro l; unfold My.cut; simp
  have e : My.bxm N M ⟨0, 0, N.length, M.length⟩ = My.mkF N M := by
    show My.mkF (My.cut N 0 N.length) (My.cut M 0 M.length) = _
    rw [hc, hc]
  obtain ⟨l1, l2, _, _⟩ := My.mk_spec (N.length + M.length + 1) N M (Nat.lt_succ_self _)
  constructor
  · show My.tb N.length (My.orAt (fun _ => false) 0 (My.bxm N M ⟨0, 0, N.length, M.length⟩).1) = _
    rw [e]
    have h := My.tb_all (My.mkF N M).1
    rw [show (My.mkF N M).1.length = N.length from l1] at h
    exact h
  · show My.tb M.length (My.orAt (fun _ => false) 0 (My.bxm N M ⟨0, 0, N.length, M.length⟩).2) = _
    rw [e]
    have h := My.tb_all (My.mkF N M).2
    rw [show (My.mkF N M).2.length = M.length from l2] at h
    exact h
end Go.Proofs.Ytpedbnghhmnjjaa
