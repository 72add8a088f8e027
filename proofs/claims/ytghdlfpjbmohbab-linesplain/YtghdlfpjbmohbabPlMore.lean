/-
  More plain laws on lines.
-/
import Derived.Test.YtghdlfpjbmohbabPl
namespace Go.Proofs.Ytghdlfpjbmohbab.Pl
open Go

theorem fl_full (x : List UInt8) (h : (10 : UInt8) ∉ x.take (x.length - 1)) : fl x = x.length := by
  rcases parts x 10 with h1 | ⟨p, q, rfl, hp⟩
  · exact fl_miss x h1
  · cases q with
    | nil => rw [fl_hit p [] hp]; simp
    | cons d q =>
      refine absurd ?_ h
      have e : (p ++ 10 :: d :: q).take ((p ++ 10 :: d :: q).length - 1) = p ++ 10 :: (d :: q).take ((d :: q).length - 1) := by
        have : (p ++ 10 :: d :: q).length - 1 = p.length + ((d :: q).length - 1 + 1) := by simp
        rw [this, List.take_length_add_append]
        simp
      rw [e]
      simp
theorem fl_part (x : List UInt8) (j : Nat) (hj : x[j]? = some 10) (hl : j + 1 < x.length) : fl x ≠ x.length := by
  rcases parts x 10 with h1 | ⟨p, q, rfl, hp⟩
  · exact absurd (List.mem_of_getElem? hj) h1
  · rw [fl_hit p q hp]
    have : p.length ≤ j := by
      rcases Nat.lt_or_ge j p.length with h | h
      · rw [List.getElem?_append_left h] at hj
        exact absurd (List.mem_of_getElem? hj) hp
      · exact h
    omega

end Go.Proofs.Ytghdlfpjbmohbab.Pl
