/-
  The walk of Order (made by wip/genj7.py).
-/
import Derived.Test.YthnibchlgcgalaaGreatDoorGrJ6
namespace Go.Proofs.YthnibchlgcgalaaGreatDoor
open Go.RowKit
open Hu (Rw Hk)

theorem all_takeH {l : List Hk} {p : Hk → Bool} {k : Nat} {x : Hk} (h : l[k]? = some x) : (l.take (k + 1)).all p = ((l.take k).all p && p x) := by
  rw [List.take_add_one, h, List.all_append]; simp
theorem drop_atH {l : List Hk} {k : Nat} {x : Hk} (h : l[k]? = some x) : l.drop k = x :: l.drop (k + 1) := by
  obtain ⟨h1, h2⟩ := List.getElem?_eq_some_iff.1 h
  rw [List.drop_eq_getElem_cons h1, h2]
theorem plc_in {h : Hk} (hv : Hu.vld h = true) : 0 ≤ Hu.plc h.a h.n ∧ Hu.plc h.a h.n + h.n ≤ 2147483647 ∧ 0 ≤ Hu.plc h.b h.m ∧ Hu.plc h.b h.m + h.m ≤ 2147483647 ∧ 0 ≤ h.n ∧ 0 ≤ h.m := by
  obtain ⟨_, h1, h2, h3, _, h4, h5, h6, _, _⟩ := Hu.vld_parts hv
  unfold Hu.plc
  split <;> split <;> omega
theorem bne_yes {a b : Int} (h : a ≠ b) : (a != b) = true := by rw [bne_iff_ne]; exact h

end Go.Proofs.YthnibchlgcgalaaGreatDoor
