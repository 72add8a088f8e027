/-
  The document's Order (made by wip/genke.py).
-/
import Derived.Test.YthnibchlgcgalaaGreatDoorGrKc
import Derived.Test.YthnibchlgcgalaaGreatDoorJ7
namespace Go.Proofs.YthnibchlgcgalaaGreatDoor
open Go.RowKit
open Hu (Rw Hk)

theorem part_lackO {h : Hk} (hv : Hu.vld h = true) : Hu.part Hu.isO h.rows = Hu.lack (Hu.olds h.rows) := by
  obtain ⟨_, _, _, _, h5, _, _, _, _, _⟩ := Hu.vld_parts hv
  rw [Hu.part_olds, Hu.lack_any h5]
theorem part_lackF {h : Hk} (hv : Hu.vld h = true) : Hu.part Hu.isF h.rows = Hu.lack (Hu.fres h.rows) := by
  obtain ⟨_, _, _, _, _, _, _, _, h9, _⟩ := Hu.vld_parts hv
  rw [Hu.part_fres, Hu.lack_any h9]
theorem vld_span {h : Hk} (hv : Hu.vld h = true) : -9223372036854775808 < h.a ∧ h.a ≤ 9223372036854775807 ∧ -9223372036854775808 < h.b ∧ h.b ≤ 9223372036854775807 := by
  obtain ⟨_, h1, h2, h3, _, h4, h5, h6, _, _⟩ := Hu.vld_parts hv
  omega
end Go.Proofs.YthnibchlgcgalaaGreatDoor
