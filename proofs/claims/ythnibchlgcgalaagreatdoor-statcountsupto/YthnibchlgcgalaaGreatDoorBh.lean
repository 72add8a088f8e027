/-
  A list of hunks as an argument, by its bulk.
-/
import Derived.Test.YthnibchlgcgalaaGreatDoorBf
import Derived.Test.YthnibchlgcgalaaGreatDoorBc2
import Derived.Test.YthnibchlgcgalaaGreatDoorGrKf
namespace Go.Proofs.YthnibchlgcgalaaGreatDoor.Sx
open Go.RowKit
open Hu (Rw Hk)

theorem bulk_dat {H : Type} {c : Hk} {D : DataW H} (h : DatH c D) : 1 + c.rows.length ≤ Rows.uptoBulk D := by
  obtain ⟨d0, d1, d2, d3, d4, d5, rfl, h5⟩ := h
  have key : c.rows.length ≤ Rows.uptoBulk d5 := by
    rcases h5 with ⟨h5, _⟩ | ⟨E, sp, rfl⟩
    · rw [h5]; exact Nat.zero_le _
    · have h := bulk_lenK ((List.range c.rows.length).map E)
      rw [List.length_map, List.length_range] at h
      simp only [Rows.uptoBulk]
      omega
  simp only [Rows.uptoBulk, Rows.uptoBulkAll]
  omega
theorem bulk_sum {H : Type} : ∀ (l : List Hk) (ds : List (DataW H)), ds.length = l.length → (∀ (j : Nat) c dd, l[j]? = some c → ds[j]? = some dd → DatH c dd) → l.length + tR l ≤ Rows.uptoBulkAll ds
  | [], _, _, _ => by simp [tR]
  | c :: l, [], h, _ => by simp at h
  | c :: l, d :: ds, h, hd => by
    have h1 := bulk_dat (hd 0 c d rfl rfl)
    have h2 := bulk_sum l ds (by simpa using h) (fun j c' dd e1 e2 => hd (j + 1) c' dd (by simpa using e1) (by simpa using e2))
    show _ ≤ Rows.uptoBulk d + Rows.uptoBulkAll ds
    rw [List.length_cons]
    show l.length + 1 + (c.rows.length + tR l) ≤ _
    omega
theorem hks_upto {H : Type} {d : DataW H} {l : List Hk} (hx : (l = [] ∧ d = .nil) ∨ ∃ (D : Nat → DataW H) (sp : List (DataW H)), d = .slice ((List.range l.length).map D) sp ∧ ∀ j c, l[j]? = some c → DatH c (D j))
    (hw : ∀ c ∈ l, WfH c ∧ (∀ r ∈ c.rows, r.t.size ≤ maxLen) ∧ c.head.size ≤ maxLen) (hb : Rows.uptoBulk d ≤ 1048576) : l.length ≤ 1048576 ∧ tR l ≤ 1048576 ∧ ∀ h ∈ l, SzH h := by
  have key : l.length + tR l ≤ 1048576 := by
    rcases hx with ⟨rfl, _⟩ | ⟨D, sp, rfl, hD⟩
    · simp [tR]
    · have := bulk_sum l ((List.range l.length).map D) (by simp) (fun j c dd e1 e2 => by
        have hj : j < l.length := (List.getElem?_eq_some_iff.1 e1).1
        rw [List.getElem?_map, List.getElem?_range hj] at e2
        simp at e2
        rw [← e2]
        exact hD j c e1)
      simp only [Rows.uptoBulk] at hb
      omega
  refine ⟨by omega, by omega, fun h hh => ⟨?_, (hw h hh).2.1, (hw h hh).2.2⟩⟩
  have := tR_mem hh
  omega
end Go.Proofs.YthnibchlgcgalaaGreatDoor.Sx
