/-
  A list of numbers as an argument, by its bulk.
-/
import Derived.Test.YtpedbnghhmnjjaaDf
namespace Go.Proofs.Ytpedbnghhmnjjaa
open Go.RowKit

theorem bulk_pos {H : Type} (d : DataW H) : 1 ≤ Rows.uptoBulk d := by
  cases d with
  | lit l => cases l <;> simp [Rows.uptoBulk]
  | _ => simp [Rows.uptoBulk]
theorem bulk_len {H : Type} : ∀ l : List (DataW H), l.length ≤ Rows.uptoBulkAll l
  | [] => by simp
  | d :: r => by
    have h1 := bulk_pos d
    have h2 := bulk_len r
    simp only [Rows.uptoBulkAll, List.length_cons]
    omega
theorem ints_bulk {H : Type} {d : DataW H} {l : List Int} (hx : (l = [] ∧ d = .nil) ∨ ∃ (D : Nat → DataW H) (sp : List (DataW H)), d = .slice ((List.range l.length).map D) sp) : l.length ≤ Rows.uptoBulk d := by
  rcases hx with ⟨rfl, _⟩ | ⟨D, sp, rfl⟩
  · simp
  · have h := bulk_len ((List.range l.length).map D)
    rw [List.length_map, List.length_range] at h
    simp only [Rows.uptoBulk]
    omega
end Go.Proofs.Ytpedbnghhmnjjaa
