/-
  What lies in a list, by its bulk.
-/
import Derived.Test.YthnibchlgcgalaaGreatDoorGrC
namespace Go.Proofs.YthnibchlgcgalaaGreatDoor.Sx
open Go.RowKit

/-! ### by the bulk -/
theorem bulk_posK {H : Type} (d : DataW H) : 1 ≤ Rows.uptoBulk d := by
  cases d with
  | lit l => cases l <;> simp [Rows.uptoBulk]
  | _ => simp [Rows.uptoBulk]
theorem bulk_lenK {H : Type} : ∀ l : List (DataW H), l.length ≤ Rows.uptoBulkAll l
  | [] => by simp
  | d :: r => by
    have h1 := bulk_posK d
    have h2 := bulk_lenK r
    simp only [Rows.uptoBulkAll, List.length_cons]
    omega
theorem bulk_memK {H : Type} {d : DataW H} : ∀ {l : List (DataW H)}, d ∈ l → Rows.uptoBulk d ≤ Rows.uptoBulkAll l
  | e :: r, h => by
    simp only [Rows.uptoBulkAll]
    rcases List.mem_cons.1 h with rfl | h
    · omega
    · have := bulk_memK h; omega
end Go.Proofs.YthnibchlgcgalaaGreatDoor.Sx
