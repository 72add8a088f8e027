/-
  The walk of Diff.
-/
import Derived.Test.YtpedbnghhmnjjaaL5
import Derived.Test.YtpedbnghhmnjjaaK3
namespace Go.Proofs.Ytpedbnghhmnjjaa
open Go.RowKit
open Ed (Ch)

/-- a side as it was made -/
theorem side_new {w : World} {g gn gp gc : Nat} {row : List Int} {p : Int → Bool} (hb : w.heap[g]? = some (.cells #[.slice (some ⟨gn, 0, none⟩) (row.filter p).length row.length, .slice (some ⟨gp, 0, none⟩) (row.filter p).length row.length, .slice (some ⟨gc, 0, none⟩) row.length row.length] 42))
    (h1 : RdI w (.slice (some ⟨gn, 0, none⟩) (row.filter p).length row.length) (row.filter p)) (h2 : RdI w (.slice (some ⟨gp, 0, none⟩) (row.filter p).length row.length) (pl0 p row 0)) (h3 : BlR w gc (row.map fun x => !p x)) : Side w g gn gp gc row.length row p (fun _ => false) :=
  ⟨hb, h1, h2, by rw [My.tb_none, spread_none p row _ (Nat.le_refl _)]; exact h3⟩
theorem marks_same (A B : List Int) : (My.fpos (My.gA A B) 0).length = (My.fpos (My.gB A B) 0).length := by
  obtain ⟨h1, h2, h3, h4⟩ := My.marks_spec A B
  rw [My.fpos_count _ A 0 h1, My.fpos_count _ B 0 h2, h3]
end Go.Proofs.Ytpedbnghhmnjjaa
