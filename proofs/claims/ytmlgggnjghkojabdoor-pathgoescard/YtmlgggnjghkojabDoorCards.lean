/-
  DERIVED. GIVEN WITH THE SEED: THE CARDS: each row of YtmlgggnjghkojabDoorRows.lean that lists a variable, with what it lists TIED to the program's text (the seventh form; the later family's looks); each row that meets fmt, with fmt's text TOLD by the authors' own Lean function (tested against real Go, not proved from fmt's source: count such statements apart). THE CARD IS WHAT COUNTS. Prove the row's statement (the work); the ties are given (YtmlgggnjghkojabDoorTie.lean); close each card by the builder's one call (the guide's Derived/Test/ToyasCard.lean, 'card_holds'). Laid BY PROGRAM, IN A SANDBOX (cutbox-door.mjs). By AI agents, Wed Nov 11 2026. No macro, syntax, notation, axiom, sorry.
-/
import Derived.Test.YtmlgggnjghkojabDoorRows
import GoSem.ClaimSeven
namespace Go.Proofs.YtmlgggnjghkojabDoor
namespace Rows

/-- THE TIED CARD OF 'selvagelaw03.PathRels'. -/
def pathRelsCard : Claim7 := { stood := { row := pathRelsRow, standIns := [], harness := (true, "5562a9a48bede1c4b249a7cda1e7a919d98075df51f34026f66ec78eca10d1c7"), looks := true }, kinds := [], alts := [], laidByText := true, laidKinds := [.data, .handle, .pinned], laidTests := true, laidLooks := .later }
def PathRelsCardSaid : Prop := Claim7.holds Tryd.pinned (.plain (OpenSpec.ofChange pathRelsSpec)) pathRelsCard

/-- THE TIED CARD OF 'selvagelaw03.PathGoes'. -/
def pathGoesCard : Claim7 := { stood := { row := pathGoesRow, standIns := [], harness := (true, "5562a9a48bede1c4b249a7cda1e7a919d98075df51f34026f66ec78eca10d1c7"), looks := true }, kinds := [], alts := [], laidByText := true, laidKinds := [.data, .handle, .pinned], laidTests := true, laidLooks := .later }
def PathGoesCardSaid : Prop := Claim7.holds Tryd.pinned (.plain (OpenSpec.ofChange pathGoesSpec)) pathGoesCard

/-- THE SECOND FORM's CARD OF 'selvagelaw03.PathRels'. -/
def pathRelsUptoCard : Claim7 := { stood := { row := pathRelsUptoRow, standIns := [], harness := (true, "5562a9a48bede1c4b249a7cda1e7a919d98075df51f34026f66ec78eca10d1c7"), looks := true }, kinds := [], alts := [], laidByText := true, laidKinds := [.data, .handle, .pinned], laidTests := true, laidLooks := .later }
def PathRelsUptoCardSaid : Prop := Claim7.holds Tryd.pinned (.plain (OpenSpec.upto pathRelsSpec)) pathRelsUptoCard

/-- THE SECOND FORM's CARD OF 'selvagelaw03.PathGoes'. -/
def pathGoesUptoCard : Claim7 := { stood := { row := pathGoesUptoRow, standIns := [], harness := (true, "5562a9a48bede1c4b249a7cda1e7a919d98075df51f34026f66ec78eca10d1c7"), looks := true }, kinds := [], alts := [], laidByText := true, laidKinds := [.data, .handle, .pinned], laidTests := true, laidLooks := .later }
def PathGoesUptoCardSaid : Prop := Claim7.holds Tryd.pinned (.plain (OpenSpec.upto pathGoesSpec)) pathGoesUptoCard
end Rows
end Go.Proofs.YtmlgggnjghkojabDoor
