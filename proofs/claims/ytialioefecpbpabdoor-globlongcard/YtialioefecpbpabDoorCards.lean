/-
  DERIVED. GIVEN WITH THE SEED: THE CARDS: each row of YtialioefecpbpabDoorRows.lean that lists a variable, with what it lists TIED to the program's text (the seventh form; the later family's looks); each row that meets fmt, with fmt's text TOLD by the authors' own Lean function (tested against real Go, not proved from fmt's source: count such statements apart). THE CARD IS WHAT COUNTS. Prove the row's statement (the work); the ties are given (YtialioefecpbpabDoorTie.lean); close each card by the builder's one call (the guide's Derived/Test/ToyasCard.lean, 'card_holds'). Laid BY PROGRAM, IN A SANDBOX (cutbox-door.mjs). By AI agents, Wed Nov 11 2026. No macro, syntax, notation, axiom, sorry.
-/
import Derived.Test.YtialioefecpbpabDoorRows
import GoSem.ClaimSeven
namespace Go.Proofs.YtialioefecpbpabDoor
namespace Rows

/-- THE TIED CARD OF 'selvagelaw04.GlobLong'. -/
def globLongCard : Claim7 := { stood := { row := globLongRow, standIns := [], harness := (true, "3956d35dcadf1fd529c9a24204d98b72a153cce06cccedf03cdd2af29fdc1b03"), looks := true }, kinds := [], alts := [], laidByText := true, laidKinds := [.handle], laidTests := true, laidLooks := .later }
def GlobLongCardSaid : Prop := Claim7.holds Tryd.pinned (.plain (OpenSpec.ofChange globLongSpec)) globLongCard

/-- THE SECOND FORM's CARD OF 'selvagelaw04.GlobLong'. -/
def globLongUptoCard : Claim7 := { stood := { row := globLongUptoRow, standIns := [], harness := (true, "3956d35dcadf1fd529c9a24204d98b72a153cce06cccedf03cdd2af29fdc1b03"), looks := true }, kinds := [], alts := [], laidByText := true, laidKinds := [.handle], laidTests := true, laidLooks := .later }
def GlobLongUptoCardSaid : Prop := Claim7.holds Tryd.pinned (.plain (OpenSpec.upto globLongSpec)) globLongUptoCard
end Rows
end Go.Proofs.YtialioefecpbpabDoor
