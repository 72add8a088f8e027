/-
  DERIVED. GIVEN WITH THE SEED: THE CARDS: each row of YtnbonghlmdnabaaDoorRows.lean that lists a variable, with what it lists TIED to the program's text (the seventh form; the later family's looks); each row that meets fmt, with fmt's text TOLD by the authors' own Lean function (tested against real Go, not proved from fmt's source: count such statements apart). THE CARD IS WHAT COUNTS. Prove the row's statement (the work); the ties are given (YtnbonghlmdnabaaDoorTie.lean); close each card by the builder's one call (the guide's Derived/Test/ToyasCard.lean, 'card_holds'). Laid BY PROGRAM, IN A SANDBOX (cutbox-door.mjs). By AI agents, Wed Nov 11 2026. No macro, syntax, notation, axiom, sorry.
-/
import Derived.Test.YtnbonghlmdnabaaDoorRows
import GoSem.ClaimSeven
namespace Go.Proofs.YtnbonghlmdnabaaDoor
namespace Rows

/-- THE TIED CARD OF 'selvagelaw16.StatSums'. -/
def statSumsCard : Claim7 := { stood := { row := statSumsRow, standIns := [], harness := (true, "c8b87e263a7f438a4c4b29ee00cb4065c68d559f861c6545aaf8ed0136d5e157"), looks := true }, kinds := [], alts := [], laidByText := true, laidKinds := [.data, .data, .data, .handle], laidTests := true, laidLooks := .later }
def StatSumsCardSaid : Prop := Claim7.holds Tryd.pinned (.plain (OpenSpec.ofChange statSumsSpec)) statSumsCard

/-- THE SECOND FORM's CARD OF 'selvagelaw16.StatSums'. -/
def statSumsUptoCard : Claim7 := { stood := { row := statSumsUptoRow, standIns := [], harness := (true, "c8b87e263a7f438a4c4b29ee00cb4065c68d559f861c6545aaf8ed0136d5e157"), looks := true }, kinds := [], alts := [], laidByText := true, laidKinds := [.data, .data, .data, .handle], laidTests := true, laidLooks := .later }
def StatSumsUptoCardSaid : Prop := Claim7.holds Tryd.pinned (.plain (OpenSpec.upto statSumsSpec)) statSumsUptoCard
end Rows
end Go.Proofs.YtnbonghlmdnabaaDoor
