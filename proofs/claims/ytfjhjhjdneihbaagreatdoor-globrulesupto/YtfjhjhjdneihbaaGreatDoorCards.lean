/-
  DERIVED. GIVEN WITH THE SEED: THE CARDS: each row of YtfjhjhjdneihbaaGreatDoorRows.lean that lists a variable, with what it lists TIED to the program's text (the seventh form; the later family's looks); each row that meets fmt, with fmt's text TOLD by the authors' own Lean function (tested against real Go, not proved from fmt's source: count such statements apart). THE CARD IS WHAT COUNTS. Prove the row's statement (the work); the ties are given (YtfjhjhjdneihbaaGreatDoorTie.lean); close each card by the builder's one call (the guide's Derived/Test/ToyasCard.lean, 'card_holds'). Laid BY PROGRAM, IN A SANDBOX (cutbox-door.mjs). By AI agents, Wed Nov 11 2026. No macro, syntax, notation, axiom, sorry.
-/
import Derived.Test.YtfjhjhjdneihbaaGreatDoorRows
import GoSem.ClaimSeven
namespace Go.Proofs.YtfjhjhjdneihbaaGreatDoor
namespace Rows

/-- THE TIED CARD OF 'selvagelaw04.GlobRules'. -/
def globRulesCard : Claim7 := { stood := { row := globRulesRow, standIns := [], harness := (true, "309da0208b80bc8abf0deba8e9b22e06678f8e988d7c364014084690fbffefa8"), looks := true }, kinds := [], alts := [], laidByText := true, laidKinds := [.data, .handle, .pinned], laidTests := true, laidLooks := .later }
def GlobRulesCardSaid : Prop := Claim7.holds Tryz.pinned (.plain (OpenSpec.ofChange globRulesSpec)) globRulesCard

/-- THE SECOND FORM's CARD OF 'selvagelaw04.GlobRules'. -/
def globRulesUptoCard : Claim7 := { stood := { row := globRulesUptoRow, standIns := [], harness := (true, "309da0208b80bc8abf0deba8e9b22e06678f8e988d7c364014084690fbffefa8"), looks := true }, kinds := [], alts := [], laidByText := true, laidKinds := [.data, .handle, .pinned], laidTests := true, laidLooks := .later }
def GlobRulesUptoCardSaid : Prop := Claim7.holds Tryz.pinned (.plain (OpenSpec.upto globRulesSpec)) globRulesUptoCard
end Rows
end Go.Proofs.YtfjhjhjdneihbaaGreatDoor
