/-
  DERIVED. GIVEN WITH THE SEED: THE CARDS: each row of YtjjhidojialjoaaDoorRows.lean that lists a variable, with what it lists TIED to the program's text (the seventh form; the later family's looks); each row that meets fmt, with fmt's text TOLD by the authors' own Lean function (tested against real Go, not proved from fmt's source: count such statements apart). THE CARD IS WHAT COUNTS. Prove the row's statement (the work); the ties are given (YtjjhidojialjoaaDoorTie.lean); close each card by the builder's one call (the guide's Derived/Test/ToyasCard.lean, 'card_holds'). Laid BY PROGRAM, IN A SANDBOX (cutbox-door.mjs). By AI agents, Wed Nov 11 2026. No macro, syntax, notation, axiom, sorry.
-/
import Derived.Test.YtjjhidojialjoaaDoorRows
import GoSem.ClaimSeven
namespace Go.Proofs.YtjjhidojialjoaaDoor
namespace Rows

/-- THE TIED CARD OF 'selvagelaw05.InternIds'. -/
def internIdsCard : Claim7 := { stood := { row := internIdsRow, standIns := [], harness := (true, "f9d56afddf0a09f56501322bc2242944772a982b25724b4c25395e395f6ce47b"), looks := true }, kinds := [], alts := [], laidByText := true, laidKinds := [.handle], laidTests := true, laidLooks := .later }
def InternIdsCardSaid : Prop := Claim7.holds Tryd.pinned (.plain (OpenSpec.ofChange internIdsSpec)) internIdsCard

/-- THE SECOND FORM's CARD OF 'selvagelaw05.InternIds'. -/
def internIdsUptoCard : Claim7 := { stood := { row := internIdsUptoRow, standIns := [], harness := (true, "f9d56afddf0a09f56501322bc2242944772a982b25724b4c25395e395f6ce47b"), looks := true }, kinds := [], alts := [], laidByText := true, laidKinds := [.handle], laidTests := true, laidLooks := .later }
def InternIdsUptoCardSaid : Prop := Claim7.holds Tryd.pinned (.plain (OpenSpec.upto internIdsSpec)) internIdsUptoCard
end Rows
end Go.Proofs.YtjjhidojialjoaaDoor
