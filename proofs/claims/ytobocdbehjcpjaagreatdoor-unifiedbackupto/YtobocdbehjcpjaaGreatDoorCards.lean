/-
  DERIVED. GIVEN WITH THE SEED: THE CARDS: each row of YtobocdbehjcpjaaGreatDoorRows.lean that lists a variable, with what it lists TIED to the program's text (the seventh form; the later family's looks); each row that meets fmt, with fmt's text TOLD by the authors' own Lean function (tested against real Go, not proved from fmt's source: count such statements apart). THE CARD IS WHAT COUNTS. Prove the row's statement (the work); the ties are given (YtobocdbehjcpjaaGreatDoorTie.lean); close each card by the builder's one call (the guide's Derived/Test/ToyasCard.lean, 'card_holds'). Laid BY PROGRAM, IN A SANDBOX (cutbox-door.mjs). By AI agents, Wed Nov 11 2026. No macro, syntax, notation, axiom, sorry.
-/
import Derived.Test.YtobocdbehjcpjaaGreatDoorRows
import GoSem.ClaimSeven
namespace Go.Proofs.YtobocdbehjcpjaaGreatDoor
namespace Rows

/-- THE TIED CARD OF 'selvagelaw11.UnifiedPrints'. -/
def unifiedPrintsCard : Claim7 := { stood := { row := unifiedPrintsRow, standIns := [], harness := (true, "02ca7f9d27553b361f0e03a9b91f7917b1e15022d61d51b5628253ec6285c0b0"), looks := true }, kinds := [], alts := [], laidByText := true, laidKinds := [.data, .data, .data, .handle, .sentinel, .sentinel], laidTests := true, laidLooks := .later }
def UnifiedPrintsCardSaid : Prop := Claim7.holds Tryz.pinned (.plain (OpenSpec.ofChange unifiedPrintsSpec)) unifiedPrintsCard

/-- THE TIED CARD OF 'selvagelaw11.UnifiedParses'. -/
def unifiedParsesCard : Claim7 := { stood := { row := unifiedParsesRow, standIns := [], harness := (true, "02ca7f9d27553b361f0e03a9b91f7917b1e15022d61d51b5628253ec6285c0b0"), looks := true }, kinds := [], alts := [], laidByText := true, laidKinds := [.data, .data, .data, .handle, .sentinel, .sentinel], laidTests := true, laidLooks := .later }
def UnifiedParsesCardSaid : Prop := Claim7.holds Tryz.pinned (.plain (OpenSpec.ofChange unifiedParsesSpec)) unifiedParsesCard

/-- THE TIED CARD OF 'selvagelaw11.UnifiedBack'. -/
def unifiedBackCard : Claim7 := { stood := { row := unifiedBackRow, standIns := [], harness := (true, "02ca7f9d27553b361f0e03a9b91f7917b1e15022d61d51b5628253ec6285c0b0"), looks := true }, kinds := [], alts := [], laidByText := true, laidKinds := [.data, .data, .data, .handle, .sentinel, .sentinel], laidTests := true, laidLooks := .later }
def UnifiedBackCardSaid : Prop := Claim7.holds Tryz.pinned (.plain (OpenSpec.ofChange unifiedBackSpec)) unifiedBackCard

/-- THE TIED CARD OF 'selvagelaw11.UnifiedRest'. -/
def unifiedRestCard : Claim7 := { stood := { row := unifiedRestRow, standIns := [], harness := (true, "02ca7f9d27553b361f0e03a9b91f7917b1e15022d61d51b5628253ec6285c0b0"), looks := true }, kinds := [], alts := [], laidByText := true, laidKinds := [.data, .data, .data, .handle, .sentinel, .sentinel], laidTests := true, laidLooks := .later }
def UnifiedRestCardSaid : Prop := Claim7.holds Tryz.pinned (.plain (OpenSpec.ofChange unifiedRestSpec)) unifiedRestCard

/-- THE TIED CARD OF 'selvagelaw11.UnifiedOwn'. -/
def unifiedOwnCard : Claim7 := { stood := { row := unifiedOwnRow, standIns := [], harness := (true, "02ca7f9d27553b361f0e03a9b91f7917b1e15022d61d51b5628253ec6285c0b0"), looks := true }, kinds := [], alts := [], laidByText := true, laidKinds := [.data, .data, .data, .handle, .sentinel, .sentinel], laidTests := true, laidLooks := .later }
def UnifiedOwnCardSaid : Prop := Claim7.holds Tryz.pinned (.plain (OpenSpec.ofChange unifiedOwnSpec)) unifiedOwnCard

/-- THE SECOND FORM's CARD OF 'selvagelaw11.UnifiedPrints'. -/
def unifiedPrintsUptoCard : Claim7 := { stood := { row := unifiedPrintsUptoRow, standIns := [], harness := (true, "02ca7f9d27553b361f0e03a9b91f7917b1e15022d61d51b5628253ec6285c0b0"), looks := true }, kinds := [], alts := [], laidByText := true, laidKinds := [.data, .data, .data, .handle, .sentinel, .sentinel], laidTests := true, laidLooks := .later }
def UnifiedPrintsUptoCardSaid : Prop := Claim7.holds Tryz.pinned (.plain (OpenSpec.upto unifiedPrintsSpec)) unifiedPrintsUptoCard

/-- THE SECOND FORM's CARD OF 'selvagelaw11.UnifiedParses'. -/
def unifiedParsesUptoCard : Claim7 := { stood := { row := unifiedParsesUptoRow, standIns := [], harness := (true, "02ca7f9d27553b361f0e03a9b91f7917b1e15022d61d51b5628253ec6285c0b0"), looks := true }, kinds := [], alts := [], laidByText := true, laidKinds := [.data, .data, .data, .handle, .sentinel, .sentinel], laidTests := true, laidLooks := .later }
def UnifiedParsesUptoCardSaid : Prop := Claim7.holds Tryz.pinned (.plain (OpenSpec.upto unifiedParsesSpec)) unifiedParsesUptoCard

/-- THE SECOND FORM's CARD OF 'selvagelaw11.UnifiedBack'. -/
def unifiedBackUptoCard : Claim7 := { stood := { row := unifiedBackUptoRow, standIns := [], harness := (true, "02ca7f9d27553b361f0e03a9b91f7917b1e15022d61d51b5628253ec6285c0b0"), looks := true }, kinds := [], alts := [], laidByText := true, laidKinds := [.data, .data, .data, .handle, .sentinel, .sentinel], laidTests := true, laidLooks := .later }
def UnifiedBackUptoCardSaid : Prop := Claim7.holds Tryz.pinned (.plain (OpenSpec.upto unifiedBackSpec)) unifiedBackUptoCard

/-- THE SECOND FORM's CARD OF 'selvagelaw11.UnifiedRest'. -/
def unifiedRestUptoCard : Claim7 := { stood := { row := unifiedRestUptoRow, standIns := [], harness := (true, "02ca7f9d27553b361f0e03a9b91f7917b1e15022d61d51b5628253ec6285c0b0"), looks := true }, kinds := [], alts := [], laidByText := true, laidKinds := [.data, .data, .data, .handle, .sentinel, .sentinel], laidTests := true, laidLooks := .later }
def UnifiedRestUptoCardSaid : Prop := Claim7.holds Tryz.pinned (.plain (OpenSpec.upto unifiedRestSpec)) unifiedRestUptoCard

/-- THE SECOND FORM's CARD OF 'selvagelaw11.UnifiedOwn'. -/
def unifiedOwnUptoCard : Claim7 := { stood := { row := unifiedOwnUptoRow, standIns := [], harness := (true, "02ca7f9d27553b361f0e03a9b91f7917b1e15022d61d51b5628253ec6285c0b0"), looks := true }, kinds := [], alts := [], laidByText := true, laidKinds := [.data, .data, .data, .handle, .sentinel, .sentinel], laidTests := true, laidLooks := .later }
def UnifiedOwnUptoCardSaid : Prop := Claim7.holds Tryz.pinned (.plain (OpenSpec.upto unifiedOwnSpec)) unifiedOwnUptoCard
end Rows
end Go.Proofs.YtobocdbehjcpjaaGreatDoor
