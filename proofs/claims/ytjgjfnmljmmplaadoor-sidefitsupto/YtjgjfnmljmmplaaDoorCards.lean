/-
  DERIVED. GIVEN WITH THE SEED: THE CARDS: each row of YtjgjfnmljmmplaaDoorRows.lean that lists a variable, with what it lists TIED to the program's text (the seventh form; the later family's looks); each row that meets fmt, with fmt's text TOLD by the authors' own Lean function (tested against real Go, not proved from fmt's source: count such statements apart). THE CARD IS WHAT COUNTS. Prove the row's statement (the work); the ties are given (YtjgjfnmljmmplaaDoorTie.lean); close each card by the builder's one call (the guide's Derived/Test/ToyasCard.lean, 'card_holds'). Laid BY PROGRAM, IN A SANDBOX (cutbox-door.mjs). By AI agents, Wed Nov 11 2026. No macro, syntax, notation, axiom, sorry.
-/
import Derived.Test.YtjgjfnmljmmplaaDoorRows
import GoSem.ClaimSeven
namespace Go.Proofs.YtjgjfnmljmmplaaDoor
namespace Rows

/-- THE TIED CARD OF 'selvagelaw15.SidePrints'. -/
def sidePrintsCard : Claim7 := { stood := { row := sidePrintsRow, standIns := [], harness := (true, "aec4ec662645655237cfe485582da97d63918b11bb5d1fd173abfd005178e6b7"), looks := true }, kinds := [], alts := [], laidByText := true, laidKinds := [.handle], laidTests := true, laidLooks := .later }
def SidePrintsCardSaid : Prop := Claim7.holds Tryd.pinned (.plain (OpenSpec.ofChange sidePrintsSpec)) sidePrintsCard

/-- THE TIED CARD OF 'selvagelaw15.SideCuts'. -/
def sideCutsCard : Claim7 := { stood := { row := sideCutsRow, standIns := [], harness := (true, "aec4ec662645655237cfe485582da97d63918b11bb5d1fd173abfd005178e6b7"), looks := true }, kinds := [], alts := [], laidByText := true, laidKinds := [.handle], laidTests := true, laidLooks := .later }
def SideCutsCardSaid : Prop := Claim7.holds Tryd.pinned (.plain (OpenSpec.ofChange sideCutsSpec)) sideCutsCard

/-- THE TIED CARD OF 'selvagelaw15.SideFits'. -/
def sideFitsCard : Claim7 := { stood := { row := sideFitsRow, standIns := [], harness := (true, "aec4ec662645655237cfe485582da97d63918b11bb5d1fd173abfd005178e6b7"), looks := true }, kinds := [], alts := [], laidByText := true, laidKinds := [.handle], laidTests := true, laidLooks := .later }
def SideFitsCardSaid : Prop := Claim7.holds Tryd.pinned (.plain (OpenSpec.ofChange sideFitsSpec)) sideFitsCard

/-- THE SECOND FORM's CARD OF 'selvagelaw15.SidePrints'. -/
def sidePrintsUptoCard : Claim7 := { stood := { row := sidePrintsUptoRow, standIns := [], harness := (true, "aec4ec662645655237cfe485582da97d63918b11bb5d1fd173abfd005178e6b7"), looks := true }, kinds := [], alts := [], laidByText := true, laidKinds := [.handle], laidTests := true, laidLooks := .later }
def SidePrintsUptoCardSaid : Prop := Claim7.holds Tryd.pinned (.plain (OpenSpec.upto sidePrintsSpec)) sidePrintsUptoCard

/-- THE SECOND FORM's CARD OF 'selvagelaw15.SideCuts'. -/
def sideCutsUptoCard : Claim7 := { stood := { row := sideCutsUptoRow, standIns := [], harness := (true, "aec4ec662645655237cfe485582da97d63918b11bb5d1fd173abfd005178e6b7"), looks := true }, kinds := [], alts := [], laidByText := true, laidKinds := [.handle], laidTests := true, laidLooks := .later }
def SideCutsUptoCardSaid : Prop := Claim7.holds Tryd.pinned (.plain (OpenSpec.upto sideCutsSpec)) sideCutsUptoCard

/-- THE SECOND FORM's CARD OF 'selvagelaw15.SideFits'. -/
def sideFitsUptoCard : Claim7 := { stood := { row := sideFitsUptoRow, standIns := [], harness := (true, "aec4ec662645655237cfe485582da97d63918b11bb5d1fd173abfd005178e6b7"), looks := true }, kinds := [], alts := [], laidByText := true, laidKinds := [.handle], laidTests := true, laidLooks := .later }
def SideFitsUptoCardSaid : Prop := Claim7.holds Tryd.pinned (.plain (OpenSpec.upto sideFitsSpec)) sideFitsUptoCard
end Rows
end Go.Proofs.YtjgjfnmljmmplaaDoor
