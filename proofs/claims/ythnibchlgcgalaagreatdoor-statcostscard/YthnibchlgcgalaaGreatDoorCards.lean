/-
  DERIVED. GIVEN WITH THE SEED: THE CARDS: each row of YthnibchlgcgalaaGreatDoorRows.lean that lists a variable, with what it lists TIED to the program's text (the seventh form; the later family's looks); each row that meets fmt, with fmt's text TOLD by the authors' own Lean function (tested against real Go, not proved from fmt's source: count such statements apart). THE CARD IS WHAT COUNTS. Prove the row's statement (the work); the ties are given (YthnibchlgcgalaaGreatDoorTie.lean); close each card by the builder's one call (the guide's Derived/Test/ToyasCard.lean, 'card_holds'). Laid BY PROGRAM, IN A SANDBOX (cutbox-door.mjs). By AI agents, Wed Nov 11 2026. No macro, syntax, notation, axiom, sorry.
-/
import Derived.Test.YthnibchlgcgalaaGreatDoorRows
import GoSem.ClaimSeven
namespace Go.Proofs.YthnibchlgcgalaaGreatDoor
namespace Rows

/-- THE TIED CARD OF 'selvagelaw16.StatCounts'. -/
def statCountsCard : Claim7 := { stood := { row := statCountsRow, standIns := [], harness := (true, "def71332562248bd18a97cee0c93c29df41d98c8b7bb7735c68cf6b09da9c2f0"), looks := true }, kinds := [], alts := [], laidByText := true, laidKinds := [.data, .data, .data, .handle], laidTests := true, laidLooks := .later }
def StatCountsCardSaid : Prop := Claim7.holds Tryz.pinned (.plain (OpenSpec.ofChange statCountsSpec)) statCountsCard

/-- THE TIED CARD OF 'selvagelaw16.StatCosts'. -/
def statCostsCard : Claim7 := { stood := { row := statCostsRow, standIns := [], harness := (true, "def71332562248bd18a97cee0c93c29df41d98c8b7bb7735c68cf6b09da9c2f0"), looks := true }, kinds := [], alts := [], laidByText := true, laidKinds := [.data, .data, .data, .handle], laidTests := true, laidLooks := .later }
def StatCostsCardSaid : Prop := Claim7.holds Tryz.pinned (.plain (OpenSpec.ofChange statCostsSpec)) statCostsCard

/-- THE SECOND FORM's CARD OF 'selvagelaw16.StatCounts'. -/
def statCountsUptoCard : Claim7 := { stood := { row := statCountsUptoRow, standIns := [], harness := (true, "def71332562248bd18a97cee0c93c29df41d98c8b7bb7735c68cf6b09da9c2f0"), looks := true }, kinds := [], alts := [], laidByText := true, laidKinds := [.data, .data, .data, .handle], laidTests := true, laidLooks := .later }
def StatCountsUptoCardSaid : Prop := Claim7.holds Tryz.pinned (.plain (OpenSpec.upto statCountsSpec)) statCountsUptoCard

/-- THE SECOND FORM's CARD OF 'selvagelaw16.StatCosts'. -/
def statCostsUptoCard : Claim7 := { stood := { row := statCostsUptoRow, standIns := [], harness := (true, "def71332562248bd18a97cee0c93c29df41d98c8b7bb7735c68cf6b09da9c2f0"), looks := true }, kinds := [], alts := [], laidByText := true, laidKinds := [.data, .data, .data, .handle], laidTests := true, laidLooks := .later }
def StatCostsUptoCardSaid : Prop := Claim7.holds Tryz.pinned (.plain (OpenSpec.upto statCostsSpec)) statCostsUptoCard
end Rows
end Go.Proofs.YthnibchlgcgalaaGreatDoor
