/-
  DERIVED. GIVEN WITH THE SEED: THE CARDS: each row of YtnamioihapnefaaGreatDoorRows.lean that lists a variable, with what it lists TIED to the program's text (the seventh form; the later family's looks); each row that meets fmt, with fmt's text TOLD by the authors' own Lean function (tested against real Go, not proved from fmt's source: count such statements apart). THE CARD IS WHAT COUNTS. Prove the row's statement (the work); the ties are given (YtnamioihapnefaaGreatDoorTie.lean); close each card by the builder's one call (the guide's Derived/Test/ToyasCard.lean, 'card_holds'). Laid BY PROGRAM, IN A SANDBOX (cutbox-door.mjs). By AI agents, Wed Nov 11 2026. No macro, syntax, notation, axiom, sorry.
-/
import Derived.Test.YtnamioihapnefaaGreatDoorRows
import GoSem.ClaimSeven
namespace Go.Proofs.YtnamioihapnefaaGreatDoor
namespace Rows

/-- THE TIED CARD OF 'selvagelaw10.HunksValid'. -/
def hunksValidCard : Claim7 := { stood := { row := hunksValidRow, standIns := [], harness := (true, "fbf36168b270e0f1b59dc14277bbc9e696919892c6543df4d11de5842b5d0546"), looks := true }, kinds := [], alts := [], laidByText := true, laidKinds := [.data, .handle, .pinned], laidTests := true, laidLooks := .later }
def HunksValidCardSaid : Prop := Claim7.holds Tryz.pinned (.plain (OpenSpec.ofChange hunksValidSpec)) hunksValidCard

/-- THE TIED CARD OF 'selvagelaw10.HunksBuild'. -/
def hunksBuildCard : Claim7 := { stood := { row := hunksBuildRow, standIns := [], harness := (true, "fbf36168b270e0f1b59dc14277bbc9e696919892c6543df4d11de5842b5d0546"), looks := true }, kinds := [], alts := [], laidByText := true, laidKinds := [.data, .handle, .pinned], laidTests := true, laidLooks := .later }
def HunksBuildCardSaid : Prop := Claim7.holds Tryz.pinned (.plain (OpenSpec.ofChange hunksBuildSpec)) hunksBuildCard

/-- THE TIED CARD OF 'selvagelaw10.HunksScript'. -/
def hunksScriptCard : Claim7 := { stood := { row := hunksScriptRow, standIns := [], harness := (true, "fbf36168b270e0f1b59dc14277bbc9e696919892c6543df4d11de5842b5d0546"), looks := true }, kinds := [], alts := [], laidByText := true, laidKinds := [.data, .handle, .pinned], laidTests := true, laidLooks := .later }
def HunksScriptCardSaid : Prop := Claim7.holds Tryz.pinned (.plain (OpenSpec.ofChange hunksScriptSpec)) hunksScriptCard

/-- THE TIED CARD OF 'selvagelaw10.HunksAround'. -/
def hunksAroundCard : Claim7 := { stood := { row := hunksAroundRow, standIns := [], harness := (true, "fbf36168b270e0f1b59dc14277bbc9e696919892c6543df4d11de5842b5d0546"), looks := true }, kinds := [], alts := [], laidByText := true, laidKinds := [.data, .handle, .pinned], laidTests := true, laidLooks := .later }
def HunksAroundCardSaid : Prop := Claim7.holds Tryz.pinned (.plain (OpenSpec.ofChange hunksAroundSpec)) hunksAroundCard

/-- THE TIED CARD OF 'selvagelaw10.HunksTurned'. -/
def hunksTurnedCard : Claim7 := { stood := { row := hunksTurnedRow, standIns := [], harness := (true, "fbf36168b270e0f1b59dc14277bbc9e696919892c6543df4d11de5842b5d0546"), looks := true }, kinds := [], alts := [], laidByText := true, laidKinds := [.data, .handle, .pinned], laidTests := true, laidLooks := .later }
def HunksTurnedCardSaid : Prop := Claim7.holds Tryz.pinned (.plain (OpenSpec.ofChange hunksTurnedSpec)) hunksTurnedCard

/-- THE TIED CARD OF 'selvagelaw10.HunksNarrow'. -/
def hunksNarrowCard : Claim7 := { stood := { row := hunksNarrowRow, standIns := [], harness := (true, "fbf36168b270e0f1b59dc14277bbc9e696919892c6543df4d11de5842b5d0546"), looks := true }, kinds := [], alts := [], laidByText := true, laidKinds := [.data, .handle, .pinned], laidTests := true, laidLooks := .later }
def HunksNarrowCardSaid : Prop := Claim7.holds Tryz.pinned (.plain (OpenSpec.ofChange hunksNarrowSpec)) hunksNarrowCard

/-- THE SECOND FORM's CARD OF 'selvagelaw10.HunksValid'. -/
def hunksValidUptoCard : Claim7 := { stood := { row := hunksValidUptoRow, standIns := [], harness := (true, "fbf36168b270e0f1b59dc14277bbc9e696919892c6543df4d11de5842b5d0546"), looks := true }, kinds := [], alts := [], laidByText := true, laidKinds := [.data, .handle, .pinned], laidTests := true, laidLooks := .later }
def HunksValidUptoCardSaid : Prop := Claim7.holds Tryz.pinned (.plain (OpenSpec.upto hunksValidSpec)) hunksValidUptoCard

/-- THE SECOND FORM's CARD OF 'selvagelaw10.HunksBuild'. -/
def hunksBuildUptoCard : Claim7 := { stood := { row := hunksBuildUptoRow, standIns := [], harness := (true, "fbf36168b270e0f1b59dc14277bbc9e696919892c6543df4d11de5842b5d0546"), looks := true }, kinds := [], alts := [], laidByText := true, laidKinds := [.data, .handle, .pinned], laidTests := true, laidLooks := .later }
def HunksBuildUptoCardSaid : Prop := Claim7.holds Tryz.pinned (.plain (OpenSpec.upto hunksBuildSpec)) hunksBuildUptoCard

/-- THE SECOND FORM's CARD OF 'selvagelaw10.HunksScript'. -/
def hunksScriptUptoCard : Claim7 := { stood := { row := hunksScriptUptoRow, standIns := [], harness := (true, "fbf36168b270e0f1b59dc14277bbc9e696919892c6543df4d11de5842b5d0546"), looks := true }, kinds := [], alts := [], laidByText := true, laidKinds := [.data, .handle, .pinned], laidTests := true, laidLooks := .later }
def HunksScriptUptoCardSaid : Prop := Claim7.holds Tryz.pinned (.plain (OpenSpec.upto hunksScriptSpec)) hunksScriptUptoCard

/-- THE SECOND FORM's CARD OF 'selvagelaw10.HunksAround'. -/
def hunksAroundUptoCard : Claim7 := { stood := { row := hunksAroundUptoRow, standIns := [], harness := (true, "fbf36168b270e0f1b59dc14277bbc9e696919892c6543df4d11de5842b5d0546"), looks := true }, kinds := [], alts := [], laidByText := true, laidKinds := [.data, .handle, .pinned], laidTests := true, laidLooks := .later }
def HunksAroundUptoCardSaid : Prop := Claim7.holds Tryz.pinned (.plain (OpenSpec.upto hunksAroundSpec)) hunksAroundUptoCard

/-- THE SECOND FORM's CARD OF 'selvagelaw10.HunksTurned'. -/
def hunksTurnedUptoCard : Claim7 := { stood := { row := hunksTurnedUptoRow, standIns := [], harness := (true, "fbf36168b270e0f1b59dc14277bbc9e696919892c6543df4d11de5842b5d0546"), looks := true }, kinds := [], alts := [], laidByText := true, laidKinds := [.data, .handle, .pinned], laidTests := true, laidLooks := .later }
def HunksTurnedUptoCardSaid : Prop := Claim7.holds Tryz.pinned (.plain (OpenSpec.upto hunksTurnedSpec)) hunksTurnedUptoCard

/-- THE SECOND FORM's CARD OF 'selvagelaw10.HunksNarrow'. -/
def hunksNarrowUptoCard : Claim7 := { stood := { row := hunksNarrowUptoRow, standIns := [], harness := (true, "fbf36168b270e0f1b59dc14277bbc9e696919892c6543df4d11de5842b5d0546"), looks := true }, kinds := [], alts := [], laidByText := true, laidKinds := [.data, .handle, .pinned], laidTests := true, laidLooks := .later }
def HunksNarrowUptoCardSaid : Prop := Claim7.holds Tryz.pinned (.plain (OpenSpec.upto hunksNarrowSpec)) hunksNarrowUptoCard
end Rows
end Go.Proofs.YtnamioihapnefaaGreatDoor
