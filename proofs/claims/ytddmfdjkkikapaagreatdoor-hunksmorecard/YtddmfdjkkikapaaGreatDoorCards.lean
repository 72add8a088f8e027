/-
  DERIVED. GIVEN WITH THE SEED: THE CARDS: each row of YtddmfdjkkikapaaGreatDoorRows.lean that lists a variable, with what it lists TIED to the program's text (the seventh form; the later family's looks); each row that meets fmt, with fmt's text TOLD by the authors' own Lean function (tested against real Go, not proved from fmt's source: count such statements apart). THE CARD IS WHAT COUNTS. Prove the row's statement (the work); the ties are given (YtddmfdjkkikapaaGreatDoorTie.lean); close each card by the builder's one call (the guide's Derived/Test/ToyasCard.lean, 'card_holds'). Laid BY PROGRAM, IN A SANDBOX (cutbox-door.mjs). By AI agents, Wed Nov 11 2026. No macro, syntax, notation, axiom, sorry.
-/
import Derived.Test.YtddmfdjkkikapaaGreatDoorRows
import GoSem.ClaimSeven
namespace Go.Proofs.YtddmfdjkkikapaaGreatDoor
namespace Rows

/-- THE TIED CARD OF 'selvagelaw10.HunksLess'. -/
def hunksLessCard : Claim7 := { stood := { row := hunksLessRow, standIns := [], harness := (true, "3cdb857d5525ae292451ef2d9c3146264e692a20ef0243c8b1f2bdec40a243cf"), looks := true }, kinds := [], alts := [], laidByText := true, laidKinds := [.data, .handle, .pinned], laidTests := true, laidLooks := .later }
def HunksLessCardSaid : Prop := Claim7.holds Tryz.pinned (.plain (OpenSpec.ofChange hunksLessSpec)) hunksLessCard

/-- THE TIED CARD OF 'selvagelaw10.HunksWide'. -/
def hunksWideCard : Claim7 := { stood := { row := hunksWideRow, standIns := [], harness := (true, "3cdb857d5525ae292451ef2d9c3146264e692a20ef0243c8b1f2bdec40a243cf"), looks := true }, kinds := [], alts := [], laidByText := true, laidKinds := [.data, .handle, .pinned], laidTests := true, laidLooks := .later }
def HunksWideCardSaid : Prop := Claim7.holds Tryz.pinned (.plain (OpenSpec.ofChange hunksWideSpec)) hunksWideCard

/-- THE TIED CARD OF 'selvagelaw10.HunksMore'. -/
def hunksMoreCard : Claim7 := { stood := { row := hunksMoreRow, standIns := [], harness := (true, "3cdb857d5525ae292451ef2d9c3146264e692a20ef0243c8b1f2bdec40a243cf"), looks := true }, kinds := [], alts := [], laidByText := true, laidKinds := [.data, .handle, .pinned], laidTests := true, laidLooks := .later }
def HunksMoreCardSaid : Prop := Claim7.holds Tryz.pinned (.plain (OpenSpec.ofChange hunksMoreSpec)) hunksMoreCard

/-- THE TIED CARD OF 'selvagelaw10.HunksOwn'. -/
def hunksOwnCard : Claim7 := { stood := { row := hunksOwnRow, standIns := [], harness := (true, "3cdb857d5525ae292451ef2d9c3146264e692a20ef0243c8b1f2bdec40a243cf"), looks := true }, kinds := [], alts := [], laidByText := true, laidKinds := [.data, .handle, .pinned], laidTests := true, laidLooks := .later }
def HunksOwnCardSaid : Prop := Claim7.holds Tryz.pinned (.plain (OpenSpec.ofChange hunksOwnSpec)) hunksOwnCard

/-- THE SECOND FORM's CARD OF 'selvagelaw10.HunksLess'. -/
def hunksLessUptoCard : Claim7 := { stood := { row := hunksLessUptoRow, standIns := [], harness := (true, "3cdb857d5525ae292451ef2d9c3146264e692a20ef0243c8b1f2bdec40a243cf"), looks := true }, kinds := [], alts := [], laidByText := true, laidKinds := [.data, .handle, .pinned], laidTests := true, laidLooks := .later }
def HunksLessUptoCardSaid : Prop := Claim7.holds Tryz.pinned (.plain (OpenSpec.upto hunksLessSpec)) hunksLessUptoCard

/-- THE SECOND FORM's CARD OF 'selvagelaw10.HunksWide'. -/
def hunksWideUptoCard : Claim7 := { stood := { row := hunksWideUptoRow, standIns := [], harness := (true, "3cdb857d5525ae292451ef2d9c3146264e692a20ef0243c8b1f2bdec40a243cf"), looks := true }, kinds := [], alts := [], laidByText := true, laidKinds := [.data, .handle, .pinned], laidTests := true, laidLooks := .later }
def HunksWideUptoCardSaid : Prop := Claim7.holds Tryz.pinned (.plain (OpenSpec.upto hunksWideSpec)) hunksWideUptoCard

/-- THE SECOND FORM's CARD OF 'selvagelaw10.HunksMore'. -/
def hunksMoreUptoCard : Claim7 := { stood := { row := hunksMoreUptoRow, standIns := [], harness := (true, "3cdb857d5525ae292451ef2d9c3146264e692a20ef0243c8b1f2bdec40a243cf"), looks := true }, kinds := [], alts := [], laidByText := true, laidKinds := [.data, .handle, .pinned], laidTests := true, laidLooks := .later }
def HunksMoreUptoCardSaid : Prop := Claim7.holds Tryz.pinned (.plain (OpenSpec.upto hunksMoreSpec)) hunksMoreUptoCard

/-- THE SECOND FORM's CARD OF 'selvagelaw10.HunksOwn'. -/
def hunksOwnUptoCard : Claim7 := { stood := { row := hunksOwnUptoRow, standIns := [], harness := (true, "3cdb857d5525ae292451ef2d9c3146264e692a20ef0243c8b1f2bdec40a243cf"), looks := true }, kinds := [], alts := [], laidByText := true, laidKinds := [.data, .handle, .pinned], laidTests := true, laidLooks := .later }
def HunksOwnUptoCardSaid : Prop := Claim7.holds Tryz.pinned (.plain (OpenSpec.upto hunksOwnSpec)) hunksOwnUptoCard
end Rows
end Go.Proofs.YtddmfdjkkikapaaGreatDoor
