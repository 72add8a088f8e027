/-
  DERIVED. GIVEN WITH THE SEED: THE CARDS: each row of YtialioefecpbpaaDoorRows.lean that lists a variable, with what it lists TIED to the program's text (the seventh form; the later family's looks); each row that meets fmt, with fmt's text TOLD by the authors' own Lean function (tested against real Go, not proved from fmt's source: count such statements apart). THE CARD IS WHAT COUNTS. Prove the row's statement (the work); the ties are given (YtialioefecpbpaaDoorTie.lean); close each card by the builder's one call (the guide's Derived/Test/ToyasCard.lean, 'card_holds'). Laid BY PROGRAM, IN A SANDBOX (cutbox-door.mjs). By AI agents, Wed Nov 11 2026. No macro, syntax, notation, axiom, sorry.
-/
import Derived.Test.YtialioefecpbpaaDoorRows
import GoSem.ClaimSeven
namespace Go.Proofs.YtialioefecpbpaaDoor
namespace Rows

/-- THE TIED CARD OF 'selvagelaw04.GlobMeans'. -/
def globMeansCard : Claim7 := { stood := { row := globMeansRow, standIns := [], harness := (true, "fe1dbaa2d27ceb5aa4b90072bb107d16a913ef007427d47310674a7a9c74d860"), looks := true }, kinds := [], alts := [], laidByText := true, laidKinds := [.handle], laidTests := true, laidLooks := .later }
def GlobMeansCardSaid : Prop := Claim7.holds Tryd.pinned (.plain (OpenSpec.ofChange globMeansSpec)) globMeansCard

/-- THE TIED CARD OF 'selvagelaw04.GlobBytes'. -/
def globBytesCard : Claim7 := { stood := { row := globBytesRow, standIns := [], harness := (true, "fe1dbaa2d27ceb5aa4b90072bb107d16a913ef007427d47310674a7a9c74d860"), looks := true }, kinds := [], alts := [], laidByText := true, laidKinds := [.handle], laidTests := true, laidLooks := .later }
def GlobBytesCardSaid : Prop := Claim7.holds Tryd.pinned (.plain (OpenSpec.ofChange globBytesSpec)) globBytesCard

/-- THE TIED CARD OF 'selvagelaw04.GlobAny'. -/
def globAnyCard : Claim7 := { stood := { row := globAnyRow, standIns := [], harness := (true, "fe1dbaa2d27ceb5aa4b90072bb107d16a913ef007427d47310674a7a9c74d860"), looks := true }, kinds := [], alts := [], laidByText := true, laidKinds := [.handle], laidTests := true, laidLooks := .later }
def GlobAnyCardSaid : Prop := Claim7.holds Tryd.pinned (.plain (OpenSpec.ofChange globAnySpec)) globAnyCard

/-- THE TIED CARD OF 'selvagelaw04.GlobEscapes'. -/
def globEscapesCard : Claim7 := { stood := { row := globEscapesRow, standIns := [], harness := (true, "fe1dbaa2d27ceb5aa4b90072bb107d16a913ef007427d47310674a7a9c74d860"), looks := true }, kinds := [], alts := [], laidByText := true, laidKinds := [.handle], laidTests := true, laidLooks := .later }
def GlobEscapesCardSaid : Prop := Claim7.holds Tryd.pinned (.plain (OpenSpec.ofChange globEscapesSpec)) globEscapesCard

/-- THE TIED CARD OF 'selvagelaw04.GlobJoins'. -/
def globJoinsCard : Claim7 := { stood := { row := globJoinsRow, standIns := [], harness := (true, "fe1dbaa2d27ceb5aa4b90072bb107d16a913ef007427d47310674a7a9c74d860"), looks := true }, kinds := [], alts := [], laidByText := true, laidKinds := [.handle], laidTests := true, laidLooks := .later }
def GlobJoinsCardSaid : Prop := Claim7.holds Tryd.pinned (.plain (OpenSpec.ofChange globJoinsSpec)) globJoinsCard

/-- THE TIED CARD OF 'selvagelaw04.GlobEither'. -/
def globEitherCard : Claim7 := { stood := { row := globEitherRow, standIns := [], harness := (true, "fe1dbaa2d27ceb5aa4b90072bb107d16a913ef007427d47310674a7a9c74d860"), looks := true }, kinds := [], alts := [], laidByText := true, laidKinds := [.handle], laidTests := true, laidLooks := .later }
def GlobEitherCardSaid : Prop := Claim7.holds Tryd.pinned (.plain (OpenSpec.ofChange globEitherSpec)) globEitherCard

/-- THE SECOND FORM's CARD OF 'selvagelaw04.GlobMeans'. -/
def globMeansUptoCard : Claim7 := { stood := { row := globMeansUptoRow, standIns := [], harness := (true, "fe1dbaa2d27ceb5aa4b90072bb107d16a913ef007427d47310674a7a9c74d860"), looks := true }, kinds := [], alts := [], laidByText := true, laidKinds := [.handle], laidTests := true, laidLooks := .later }
def GlobMeansUptoCardSaid : Prop := Claim7.holds Tryd.pinned (.plain (OpenSpec.upto globMeansSpec)) globMeansUptoCard

/-- THE SECOND FORM's CARD OF 'selvagelaw04.GlobBytes'. -/
def globBytesUptoCard : Claim7 := { stood := { row := globBytesUptoRow, standIns := [], harness := (true, "fe1dbaa2d27ceb5aa4b90072bb107d16a913ef007427d47310674a7a9c74d860"), looks := true }, kinds := [], alts := [], laidByText := true, laidKinds := [.handle], laidTests := true, laidLooks := .later }
def GlobBytesUptoCardSaid : Prop := Claim7.holds Tryd.pinned (.plain (OpenSpec.upto globBytesSpec)) globBytesUptoCard

/-- THE SECOND FORM's CARD OF 'selvagelaw04.GlobAny'. -/
def globAnyUptoCard : Claim7 := { stood := { row := globAnyUptoRow, standIns := [], harness := (true, "fe1dbaa2d27ceb5aa4b90072bb107d16a913ef007427d47310674a7a9c74d860"), looks := true }, kinds := [], alts := [], laidByText := true, laidKinds := [.handle], laidTests := true, laidLooks := .later }
def GlobAnyUptoCardSaid : Prop := Claim7.holds Tryd.pinned (.plain (OpenSpec.upto globAnySpec)) globAnyUptoCard

/-- THE SECOND FORM's CARD OF 'selvagelaw04.GlobEscapes'. -/
def globEscapesUptoCard : Claim7 := { stood := { row := globEscapesUptoRow, standIns := [], harness := (true, "fe1dbaa2d27ceb5aa4b90072bb107d16a913ef007427d47310674a7a9c74d860"), looks := true }, kinds := [], alts := [], laidByText := true, laidKinds := [.handle], laidTests := true, laidLooks := .later }
def GlobEscapesUptoCardSaid : Prop := Claim7.holds Tryd.pinned (.plain (OpenSpec.upto globEscapesSpec)) globEscapesUptoCard

/-- THE SECOND FORM's CARD OF 'selvagelaw04.GlobJoins'. -/
def globJoinsUptoCard : Claim7 := { stood := { row := globJoinsUptoRow, standIns := [], harness := (true, "fe1dbaa2d27ceb5aa4b90072bb107d16a913ef007427d47310674a7a9c74d860"), looks := true }, kinds := [], alts := [], laidByText := true, laidKinds := [.handle], laidTests := true, laidLooks := .later }
def GlobJoinsUptoCardSaid : Prop := Claim7.holds Tryd.pinned (.plain (OpenSpec.upto globJoinsSpec)) globJoinsUptoCard

/-- THE SECOND FORM's CARD OF 'selvagelaw04.GlobEither'. -/
def globEitherUptoCard : Claim7 := { stood := { row := globEitherUptoRow, standIns := [], harness := (true, "fe1dbaa2d27ceb5aa4b90072bb107d16a913ef007427d47310674a7a9c74d860"), looks := true }, kinds := [], alts := [], laidByText := true, laidKinds := [.handle], laidTests := true, laidLooks := .later }
def GlobEitherUptoCardSaid : Prop := Claim7.holds Tryd.pinned (.plain (OpenSpec.upto globEitherSpec)) globEitherUptoCard
end Rows
end Go.Proofs.YtialioefecpbpaaDoor
