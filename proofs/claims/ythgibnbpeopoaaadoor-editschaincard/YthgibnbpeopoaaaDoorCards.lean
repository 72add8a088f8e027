/-
  DERIVED. GIVEN WITH THE SEED: THE CARDS: each row of YthgibnbpeopoaaaDoorRows.lean that lists a variable, with what it lists TIED to the program's text (the seventh form; the later family's looks); each row that meets fmt, with fmt's text TOLD by the authors' own Lean function (tested against real Go, not proved from fmt's source: count such statements apart). THE CARD IS WHAT COUNTS. Prove the row's statement (the work); the ties are given (YthgibnbpeopoaaaDoorTie.lean); close each card by the builder's one call (the guide's Derived/Test/ToyasCard.lean, 'card_holds'). Laid BY PROGRAM, IN A SANDBOX (cutbox-door.mjs). By AI agents, Wed Nov 11 2026. No macro, syntax, notation, axiom, sorry.
-/
import Derived.Test.YthgibnbpeopoaaaDoorRows
import GoSem.ClaimSeven
namespace Go.Proofs.YthgibnbpeopoaaaDoor
namespace Rows

/-- THE TIED CARD OF 'selvagelaw06.EditsApply'. -/
def editsApplyCard : Claim7 := { stood := { row := editsApplyRow, standIns := [], harness := (true, "eb99cd2562a16942d02b3bc6b6c8de611bafe61965756448665b75a63340b9fb"), looks := true }, kinds := [], alts := [], laidByText := true, laidKinds := [.handle], laidTests := true, laidLooks := .later }
def EditsApplyCardSaid : Prop := Claim7.holds Tryd.pinned (.plain (OpenSpec.ofChange editsApplySpec)) editsApplyCard

/-- THE TIED CARD OF 'selvagelaw06.EditsJoin'. -/
def editsJoinCard : Claim7 := { stood := { row := editsJoinRow, standIns := [], harness := (true, "eb99cd2562a16942d02b3bc6b6c8de611bafe61965756448665b75a63340b9fb"), looks := true }, kinds := [], alts := [], laidByText := true, laidKinds := [.handle], laidTests := true, laidLooks := .later }
def EditsJoinCardSaid : Prop := Claim7.holds Tryd.pinned (.plain (OpenSpec.ofChange editsJoinSpec)) editsJoinCard

/-- THE TIED CARD OF 'selvagelaw06.EditsChain'. -/
def editsChainCard : Claim7 := { stood := { row := editsChainRow, standIns := [], harness := (true, "eb99cd2562a16942d02b3bc6b6c8de611bafe61965756448665b75a63340b9fb"), looks := true }, kinds := [], alts := [], laidByText := true, laidKinds := [.handle], laidTests := true, laidLooks := .later }
def EditsChainCardSaid : Prop := Claim7.holds Tryd.pinned (.plain (OpenSpec.ofChange editsChainSpec)) editsChainCard

/-- THE TIED CARD OF 'selvagelaw06.EditsFits'. -/
def editsFitsCard : Claim7 := { stood := { row := editsFitsRow, standIns := [], harness := (true, "eb99cd2562a16942d02b3bc6b6c8de611bafe61965756448665b75a63340b9fb"), looks := true }, kinds := [], alts := [], laidByText := true, laidKinds := [.handle], laidTests := true, laidLooks := .later }
def EditsFitsCardSaid : Prop := Claim7.holds Tryd.pinned (.plain (OpenSpec.ofChange editsFitsSpec)) editsFitsCard

/-- THE TIED CARD OF 'selvagelaw06.EditsOwn'. -/
def editsOwnCard : Claim7 := { stood := { row := editsOwnRow, standIns := [], harness := (true, "eb99cd2562a16942d02b3bc6b6c8de611bafe61965756448665b75a63340b9fb"), looks := true }, kinds := [], alts := [], laidByText := true, laidKinds := [.handle], laidTests := true, laidLooks := .later }
def EditsOwnCardSaid : Prop := Claim7.holds Tryd.pinned (.plain (OpenSpec.ofChange editsOwnSpec)) editsOwnCard

/-- THE SECOND FORM's CARD OF 'selvagelaw06.EditsApply'. -/
def editsApplyUptoCard : Claim7 := { stood := { row := editsApplyUptoRow, standIns := [], harness := (true, "eb99cd2562a16942d02b3bc6b6c8de611bafe61965756448665b75a63340b9fb"), looks := true }, kinds := [], alts := [], laidByText := true, laidKinds := [.handle], laidTests := true, laidLooks := .later }
def EditsApplyUptoCardSaid : Prop := Claim7.holds Tryd.pinned (.plain (OpenSpec.upto editsApplySpec)) editsApplyUptoCard

/-- THE SECOND FORM's CARD OF 'selvagelaw06.EditsJoin'. -/
def editsJoinUptoCard : Claim7 := { stood := { row := editsJoinUptoRow, standIns := [], harness := (true, "eb99cd2562a16942d02b3bc6b6c8de611bafe61965756448665b75a63340b9fb"), looks := true }, kinds := [], alts := [], laidByText := true, laidKinds := [.handle], laidTests := true, laidLooks := .later }
def EditsJoinUptoCardSaid : Prop := Claim7.holds Tryd.pinned (.plain (OpenSpec.upto editsJoinSpec)) editsJoinUptoCard

/-- THE SECOND FORM's CARD OF 'selvagelaw06.EditsChain'. -/
def editsChainUptoCard : Claim7 := { stood := { row := editsChainUptoRow, standIns := [], harness := (true, "eb99cd2562a16942d02b3bc6b6c8de611bafe61965756448665b75a63340b9fb"), looks := true }, kinds := [], alts := [], laidByText := true, laidKinds := [.handle], laidTests := true, laidLooks := .later }
def EditsChainUptoCardSaid : Prop := Claim7.holds Tryd.pinned (.plain (OpenSpec.upto editsChainSpec)) editsChainUptoCard

/-- THE SECOND FORM's CARD OF 'selvagelaw06.EditsFits'. -/
def editsFitsUptoCard : Claim7 := { stood := { row := editsFitsUptoRow, standIns := [], harness := (true, "eb99cd2562a16942d02b3bc6b6c8de611bafe61965756448665b75a63340b9fb"), looks := true }, kinds := [], alts := [], laidByText := true, laidKinds := [.handle], laidTests := true, laidLooks := .later }
def EditsFitsUptoCardSaid : Prop := Claim7.holds Tryd.pinned (.plain (OpenSpec.upto editsFitsSpec)) editsFitsUptoCard

/-- THE SECOND FORM's CARD OF 'selvagelaw06.EditsOwn'. -/
def editsOwnUptoCard : Claim7 := { stood := { row := editsOwnUptoRow, standIns := [], harness := (true, "eb99cd2562a16942d02b3bc6b6c8de611bafe61965756448665b75a63340b9fb"), looks := true }, kinds := [], alts := [], laidByText := true, laidKinds := [.handle], laidTests := true, laidLooks := .later }
def EditsOwnUptoCardSaid : Prop := Claim7.holds Tryd.pinned (.plain (OpenSpec.upto editsOwnSpec)) editsOwnUptoCard
end Rows
end Go.Proofs.YthgibnbpeopoaaaDoor
