/-
  DERIVED. GIVEN WITH THE SEED: THE CARDS: each row of YtmomeemkdfoklaaDoorRows.lean that lists a variable, with what it lists TIED to the program's text (the seventh form; the later family's looks); each row that meets fmt, with fmt's text TOLD by the authors' own Lean function (tested against real Go, not proved from fmt's source: count such statements apart). THE CARD IS WHAT COUNTS. Prove the row's statement (the work); the ties are given (YtmomeemkdfoklaaDoorTie.lean); close each card by the builder's one call (the guide's Derived/Test/ToyasCard.lean, 'card_holds'). Laid BY PROGRAM, IN A SANDBOX (cutbox-door.mjs). By AI agents, Wed Nov 11 2026. No macro, syntax, notation, axiom, sorry.
-/
import Derived.Test.YtmomeemkdfoklaaDoorRows
import GoSem.ClaimSeven
namespace Go.Proofs.YtmomeemkdfoklaaDoor
namespace Rows

/-- THE TIED CARD OF 'selvagelaw09.SlideKeeps'. -/
def slideKeepsCard : Claim7 := { stood := { row := slideKeepsRow, standIns := [], harness := (true, "f4dcc839c6cefc714aab76327be5845e209fda628774f4017283e8ee2205e921"), looks := true }, kinds := [], alts := [], laidByText := true, laidKinds := [.handle], laidTests := true, laidLooks := .later }
def SlideKeepsCardSaid : Prop := Claim7.holds Tryd.pinned (.plain (OpenSpec.ofChange slideKeepsSpec)) slideKeepsCard

/-- THE TIED CARD OF 'selvagelaw09.SlideBlanks'. -/
def slideBlanksCard : Claim7 := { stood := { row := slideBlanksRow, standIns := [], harness := (true, "f4dcc839c6cefc714aab76327be5845e209fda628774f4017283e8ee2205e921"), looks := true }, kinds := [], alts := [], laidByText := true, laidKinds := [.handle], laidTests := true, laidLooks := .later }
def SlideBlanksCardSaid : Prop := Claim7.holds Tryd.pinned (.plain (OpenSpec.ofChange slideBlanksSpec)) slideBlanksCard

/-- THE TIED CARD OF 'selvagelaw09.SlideOwn'. -/
def slideOwnCard : Claim7 := { stood := { row := slideOwnRow, standIns := [], harness := (true, "f4dcc839c6cefc714aab76327be5845e209fda628774f4017283e8ee2205e921"), looks := true }, kinds := [], alts := [], laidByText := true, laidKinds := [.handle], laidTests := true, laidLooks := .later }
def SlideOwnCardSaid : Prop := Claim7.holds Tryd.pinned (.plain (OpenSpec.ofChange slideOwnSpec)) slideOwnCard

/-- THE SECOND FORM's CARD OF 'selvagelaw09.SlideKeeps'. -/
def slideKeepsUptoCard : Claim7 := { stood := { row := slideKeepsUptoRow, standIns := [], harness := (true, "f4dcc839c6cefc714aab76327be5845e209fda628774f4017283e8ee2205e921"), looks := true }, kinds := [], alts := [], laidByText := true, laidKinds := [.handle], laidTests := true, laidLooks := .later }
def SlideKeepsUptoCardSaid : Prop := Claim7.holds Tryd.pinned (.plain (OpenSpec.upto slideKeepsSpec)) slideKeepsUptoCard

/-- THE SECOND FORM's CARD OF 'selvagelaw09.SlideBlanks'. -/
def slideBlanksUptoCard : Claim7 := { stood := { row := slideBlanksUptoRow, standIns := [], harness := (true, "f4dcc839c6cefc714aab76327be5845e209fda628774f4017283e8ee2205e921"), looks := true }, kinds := [], alts := [], laidByText := true, laidKinds := [.handle], laidTests := true, laidLooks := .later }
def SlideBlanksUptoCardSaid : Prop := Claim7.holds Tryd.pinned (.plain (OpenSpec.upto slideBlanksSpec)) slideBlanksUptoCard

/-- THE SECOND FORM's CARD OF 'selvagelaw09.SlideOwn'. -/
def slideOwnUptoCard : Claim7 := { stood := { row := slideOwnUptoRow, standIns := [], harness := (true, "f4dcc839c6cefc714aab76327be5845e209fda628774f4017283e8ee2205e921"), looks := true }, kinds := [], alts := [], laidByText := true, laidKinds := [.handle], laidTests := true, laidLooks := .later }
def SlideOwnUptoCardSaid : Prop := Claim7.holds Tryd.pinned (.plain (OpenSpec.upto slideOwnSpec)) slideOwnUptoCard
end Rows
end Go.Proofs.YtmomeemkdfoklaaDoor
