/-
  NARROWER THAN 'FOR EVERY INPUT', by the rows' own cells (each row's printed sentence says how): SlideKeeps: laid · SlideBlanks: laid · SlideOwn: laid.
  DERIVED. THE GIVEN ROWS OF THIS SEAT. 3 by the template 'for every input the law returns true; each argument reads behind the call as it read before'; 0 by the template 'total and deterministic' (their statements: YtmomeemkdfoklaaDoorTotals.lean).
  GIVEN WITH THE SEED: the statements are not yours to turn. If you find one false, say at which input.
  Laid BY PROGRAM, IN A SANDBOX (cutbox-rows.mjs): the forced cells as the released guide's own fill.sh prints them over the translation 26c0afab6ef77480… (all of the seat's roots in one cut). By AI agents, Wed Nov 11 2026. No macro, syntax, notation, axiom, sorry.
-/
import Derived.Test.YtmomeemkdfoklaaDoorChecked
import GoSem.Claim
import GoSem.ClaimJoined
import GoSem.ClaimMapViews
import Derived.JoinedTies
import Derived.KernelRfl
namespace Go.Proofs.YtmomeemkdfoklaaDoor
/- THE CELL 'sum', in the pinned program and in every row, IS THE sha256 OF THE DUMP (.gsa) THAT YtmomeemkdfoklaaDoorProg.lean LOADS. Nothing in Lean hashes anything: it is a label: what it is worth is what the hold of that sum in a sandbox is worth. -/
noncomputable def Tryd.pinned : Pinned := { name := "ytmomeemkdfoklaadoor", sum := "26c0afab6ef77480b45dd529b19631d059d2a0ad6a7b735ecd9a11718cf79d3e", checked := Tryd.checked }
namespace Rows
def none {H : Type} : Left H := { results := [], args := [] }

/- WHAT THE LISTED PACKAGE-LEVEL VARIABLES READ AS WHEN THE CALL BEGINS. Each datum BY PROGRAM (the guide's laid-datum.mjs) off the statement by which the dump's own 'gosem.cut.vars' lays the variable. In a bare row this is a premise. The card (YtmomeemkdfoklaaDoorCards.lean) ties it to the program's text. -/
def laid_errors_errorType {H : Type} : DataW H := .iface "internal/reflectlite.rtype" (.agg [.ptr (.lit (.string [101, 114, 114, 111, 114]))])

/-- 'selvagelaw09.SlideKeeps': WHATEVER THE INPUT: true; the input reads as it did. -/
def slideKeepsSpec : ChangeSpec := { name := "slideKeeps", fn := fun _ => fun
  | [d1, d2, d3] => { results := [.lit (.bool true)], args := [d1, d2, d3] }
  | _ => none }
def slideKeepsRow : OpenClaim := { program := "ytmomeemkdfoklaadoor", sum := "26c0afab6ef77480b45dd529b19631d059d2a0ad6a7b735ecd9a11718cf79d3e", func := "selvage/selvagelaw09.SlideKeeps", spec := "slideKeeps", inPlace := ["internal/reflectlite.ValueOf", "(internal/reflectlite.Value).Type", "(internal/reflectlite.Value).IsNil", "internal/reflectlite.TypeOf", "(internal/reflectlite.Value).Elem", "(internal/reflectlite.Value).Set"], unfollowed := true, recurses := true, named := ["errors.errorType"], apart := false, laid := [("errors.errorType", laid_errors_errorType)] }
def SlideKeepsSaid : Prop := slideKeepsRow.holds Tryd.pinned (OpenSpec.ofChange slideKeepsSpec)

/-- ITS FALSE NEIGHBOUR: 'it returns false'. Refute it at one input. -/
def slideKeepsWrong : ChangeSpec := { name := "slideKeeps", fn := fun _ => fun
  | [d1, d2, d3] => { results := [.lit (.bool false)], args := [d1, d2, d3] }
  | _ => none }
def SlideKeepsWrongFalsely : Prop := slideKeepsRow.holds Tryd.pinned (OpenSpec.ofChange slideKeepsWrong)

/-- 'selvagelaw09.SlideBlanks': WHATEVER THE INPUT: true; the input reads as it did. -/
def slideBlanksSpec : ChangeSpec := { name := "slideBlanks", fn := fun _ => fun
  | [d1, d2, d3] => { results := [.lit (.bool true)], args := [d1, d2, d3] }
  | _ => none }
def slideBlanksRow : OpenClaim := { program := "ytmomeemkdfoklaadoor", sum := "26c0afab6ef77480b45dd529b19631d059d2a0ad6a7b735ecd9a11718cf79d3e", func := "selvage/selvagelaw09.SlideBlanks", spec := "slideBlanks", inPlace := ["internal/reflectlite.ValueOf", "(internal/reflectlite.Value).Type", "(internal/reflectlite.Value).IsNil", "internal/reflectlite.TypeOf", "(internal/reflectlite.Value).Elem", "(internal/reflectlite.Value).Set"], unfollowed := true, recurses := true, named := ["errors.errorType"], apart := false, laid := [("errors.errorType", laid_errors_errorType)] }
def SlideBlanksSaid : Prop := slideBlanksRow.holds Tryd.pinned (OpenSpec.ofChange slideBlanksSpec)

/-- ITS FALSE NEIGHBOUR: 'it returns false'. Refute it at one input. -/
def slideBlanksWrong : ChangeSpec := { name := "slideBlanks", fn := fun _ => fun
  | [d1, d2, d3] => { results := [.lit (.bool false)], args := [d1, d2, d3] }
  | _ => none }
def SlideBlanksWrongFalsely : Prop := slideBlanksRow.holds Tryd.pinned (OpenSpec.ofChange slideBlanksWrong)

/-- 'selvagelaw09.SlideOwn': WHATEVER THE INPUT: true; the input reads as it did. -/
def slideOwnSpec : ChangeSpec := { name := "slideOwn", fn := fun _ => fun
  | [d1, d2, d3] => { results := [.lit (.bool true)], args := [d1, d2, d3] }
  | _ => none }
def slideOwnRow : OpenClaim := { program := "ytmomeemkdfoklaadoor", sum := "26c0afab6ef77480b45dd529b19631d059d2a0ad6a7b735ecd9a11718cf79d3e", func := "selvage/selvagelaw09.SlideOwn", spec := "slideOwn", inPlace := ["internal/reflectlite.ValueOf", "(internal/reflectlite.Value).Type", "(internal/reflectlite.Value).IsNil", "internal/reflectlite.TypeOf", "(internal/reflectlite.Value).Elem", "(internal/reflectlite.Value).Set"], unfollowed := true, recurses := true, named := ["errors.errorType"], apart := false, laid := [("errors.errorType", laid_errors_errorType)] }
def SlideOwnSaid : Prop := slideOwnRow.holds Tryd.pinned (OpenSpec.ofChange slideOwnSpec)

/-- ITS FALSE NEIGHBOUR: 'it returns false'. Refute it at one input. -/
def slideOwnWrong : ChangeSpec := { name := "slideOwn", fn := fun _ => fun
  | [d1, d2, d3] => { results := [.lit (.bool false)], args := [d1, d2, d3] }
  | _ => none }
def SlideOwnWrongFalsely : Prop := slideOwnRow.holds Tryd.pinned (OpenSpec.ofChange slideOwnWrong)

/- THE SECOND FORM. 'bulk': how many values and letters a reading holds, each counted each time it is reached (what is shared counts as often as it is met; a slice's spare places count too). A statement '..UptoSaid' is the law's where the arguments, and the package variables that the reading takes, are together of bulk at most 1048576: NARROWER than '..Said'. Prove '..Said' where nothing that the law and all that it calls make is longer than what came in: it says more and counts as full. Else prove '..UptoSaid'. A law counts once. -/
mutual
def uptoBulk {H : Type} : DataW H → Nat
  | .lit (.string bytes) => bytes.length + 1
  | .lit _ => 1
  | .nil => 1
  | .ptr d => uptoBulk d + 1
  | .slice elems spare => uptoBulkAll elems + uptoBulkAll spare + 1
  | .agg parts => uptoBulkAll parts + 1
  | .iface _ d => uptoBulk d + 1
  | .map entries => uptoBulkEntries entries + 1
  | .held _ => 1
def uptoBulkAll {H : Type} : List (DataW H) → Nat
  | [] => 0
  | d :: r => uptoBulk d + uptoBulkAll r
def uptoBulkEntries {H : Type} : List (Lit × DataW H) → Nat
  | [] => 0
  | x :: r => uptoBulkEntry x + uptoBulkEntries r
def uptoBulkEntry {H : Type} : Lit × DataW H → Nat
  | (.string bytes, d) => bytes.length + uptoBulk d + 1
  | (_, d) => uptoBulk d + 1
 end
def uptoSmall : (H : Type) → List (DataW H) → Bool := fun _ ds => decide (uptoBulkAll ds ≤ 1048576)
def OpenSpec.upto (s : _root_.Go.ChangeSpec) : _root_.Go.OpenSpec := { _root_.Go.OpenSpec.ofChange s with cond := some uptoSmall }

/-- 'selvagelaw09.SlideKeeps', WHERE WHAT IT READS IS OF BULK AT MOST 1048576: true; the input reads as it did. -/
def slideKeepsUptoRow : OpenClaim := { program := "ytmomeemkdfoklaadoor", sum := "26c0afab6ef77480b45dd529b19631d059d2a0ad6a7b735ecd9a11718cf79d3e", func := "selvage/selvagelaw09.SlideKeeps", spec := "slideKeeps", inPlace := ["internal/reflectlite.ValueOf", "(internal/reflectlite.Value).Type", "(internal/reflectlite.Value).IsNil", "internal/reflectlite.TypeOf", "(internal/reflectlite.Value).Elem", "(internal/reflectlite.Value).Set"], unfollowed := true, recurses := true, named := ["errors.errorType"], apart := false, laid := [("errors.errorType", laid_errors_errorType)], narrowed := true }
def SlideKeepsUptoSaid : Prop := slideKeepsUptoRow.holds Tryd.pinned (OpenSpec.upto slideKeepsSpec)

/-- 'selvagelaw09.SlideBlanks', WHERE WHAT IT READS IS OF BULK AT MOST 1048576: true; the input reads as it did. -/
def slideBlanksUptoRow : OpenClaim := { program := "ytmomeemkdfoklaadoor", sum := "26c0afab6ef77480b45dd529b19631d059d2a0ad6a7b735ecd9a11718cf79d3e", func := "selvage/selvagelaw09.SlideBlanks", spec := "slideBlanks", inPlace := ["internal/reflectlite.ValueOf", "(internal/reflectlite.Value).Type", "(internal/reflectlite.Value).IsNil", "internal/reflectlite.TypeOf", "(internal/reflectlite.Value).Elem", "(internal/reflectlite.Value).Set"], unfollowed := true, recurses := true, named := ["errors.errorType"], apart := false, laid := [("errors.errorType", laid_errors_errorType)], narrowed := true }
def SlideBlanksUptoSaid : Prop := slideBlanksUptoRow.holds Tryd.pinned (OpenSpec.upto slideBlanksSpec)

/-- 'selvagelaw09.SlideOwn', WHERE WHAT IT READS IS OF BULK AT MOST 1048576: true; the input reads as it did. -/
def slideOwnUptoRow : OpenClaim := { program := "ytmomeemkdfoklaadoor", sum := "26c0afab6ef77480b45dd529b19631d059d2a0ad6a7b735ecd9a11718cf79d3e", func := "selvage/selvagelaw09.SlideOwn", spec := "slideOwn", inPlace := ["internal/reflectlite.ValueOf", "(internal/reflectlite.Value).Type", "(internal/reflectlite.Value).IsNil", "internal/reflectlite.TypeOf", "(internal/reflectlite.Value).Elem", "(internal/reflectlite.Value).Set"], unfollowed := true, recurses := true, named := ["errors.errorType"], apart := false, laid := [("errors.errorType", laid_errors_errorType)], narrowed := true }
def SlideOwnUptoSaid : Prop := slideOwnUptoRow.holds Tryd.pinned (OpenSpec.upto slideOwnSpec)

end Rows
end Go.Proofs.YtmomeemkdfoklaaDoor
