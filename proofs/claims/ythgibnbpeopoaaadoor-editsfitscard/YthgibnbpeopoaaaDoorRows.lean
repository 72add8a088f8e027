/-
  NARROWER THAN 'FOR EVERY INPUT', by the rows' own cells (each row's printed sentence says how): EditsApply: laid · EditsJoin: laid · EditsChain: laid · EditsFits: laid · EditsOwn: laid.
  DERIVED. THE GIVEN ROWS OF THIS SEAT. 5 by the template 'for every input the law returns true; each argument reads behind the call as it read before'; 0 by the template 'total and deterministic' (their statements: YthgibnbpeopoaaaDoorTotals.lean).
  GIVEN WITH THE SEED: the statements are not yours to turn. If you find one false, say at which input.
  Laid BY PROGRAM, IN A SANDBOX (cutbox-rows.mjs): the forced cells as the released guide's own fill.sh prints them over the translation 7d310db7cb67c973… (all of the seat's roots in one cut). By AI agents, Wed Nov 11 2026. No macro, syntax, notation, axiom, sorry.
-/
import Derived.Test.YthgibnbpeopoaaaDoorChecked
import GoSem.Claim
import GoSem.ClaimJoined
import GoSem.ClaimMapViews
import Derived.JoinedTies
import Derived.KernelRfl
namespace Go.Proofs.YthgibnbpeopoaaaDoor
/- THE CELL 'sum', in the pinned program and in every row, IS THE sha256 OF THE DUMP (.gsa) THAT YthgibnbpeopoaaaDoorProg.lean LOADS. Nothing in Lean hashes anything: it is a label: what it is worth is what the hold of that sum in a sandbox is worth. -/
noncomputable def Tryd.pinned : Pinned := { name := "ythgibnbpeopoaaadoor", sum := "7d310db7cb67c9739987decb4e870a813ecf3f868337f7a1426193b9c4ef58e0", checked := Tryd.checked }
namespace Rows
def none {H : Type} : Left H := { results := [], args := [] }

/- WHAT THE LISTED PACKAGE-LEVEL VARIABLES READ AS WHEN THE CALL BEGINS. Each datum BY PROGRAM (the guide's laid-datum.mjs) off the statement by which the dump's own 'gosem.cut.vars' lays the variable. In a bare row this is a premise. The card (YthgibnbpeopoaaaDoorCards.lean) ties it to the program's text. -/
def laid_errors_errorType {H : Type} : DataW H := .iface "internal/reflectlite.rtype" (.agg [.ptr (.lit (.string [101, 114, 114, 111, 114]))])

/-- 'selvagelaw06.EditsApply': WHATEVER THE INPUT: true; the input reads as it did. -/
def editsApplySpec : ChangeSpec := { name := "editsApply", fn := fun _ => fun
  | [d1, d2, d3] => { results := [.lit (.bool true)], args := [d1, d2, d3] }
  | _ => none }
def editsApplyRow : OpenClaim := { program := "ythgibnbpeopoaaadoor", sum := "7d310db7cb67c9739987decb4e870a813ecf3f868337f7a1426193b9c4ef58e0", func := "selvage/selvagelaw06.EditsApply", spec := "editsApply", inPlace := ["internal/reflectlite.ValueOf", "(internal/reflectlite.Value).Type", "(internal/reflectlite.Value).IsNil", "internal/reflectlite.TypeOf", "(internal/reflectlite.Value).Elem", "(internal/reflectlite.Value).Set"], unfollowed := true, recurses := true, named := ["errors.errorType"], apart := false, laid := [("errors.errorType", laid_errors_errorType)] }
def EditsApplySaid : Prop := editsApplyRow.holds Tryd.pinned (OpenSpec.ofChange editsApplySpec)

/-- ITS FALSE NEIGHBOUR: 'it returns false'. Refute it at one input. -/
def editsApplyWrong : ChangeSpec := { name := "editsApply", fn := fun _ => fun
  | [d1, d2, d3] => { results := [.lit (.bool false)], args := [d1, d2, d3] }
  | _ => none }
def EditsApplyWrongFalsely : Prop := editsApplyRow.holds Tryd.pinned (OpenSpec.ofChange editsApplyWrong)

/-- 'selvagelaw06.EditsJoin': WHATEVER THE INPUT: true; the input reads as it did. -/
def editsJoinSpec : ChangeSpec := { name := "editsJoin", fn := fun _ => fun
  | [d] => { results := [.lit (.bool true)], args := [d] }
  | _ => none }
def editsJoinRow : OpenClaim := { program := "ythgibnbpeopoaaadoor", sum := "7d310db7cb67c9739987decb4e870a813ecf3f868337f7a1426193b9c4ef58e0", func := "selvage/selvagelaw06.EditsJoin", spec := "editsJoin", inPlace := ["internal/reflectlite.ValueOf", "(internal/reflectlite.Value).Type", "(internal/reflectlite.Value).IsNil", "internal/reflectlite.TypeOf", "(internal/reflectlite.Value).Elem", "(internal/reflectlite.Value).Set"], unfollowed := true, recurses := true, named := ["errors.errorType"], apart := false, laid := [("errors.errorType", laid_errors_errorType)] }
def EditsJoinSaid : Prop := editsJoinRow.holds Tryd.pinned (OpenSpec.ofChange editsJoinSpec)

/-- ITS FALSE NEIGHBOUR: 'it returns false'. Refute it at one input. -/
def editsJoinWrong : ChangeSpec := { name := "editsJoin", fn := fun _ => fun
  | [d] => { results := [.lit (.bool false)], args := [d] }
  | _ => none }
def EditsJoinWrongFalsely : Prop := editsJoinRow.holds Tryd.pinned (OpenSpec.ofChange editsJoinWrong)

/-- 'selvagelaw06.EditsChain': WHATEVER THE INPUT: true; the input reads as it did. -/
def editsChainSpec : ChangeSpec := { name := "editsChain", fn := fun _ => fun
  | [d] => { results := [.lit (.bool true)], args := [d] }
  | _ => none }
def editsChainRow : OpenClaim := { program := "ythgibnbpeopoaaadoor", sum := "7d310db7cb67c9739987decb4e870a813ecf3f868337f7a1426193b9c4ef58e0", func := "selvage/selvagelaw06.EditsChain", spec := "editsChain", inPlace := ["internal/reflectlite.ValueOf", "(internal/reflectlite.Value).Type", "(internal/reflectlite.Value).IsNil", "internal/reflectlite.TypeOf", "(internal/reflectlite.Value).Elem", "(internal/reflectlite.Value).Set"], unfollowed := true, recurses := true, named := ["errors.errorType"], apart := false, laid := [("errors.errorType", laid_errors_errorType)] }
def EditsChainSaid : Prop := editsChainRow.holds Tryd.pinned (OpenSpec.ofChange editsChainSpec)

/-- ITS FALSE NEIGHBOUR: 'it returns false'. Refute it at one input. -/
def editsChainWrong : ChangeSpec := { name := "editsChain", fn := fun _ => fun
  | [d] => { results := [.lit (.bool false)], args := [d] }
  | _ => none }
def EditsChainWrongFalsely : Prop := editsChainRow.holds Tryd.pinned (OpenSpec.ofChange editsChainWrong)

/-- 'selvagelaw06.EditsFits': WHATEVER THE INPUT: true; the input reads as it did. -/
def editsFitsSpec : ChangeSpec := { name := "editsFits", fn := fun _ => fun
  | [d] => { results := [.lit (.bool true)], args := [d] }
  | _ => none }
def editsFitsRow : OpenClaim := { program := "ythgibnbpeopoaaadoor", sum := "7d310db7cb67c9739987decb4e870a813ecf3f868337f7a1426193b9c4ef58e0", func := "selvage/selvagelaw06.EditsFits", spec := "editsFits", inPlace := ["internal/reflectlite.ValueOf", "(internal/reflectlite.Value).Type", "(internal/reflectlite.Value).IsNil", "internal/reflectlite.TypeOf", "(internal/reflectlite.Value).Elem", "(internal/reflectlite.Value).Set"], unfollowed := true, recurses := true, named := ["errors.errorType"], apart := false, laid := [("errors.errorType", laid_errors_errorType)] }
def EditsFitsSaid : Prop := editsFitsRow.holds Tryd.pinned (OpenSpec.ofChange editsFitsSpec)

/-- ITS FALSE NEIGHBOUR: 'it returns false'. Refute it at one input. -/
def editsFitsWrong : ChangeSpec := { name := "editsFits", fn := fun _ => fun
  | [d] => { results := [.lit (.bool false)], args := [d] }
  | _ => none }
def EditsFitsWrongFalsely : Prop := editsFitsRow.holds Tryd.pinned (OpenSpec.ofChange editsFitsWrong)

/-- 'selvagelaw06.EditsOwn': WHATEVER THE INPUT: true; the input reads as it did. -/
def editsOwnSpec : ChangeSpec := { name := "editsOwn", fn := fun _ => fun
  | [d1, d2, d3] => { results := [.lit (.bool true)], args := [d1, d2, d3] }
  | _ => none }
def editsOwnRow : OpenClaim := { program := "ythgibnbpeopoaaadoor", sum := "7d310db7cb67c9739987decb4e870a813ecf3f868337f7a1426193b9c4ef58e0", func := "selvage/selvagelaw06.EditsOwn", spec := "editsOwn", inPlace := ["internal/reflectlite.ValueOf", "(internal/reflectlite.Value).Type", "(internal/reflectlite.Value).IsNil", "internal/reflectlite.TypeOf", "(internal/reflectlite.Value).Elem", "(internal/reflectlite.Value).Set"], unfollowed := true, recurses := true, named := ["errors.errorType"], apart := false, laid := [("errors.errorType", laid_errors_errorType)] }
def EditsOwnSaid : Prop := editsOwnRow.holds Tryd.pinned (OpenSpec.ofChange editsOwnSpec)

/-- ITS FALSE NEIGHBOUR: 'it returns false'. Refute it at one input. -/
def editsOwnWrong : ChangeSpec := { name := "editsOwn", fn := fun _ => fun
  | [d1, d2, d3] => { results := [.lit (.bool false)], args := [d1, d2, d3] }
  | _ => none }
def EditsOwnWrongFalsely : Prop := editsOwnRow.holds Tryd.pinned (OpenSpec.ofChange editsOwnWrong)

/- THE SECOND FORM. 'bulk': how many values and letters a reading holds, each counted each time it is reached (what is shared counts as often as it is met; a slice's spare places count too). A statement '..UptoSaid' is the law's where the arguments, and the package variables that the reading takes, are together of bulk at most 1048576: NARROWER than '..Said'. Prove '..Said' where nothing that the law and all that it calls make is longer than what came in: it says more and counts as full. Else prove '..UptoSaid'. A law counts once. -/
mutual
def uptoBulk {H : Type} : DataW H → Nat
  | .lit (.string bytes) => bytes.length + 1
  | .lit _ => 1
  | .nil => 1
  | .ptr d => uptoBulk d + 1
  | .slice elems spare => uptoBulkAll elems + uptoBulkAll spare + 1
  | .agg parts => uptoBulkAll parts + 1
  | .iface _ d => uptoBulk d + 1
  | .map entries => uptoBulkEntries entries + 1
  | .held _ => 1
def uptoBulkAll {H : Type} : List (DataW H) → Nat
  | [] => 0
  | d :: r => uptoBulk d + uptoBulkAll r
def uptoBulkEntries {H : Type} : List (Lit × DataW H) → Nat
  | [] => 0
  | x :: r => uptoBulkEntry x + uptoBulkEntries r
def uptoBulkEntry {H : Type} : Lit × DataW H → Nat
  | (.string bytes, d) => bytes.length + uptoBulk d + 1
  | (_, d) => uptoBulk d + 1
 end
def uptoSmall : (H : Type) → List (DataW H) → Bool := fun _ ds => decide (uptoBulkAll ds ≤ 1048576)
def OpenSpec.upto (s : _root_.Go.ChangeSpec) : _root_.Go.OpenSpec := { _root_.Go.OpenSpec.ofChange s with cond := some uptoSmall }

/-- 'selvagelaw06.EditsApply', WHERE WHAT IT READS IS OF BULK AT MOST 1048576: true; the input reads as it did. -/
def editsApplyUptoRow : OpenClaim := { program := "ythgibnbpeopoaaadoor", sum := "7d310db7cb67c9739987decb4e870a813ecf3f868337f7a1426193b9c4ef58e0", func := "selvage/selvagelaw06.EditsApply", spec := "editsApply", inPlace := ["internal/reflectlite.ValueOf", "(internal/reflectlite.Value).Type", "(internal/reflectlite.Value).IsNil", "internal/reflectlite.TypeOf", "(internal/reflectlite.Value).Elem", "(internal/reflectlite.Value).Set"], unfollowed := true, recurses := true, named := ["errors.errorType"], apart := false, laid := [("errors.errorType", laid_errors_errorType)], narrowed := true }
def EditsApplyUptoSaid : Prop := editsApplyUptoRow.holds Tryd.pinned (OpenSpec.upto editsApplySpec)

/-- 'selvagelaw06.EditsJoin', WHERE WHAT IT READS IS OF BULK AT MOST 1048576: true; the input reads as it did. -/
def editsJoinUptoRow : OpenClaim := { program := "ythgibnbpeopoaaadoor", sum := "7d310db7cb67c9739987decb4e870a813ecf3f868337f7a1426193b9c4ef58e0", func := "selvage/selvagelaw06.EditsJoin", spec := "editsJoin", inPlace := ["internal/reflectlite.ValueOf", "(internal/reflectlite.Value).Type", "(internal/reflectlite.Value).IsNil", "internal/reflectlite.TypeOf", "(internal/reflectlite.Value).Elem", "(internal/reflectlite.Value).Set"], unfollowed := true, recurses := true, named := ["errors.errorType"], apart := false, laid := [("errors.errorType", laid_errors_errorType)], narrowed := true }
def EditsJoinUptoSaid : Prop := editsJoinUptoRow.holds Tryd.pinned (OpenSpec.upto editsJoinSpec)

/-- 'selvagelaw06.EditsChain', WHERE WHAT IT READS IS OF BULK AT MOST 1048576: true; the input reads as it did. -/
def editsChainUptoRow : OpenClaim := { program := "ythgibnbpeopoaaadoor", sum := "7d310db7cb67c9739987decb4e870a813ecf3f868337f7a1426193b9c4ef58e0", func := "selvage/selvagelaw06.EditsChain", spec := "editsChain", inPlace := ["internal/reflectlite.ValueOf", "(internal/reflectlite.Value).Type", "(internal/reflectlite.Value).IsNil", "internal/reflectlite.TypeOf", "(internal/reflectlite.Value).Elem", "(internal/reflectlite.Value).Set"], unfollowed := true, recurses := true, named := ["errors.errorType"], apart := false, laid := [("errors.errorType", laid_errors_errorType)], narrowed := true }
def EditsChainUptoSaid : Prop := editsChainUptoRow.holds Tryd.pinned (OpenSpec.upto editsChainSpec)

/-- 'selvagelaw06.EditsFits', WHERE WHAT IT READS IS OF BULK AT MOST 1048576: true; the input reads as it did. -/
def editsFitsUptoRow : OpenClaim := { program := "ythgibnbpeopoaaadoor", sum := "7d310db7cb67c9739987decb4e870a813ecf3f868337f7a1426193b9c4ef58e0", func := "selvage/selvagelaw06.EditsFits", spec := "editsFits", inPlace := ["internal/reflectlite.ValueOf", "(internal/reflectlite.Value).Type", "(internal/reflectlite.Value).IsNil", "internal/reflectlite.TypeOf", "(internal/reflectlite.Value).Elem", "(internal/reflectlite.Value).Set"], unfollowed := true, recurses := true, named := ["errors.errorType"], apart := false, laid := [("errors.errorType", laid_errors_errorType)], narrowed := true }
def EditsFitsUptoSaid : Prop := editsFitsUptoRow.holds Tryd.pinned (OpenSpec.upto editsFitsSpec)

/-- 'selvagelaw06.EditsOwn', WHERE WHAT IT READS IS OF BULK AT MOST 1048576: true; the input reads as it did. -/
def editsOwnUptoRow : OpenClaim := { program := "ythgibnbpeopoaaadoor", sum := "7d310db7cb67c9739987decb4e870a813ecf3f868337f7a1426193b9c4ef58e0", func := "selvage/selvagelaw06.EditsOwn", spec := "editsOwn", inPlace := ["internal/reflectlite.ValueOf", "(internal/reflectlite.Value).Type", "(internal/reflectlite.Value).IsNil", "internal/reflectlite.TypeOf", "(internal/reflectlite.Value).Elem", "(internal/reflectlite.Value).Set"], unfollowed := true, recurses := true, named := ["errors.errorType"], apart := false, laid := [("errors.errorType", laid_errors_errorType)], narrowed := true }
def EditsOwnUptoSaid : Prop := editsOwnUptoRow.holds Tryd.pinned (OpenSpec.upto editsOwnSpec)

end Rows
end Go.Proofs.YthgibnbpeopoaaaDoor
