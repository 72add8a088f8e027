/-
  NARROWER THAN 'FOR EVERY INPUT', by the rows' own cells (each row's printed sentence says how): EditsValid: laid · EditsNormal: laid · EditsApply: laid · EditsOf: laid · EditsJoin: laid · EditsBack: laid.
  DERIVED. THE GIVEN ROWS OF THIS SEAT. 6 by the template 'for every input the law returns true; each argument reads behind the call as it read before'; 0 by the template 'total and deterministic' (their statements: YtajpjhojfhegoaaDoorTotals.lean).
  GIVEN WITH THE SEED: the statements are not yours to turn. If you find one false, say at which input.
  Laid BY PROGRAM, IN A SANDBOX (cutbox-rows.mjs): the forced cells as the released guide's own fill.sh prints them over the translation fa6c21ecad3000f5… (all of the seat's roots in one cut). By AI agents, Wed Nov 11 2026. No macro, syntax, notation, axiom, sorry.
-/
import Derived.Test.YtajpjhojfhegoaaDoorChecked
import GoSem.Claim
import GoSem.ClaimJoined
import GoSem.ClaimMapViews
import Derived.JoinedTies
import Derived.KernelRfl
namespace Go.Proofs.YtajpjhojfhegoaaDoor
/- THE CELL 'sum', in the pinned program and in every row, IS THE sha256 OF THE DUMP (.gsa) THAT YtajpjhojfhegoaaDoorProg.lean LOADS. Nothing in Lean hashes anything: it is a label: what it is worth is what the hold of that sum in a sandbox is worth. -/
noncomputable def Tryd.pinned : Pinned := { name := "ytajpjhojfhegoaadoor", sum := "fa6c21ecad3000f5ed1888fe42a18419bdfa4ee757f404e4566c55620d313574", checked := Tryd.checked }
namespace Rows
def none {H : Type} : Left H := { results := [], args := [] }

/- WHAT THE LISTED PACKAGE-LEVEL VARIABLES READ AS WHEN THE CALL BEGINS. Each datum BY PROGRAM (the guide's laid-datum.mjs) off the statement by which the dump's own 'gosem.cut.vars' lays the variable. In a bare row this is a premise. The card (YtajpjhojfhegoaaDoorCards.lean) ties it to the program's text. -/
def laid_errors_errorType {H : Type} : DataW H := .iface "internal/reflectlite.rtype" (.agg [.ptr (.lit (.string [101, 114, 114, 111, 114]))])

/-- 'selvagelaw06.EditsValid': WHATEVER THE INPUT: true; the input reads as it did. -/
def editsValidSpec : ChangeSpec := { name := "editsValid", fn := fun _ => fun
  | [d1, d2, d3] => { results := [.lit (.bool true)], args := [d1, d2, d3] }
  | _ => none }
def editsValidRow : OpenClaim := { program := "ytajpjhojfhegoaadoor", sum := "fa6c21ecad3000f5ed1888fe42a18419bdfa4ee757f404e4566c55620d313574", func := "selvage/selvagelaw06.EditsValid", spec := "editsValid", inPlace := ["internal/reflectlite.ValueOf", "(internal/reflectlite.Value).Type", "(internal/reflectlite.Value).IsNil", "internal/reflectlite.TypeOf", "(internal/reflectlite.Value).Elem", "(internal/reflectlite.Value).Set"], unfollowed := true, recurses := true, named := ["errors.errorType"], apart := false, laid := [("errors.errorType", laid_errors_errorType)] }
def EditsValidSaid : Prop := editsValidRow.holds Tryd.pinned (OpenSpec.ofChange editsValidSpec)

/-- ITS FALSE NEIGHBOUR: 'it returns false'. Refute it at one input. -/
def editsValidWrong : ChangeSpec := { name := "editsValid", fn := fun _ => fun
  | [d1, d2, d3] => { results := [.lit (.bool false)], args := [d1, d2, d3] }
  | _ => none }
def EditsValidWrongFalsely : Prop := editsValidRow.holds Tryd.pinned (OpenSpec.ofChange editsValidWrong)

/-- 'selvagelaw06.EditsNormal': WHATEVER THE INPUT: true; the input reads as it did. -/
def editsNormalSpec : ChangeSpec := { name := "editsNormal", fn := fun _ => fun
  | [d1, d2, d3] => { results := [.lit (.bool true)], args := [d1, d2, d3] }
  | _ => none }
def editsNormalRow : OpenClaim := { program := "ytajpjhojfhegoaadoor", sum := "fa6c21ecad3000f5ed1888fe42a18419bdfa4ee757f404e4566c55620d313574", func := "selvage/selvagelaw06.EditsNormal", spec := "editsNormal", inPlace := ["internal/reflectlite.ValueOf", "(internal/reflectlite.Value).Type", "(internal/reflectlite.Value).IsNil", "internal/reflectlite.TypeOf", "(internal/reflectlite.Value).Elem", "(internal/reflectlite.Value).Set"], unfollowed := true, recurses := true, named := ["errors.errorType"], apart := false, laid := [("errors.errorType", laid_errors_errorType)] }
def EditsNormalSaid : Prop := editsNormalRow.holds Tryd.pinned (OpenSpec.ofChange editsNormalSpec)

/-- ITS FALSE NEIGHBOUR: 'it returns false'. Refute it at one input. -/
def editsNormalWrong : ChangeSpec := { name := "editsNormal", fn := fun _ => fun
  | [d1, d2, d3] => { results := [.lit (.bool false)], args := [d1, d2, d3] }
  | _ => none }
def EditsNormalWrongFalsely : Prop := editsNormalRow.holds Tryd.pinned (OpenSpec.ofChange editsNormalWrong)

/-- 'selvagelaw06.EditsApply': WHATEVER THE INPUT: true; the input reads as it did. -/
def editsApplySpec : ChangeSpec := { name := "editsApply", fn := fun _ => fun
  | [d1, d2, d3] => { results := [.lit (.bool true)], args := [d1, d2, d3] }
  | _ => none }
def editsApplyRow : OpenClaim := { program := "ytajpjhojfhegoaadoor", sum := "fa6c21ecad3000f5ed1888fe42a18419bdfa4ee757f404e4566c55620d313574", func := "selvage/selvagelaw06.EditsApply", spec := "editsApply", inPlace := ["internal/reflectlite.ValueOf", "(internal/reflectlite.Value).Type", "(internal/reflectlite.Value).IsNil", "internal/reflectlite.TypeOf", "(internal/reflectlite.Value).Elem", "(internal/reflectlite.Value).Set"], unfollowed := true, recurses := true, named := ["errors.errorType"], apart := false, laid := [("errors.errorType", laid_errors_errorType)] }
def EditsApplySaid : Prop := editsApplyRow.holds Tryd.pinned (OpenSpec.ofChange editsApplySpec)

/-- ITS FALSE NEIGHBOUR: 'it returns false'. Refute it at one input. -/
def editsApplyWrong : ChangeSpec := { name := "editsApply", fn := fun _ => fun
  | [d1, d2, d3] => { results := [.lit (.bool false)], args := [d1, d2, d3] }
  | _ => none }
def EditsApplyWrongFalsely : Prop := editsApplyRow.holds Tryd.pinned (OpenSpec.ofChange editsApplyWrong)

/-- 'selvagelaw06.EditsOf': WHATEVER THE INPUT: true; the input reads as it did. -/
def editsOfSpec : ChangeSpec := { name := "editsOf", fn := fun _ => fun
  | [d1, d2, d3] => { results := [.lit (.bool true)], args := [d1, d2, d3] }
  | _ => none }
def editsOfRow : OpenClaim := { program := "ytajpjhojfhegoaadoor", sum := "fa6c21ecad3000f5ed1888fe42a18419bdfa4ee757f404e4566c55620d313574", func := "selvage/selvagelaw06.EditsOf", spec := "editsOf", inPlace := ["internal/reflectlite.ValueOf", "(internal/reflectlite.Value).Type", "(internal/reflectlite.Value).IsNil", "internal/reflectlite.TypeOf", "(internal/reflectlite.Value).Elem", "(internal/reflectlite.Value).Set"], unfollowed := true, recurses := true, named := ["errors.errorType"], apart := false, laid := [("errors.errorType", laid_errors_errorType)] }
def EditsOfSaid : Prop := editsOfRow.holds Tryd.pinned (OpenSpec.ofChange editsOfSpec)

/-- ITS FALSE NEIGHBOUR: 'it returns false'. Refute it at one input. -/
def editsOfWrong : ChangeSpec := { name := "editsOf", fn := fun _ => fun
  | [d1, d2, d3] => { results := [.lit (.bool false)], args := [d1, d2, d3] }
  | _ => none }
def EditsOfWrongFalsely : Prop := editsOfRow.holds Tryd.pinned (OpenSpec.ofChange editsOfWrong)

/-- 'selvagelaw06.EditsJoin': WHATEVER THE INPUT: true; the input reads as it did. -/
def editsJoinSpec : ChangeSpec := { name := "editsJoin", fn := fun _ => fun
  | [d] => { results := [.lit (.bool true)], args := [d] }
  | _ => none }
def editsJoinRow : OpenClaim := { program := "ytajpjhojfhegoaadoor", sum := "fa6c21ecad3000f5ed1888fe42a18419bdfa4ee757f404e4566c55620d313574", func := "selvage/selvagelaw06.EditsJoin", spec := "editsJoin", inPlace := ["internal/reflectlite.ValueOf", "(internal/reflectlite.Value).Type", "(internal/reflectlite.Value).IsNil", "internal/reflectlite.TypeOf", "(internal/reflectlite.Value).Elem", "(internal/reflectlite.Value).Set"], unfollowed := true, recurses := true, named := ["errors.errorType"], apart := false, laid := [("errors.errorType", laid_errors_errorType)] }
def EditsJoinSaid : Prop := editsJoinRow.holds Tryd.pinned (OpenSpec.ofChange editsJoinSpec)

/-- ITS FALSE NEIGHBOUR: 'it returns false'. Refute it at one input. -/
def editsJoinWrong : ChangeSpec := { name := "editsJoin", fn := fun _ => fun
  | [d] => { results := [.lit (.bool false)], args := [d] }
  | _ => none }
def EditsJoinWrongFalsely : Prop := editsJoinRow.holds Tryd.pinned (OpenSpec.ofChange editsJoinWrong)

/-- 'selvagelaw06.EditsBack': WHATEVER THE INPUT: true; the input reads as it did. -/
def editsBackSpec : ChangeSpec := { name := "editsBack", fn := fun _ => fun
  | [d1, d2, d3] => { results := [.lit (.bool true)], args := [d1, d2, d3] }
  | _ => none }
def editsBackRow : OpenClaim := { program := "ytajpjhojfhegoaadoor", sum := "fa6c21ecad3000f5ed1888fe42a18419bdfa4ee757f404e4566c55620d313574", func := "selvage/selvagelaw06.EditsBack", spec := "editsBack", inPlace := ["internal/reflectlite.ValueOf", "(internal/reflectlite.Value).Type", "(internal/reflectlite.Value).IsNil", "internal/reflectlite.TypeOf", "(internal/reflectlite.Value).Elem", "(internal/reflectlite.Value).Set"], unfollowed := true, recurses := true, named := ["errors.errorType"], apart := false, laid := [("errors.errorType", laid_errors_errorType)] }
def EditsBackSaid : Prop := editsBackRow.holds Tryd.pinned (OpenSpec.ofChange editsBackSpec)

/-- ITS FALSE NEIGHBOUR: 'it returns false'. Refute it at one input. -/
def editsBackWrong : ChangeSpec := { name := "editsBack", fn := fun _ => fun
  | [d1, d2, d3] => { results := [.lit (.bool false)], args := [d1, d2, d3] }
  | _ => none }
def EditsBackWrongFalsely : Prop := editsBackRow.holds Tryd.pinned (OpenSpec.ofChange editsBackWrong)

/- THE SECOND FORM. 'bulk': how many values and letters a reading holds, each counted each time it is reached (what is shared counts as often as it is met; a slice's spare places count too). A statement '..UptoSaid' is the law's where the arguments, and the package variables that the reading takes, are together of bulk at most 1048576: NARROWER than '..Said'. Prove '..Said' where nothing that the law and all that it calls make is longer than what came in: it says more and counts as full. Else prove '..UptoSaid'. A law counts once. -/
mutual
def uptoBulk {H : Type} : DataW H → Nat
  | .lit (.string bytes) => bytes.length + 1
  | .lit _ => 1
  | .nil => 1
  | .ptr d => uptoBulk d + 1
  | .slice elems spare => uptoBulkAll elems + uptoBulkAll spare + 1
  | .agg parts => uptoBulkAll parts + 1
  | .iface _ d => uptoBulk d + 1
  | .map entries => uptoBulkEntries entries + 1
  | .held _ => 1
def uptoBulkAll {H : Type} : List (DataW H) → Nat
  | [] => 0
  | d :: r => uptoBulk d + uptoBulkAll r
def uptoBulkEntries {H : Type} : List (Lit × DataW H) → Nat
  | [] => 0
  | x :: r => uptoBulkEntry x + uptoBulkEntries r
def uptoBulkEntry {H : Type} : Lit × DataW H → Nat
  | (.string bytes, d) => bytes.length + uptoBulk d + 1
  | (_, d) => uptoBulk d + 1
 end
def uptoSmall : (H : Type) → List (DataW H) → Bool := fun _ ds => decide (uptoBulkAll ds ≤ 1048576)
def OpenSpec.upto (s : _root_.Go.ChangeSpec) : _root_.Go.OpenSpec := { _root_.Go.OpenSpec.ofChange s with cond := some uptoSmall }

/-- 'selvagelaw06.EditsValid', WHERE WHAT IT READS IS OF BULK AT MOST 1048576: true; the input reads as it did. -/
def editsValidUptoRow : OpenClaim := { program := "ytajpjhojfhegoaadoor", sum := "fa6c21ecad3000f5ed1888fe42a18419bdfa4ee757f404e4566c55620d313574", func := "selvage/selvagelaw06.EditsValid", spec := "editsValid", inPlace := ["internal/reflectlite.ValueOf", "(internal/reflectlite.Value).Type", "(internal/reflectlite.Value).IsNil", "internal/reflectlite.TypeOf", "(internal/reflectlite.Value).Elem", "(internal/reflectlite.Value).Set"], unfollowed := true, recurses := true, named := ["errors.errorType"], apart := false, laid := [("errors.errorType", laid_errors_errorType)], narrowed := true }
def EditsValidUptoSaid : Prop := editsValidUptoRow.holds Tryd.pinned (OpenSpec.upto editsValidSpec)

/-- 'selvagelaw06.EditsNormal', WHERE WHAT IT READS IS OF BULK AT MOST 1048576: true; the input reads as it did. -/
def editsNormalUptoRow : OpenClaim := { program := "ytajpjhojfhegoaadoor", sum := "fa6c21ecad3000f5ed1888fe42a18419bdfa4ee757f404e4566c55620d313574", func := "selvage/selvagelaw06.EditsNormal", spec := "editsNormal", inPlace := ["internal/reflectlite.ValueOf", "(internal/reflectlite.Value).Type", "(internal/reflectlite.Value).IsNil", "internal/reflectlite.TypeOf", "(internal/reflectlite.Value).Elem", "(internal/reflectlite.Value).Set"], unfollowed := true, recurses := true, named := ["errors.errorType"], apart := false, laid := [("errors.errorType", laid_errors_errorType)], narrowed := true }
def EditsNormalUptoSaid : Prop := editsNormalUptoRow.holds Tryd.pinned (OpenSpec.upto editsNormalSpec)

/-- 'selvagelaw06.EditsApply', WHERE WHAT IT READS IS OF BULK AT MOST 1048576: true; the input reads as it did. -/
def editsApplyUptoRow : OpenClaim := { program := "ytajpjhojfhegoaadoor", sum := "fa6c21ecad3000f5ed1888fe42a18419bdfa4ee757f404e4566c55620d313574", func := "selvage/selvagelaw06.EditsApply", spec := "editsApply", inPlace := ["internal/reflectlite.ValueOf", "(internal/reflectlite.Value).Type", "(internal/reflectlite.Value).IsNil", "internal/reflectlite.TypeOf", "(internal/reflectlite.Value).Elem", "(internal/reflectlite.Value).Set"], unfollowed := true, recurses := true, named := ["errors.errorType"], apart := false, laid := [("errors.errorType", laid_errors_errorType)], narrowed := true }
def EditsApplyUptoSaid : Prop := editsApplyUptoRow.holds Tryd.pinned (OpenSpec.upto editsApplySpec)

/-- 'selvagelaw06.EditsOf', WHERE WHAT IT READS IS OF BULK AT MOST 1048576: true; the input reads as it did. -/
def editsOfUptoRow : OpenClaim := { program := "ytajpjhojfhegoaadoor", sum := "fa6c21ecad3000f5ed1888fe42a18419bdfa4ee757f404e4566c55620d313574", func := "selvage/selvagelaw06.EditsOf", spec := "editsOf", inPlace := ["internal/reflectlite.ValueOf", "(internal/reflectlite.Value).Type", "(internal/reflectlite.Value).IsNil", "internal/reflectlite.TypeOf", "(internal/reflectlite.Value).Elem", "(internal/reflectlite.Value).Set"], unfollowed := true, recurses := true, named := ["errors.errorType"], apart := false, laid := [("errors.errorType", laid_errors_errorType)], narrowed := true }
def EditsOfUptoSaid : Prop := editsOfUptoRow.holds Tryd.pinned (OpenSpec.upto editsOfSpec)

/-- 'selvagelaw06.EditsJoin', WHERE WHAT IT READS IS OF BULK AT MOST 1048576: true; the input reads as it did. -/
def editsJoinUptoRow : OpenClaim := { program := "ytajpjhojfhegoaadoor", sum := "fa6c21ecad3000f5ed1888fe42a18419bdfa4ee757f404e4566c55620d313574", func := "selvage/selvagelaw06.EditsJoin", spec := "editsJoin", inPlace := ["internal/reflectlite.ValueOf", "(internal/reflectlite.Value).Type", "(internal/reflectlite.Value).IsNil", "internal/reflectlite.TypeOf", "(internal/reflectlite.Value).Elem", "(internal/reflectlite.Value).Set"], unfollowed := true, recurses := true, named := ["errors.errorType"], apart := false, laid := [("errors.errorType", laid_errors_errorType)], narrowed := true }
def EditsJoinUptoSaid : Prop := editsJoinUptoRow.holds Tryd.pinned (OpenSpec.upto editsJoinSpec)

/-- 'selvagelaw06.EditsBack', WHERE WHAT IT READS IS OF BULK AT MOST 1048576: true; the input reads as it did. -/
def editsBackUptoRow : OpenClaim := { program := "ytajpjhojfhegoaadoor", sum := "fa6c21ecad3000f5ed1888fe42a18419bdfa4ee757f404e4566c55620d313574", func := "selvage/selvagelaw06.EditsBack", spec := "editsBack", inPlace := ["internal/reflectlite.ValueOf", "(internal/reflectlite.Value).Type", "(internal/reflectlite.Value).IsNil", "internal/reflectlite.TypeOf", "(internal/reflectlite.Value).Elem", "(internal/reflectlite.Value).Set"], unfollowed := true, recurses := true, named := ["errors.errorType"], apart := false, laid := [("errors.errorType", laid_errors_errorType)], narrowed := true }
def EditsBackUptoSaid : Prop := editsBackUptoRow.holds Tryd.pinned (OpenSpec.upto editsBackSpec)

end Rows
end Go.Proofs.YtajpjhojfhegoaaDoor
