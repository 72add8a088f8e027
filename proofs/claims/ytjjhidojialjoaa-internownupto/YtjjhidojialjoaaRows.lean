/-
  No cell of these rows narrows 'for every input' (looked for: loops, veiled, ifaces, maps, wideKeys, modest, calm, conditions, laid).
  DERIVED. THE GIVEN ROWS OF THIS SEAT. 4 by the template 'for every input the law returns true; each argument reads behind the call as it read before'; 0 by the template 'total and deterministic' (their statements: YtjjhidojialjoaaTotals.lean).
  GIVEN WITH THE SEED: the statements are not yours to turn. If you find one false, say at which input.
  Laid BY PROGRAM, IN A SANDBOX (cutbox-rows.mjs): the forced cells as the released guide's own fill.sh prints them over the translation d5efb00572e466a4… (all of the seat's roots in one cut). By AI agents, Wed Nov 11 2026. No macro, syntax, notation, axiom, sorry.
-/
import Derived.Test.YtjjhidojialjoaaChecked
import GoSem.Claim
import GoSem.ClaimJoined
import GoSem.ClaimMapViews
import Derived.JoinedTies
import Derived.KernelRfl
namespace Go.Proofs.Ytjjhidojialjoaa
/- THE CELL 'sum', in the pinned program and in every row, IS THE sha256 OF THE DUMP (.gsa) THAT YtjjhidojialjoaaProg.lean LOADS. Nothing in Lean hashes anything: it is a label: what it is worth is what the hold of that sum in a sandbox is worth. -/
noncomputable def Try.pinned : Pinned := { name := "ytjjhidojialjoaa", sum := "d5efb00572e466a42d19435062717ad8fbaadc1a87586a57a4a1fe11ce721aa3", checked := Try.checked }
namespace Rows
def none {H : Type} : Left H := { results := [], args := [] }

/-- 'selvagelaw05.InternKeys': WHATEVER THE INPUT: true; the input reads as it did. -/
def internKeysSpec : ChangeSpec := { name := "internKeys", fn := fun _ => fun
  | [d1, d2] => { results := [.lit (.bool true)], args := [d1, d2] }
  | _ => none }
def internKeysRow : OpenClaim := { program := "ytjjhidojialjoaa", sum := "d5efb00572e466a42d19435062717ad8fbaadc1a87586a57a4a1fe11ce721aa3", func := "selvage/selvagelaw05.InternKeys", spec := "internKeys", inPlace := ["internal/abi.NoEscape", "internal/bytealg.MakeNoZero"], unfollowed := true, recurses := true, apart := false }
def InternKeysSaid : Prop := internKeysRow.holds Try.pinned (OpenSpec.ofChange internKeysSpec)

/-- ITS FALSE NEIGHBOUR: 'it returns false'. Refute it at one input. -/
def internKeysWrong : ChangeSpec := { name := "internKeys", fn := fun _ => fun
  | [d1, d2] => { results := [.lit (.bool false)], args := [d1, d2] }
  | _ => none }
def InternKeysWrongFalsely : Prop := internKeysRow.holds Try.pinned (OpenSpec.ofChange internKeysWrong)

/-- 'selvagelaw05.InternTells': WHATEVER THE INPUT: true; the input reads as it did. -/
def internTellsSpec : ChangeSpec := { name := "internTells", fn := fun _ => fun
  | [d1, d2, d3] => { results := [.lit (.bool true)], args := [d1, d2, d3] }
  | _ => none }
def internTellsRow : OpenClaim := { program := "ytjjhidojialjoaa", sum := "d5efb00572e466a42d19435062717ad8fbaadc1a87586a57a4a1fe11ce721aa3", func := "selvage/selvagelaw05.InternTells", spec := "internTells", inPlace := ["internal/abi.NoEscape", "internal/bytealg.MakeNoZero"], unfollowed := true, recurses := true, apart := false }
def InternTellsSaid : Prop := internTellsRow.holds Try.pinned (OpenSpec.ofChange internTellsSpec)

/-- ITS FALSE NEIGHBOUR: 'it returns false'. Refute it at one input. -/
def internTellsWrong : ChangeSpec := { name := "internTells", fn := fun _ => fun
  | [d1, d2, d3] => { results := [.lit (.bool false)], args := [d1, d2, d3] }
  | _ => none }
def InternTellsWrongFalsely : Prop := internTellsRow.holds Try.pinned (OpenSpec.ofChange internTellsWrong)

/-- 'selvagelaw05.InternWays': WHATEVER THE INPUT: true; the input reads as it did. -/
def internWaysSpec : ChangeSpec := { name := "internWays", fn := fun _ => fun
  | [d1, d2, d3] => { results := [.lit (.bool true)], args := [d1, d2, d3] }
  | _ => none }
def internWaysRow : OpenClaim := { program := "ytjjhidojialjoaa", sum := "d5efb00572e466a42d19435062717ad8fbaadc1a87586a57a4a1fe11ce721aa3", func := "selvage/selvagelaw05.InternWays", spec := "internWays", inPlace := ["internal/abi.NoEscape", "internal/bytealg.MakeNoZero"], unfollowed := true, recurses := true, apart := false }
def InternWaysSaid : Prop := internWaysRow.holds Try.pinned (OpenSpec.ofChange internWaysSpec)

/-- ITS FALSE NEIGHBOUR: 'it returns false'. Refute it at one input. -/
def internWaysWrong : ChangeSpec := { name := "internWays", fn := fun _ => fun
  | [d1, d2, d3] => { results := [.lit (.bool false)], args := [d1, d2, d3] }
  | _ => none }
def InternWaysWrongFalsely : Prop := internWaysRow.holds Try.pinned (OpenSpec.ofChange internWaysWrong)

/-- 'selvagelaw05.InternOwn': WHATEVER THE INPUT: true; the input reads as it did. -/
def internOwnSpec : ChangeSpec := { name := "internOwn", fn := fun _ => fun
  | [d1, d2, d3] => { results := [.lit (.bool true)], args := [d1, d2, d3] }
  | _ => none }
def internOwnRow : OpenClaim := { program := "ytjjhidojialjoaa", sum := "d5efb00572e466a42d19435062717ad8fbaadc1a87586a57a4a1fe11ce721aa3", func := "selvage/selvagelaw05.InternOwn", spec := "internOwn", inPlace := ["internal/abi.NoEscape", "internal/bytealg.MakeNoZero"], unfollowed := true, recurses := true, apart := false }
def InternOwnSaid : Prop := internOwnRow.holds Try.pinned (OpenSpec.ofChange internOwnSpec)

/-- ITS FALSE NEIGHBOUR: 'it returns false'. Refute it at one input. -/
def internOwnWrong : ChangeSpec := { name := "internOwn", fn := fun _ => fun
  | [d1, d2, d3] => { results := [.lit (.bool false)], args := [d1, d2, d3] }
  | _ => none }
def InternOwnWrongFalsely : Prop := internOwnRow.holds Try.pinned (OpenSpec.ofChange internOwnWrong)

/- THE SECOND FORM. 'bulk': how many values and letters a reading holds, each counted each time it is reached (what is shared counts as often as it is met; a slice's spare places count too). A statement '..UptoSaid' is the law's where the arguments, and the package variables that the reading takes, are together of bulk at most 1048576: NARROWER than '..Said'. Prove '..Said' where nothing that the law and all that it calls make is longer than what came in: it says more and counts as full. Else prove '..UptoSaid'. A law counts once. -/
mutual
def uptoBulk {H : Type} : DataW H → Nat
  | .lit (.string bytes) => bytes.length + 1
  | .lit _ => 1
  | .nil => 1
  | .ptr d => uptoBulk d + 1
  | .slice elems spare => uptoBulkAll elems + uptoBulkAll spare + 1
  | .agg parts => uptoBulkAll parts + 1
  | .iface _ d => uptoBulk d + 1
  | .map entries => uptoBulkEntries entries + 1
  | .held _ => 1
def uptoBulkAll {H : Type} : List (DataW H) → Nat
  | [] => 0
  | d :: r => uptoBulk d + uptoBulkAll r
def uptoBulkEntries {H : Type} : List (Lit × DataW H) → Nat
  | [] => 0
  | x :: r => uptoBulkEntry x + uptoBulkEntries r
def uptoBulkEntry {H : Type} : Lit × DataW H → Nat
  | (.string bytes, d) => bytes.length + uptoBulk d + 1
  | (_, d) => uptoBulk d + 1
 end
def uptoSmall : (H : Type) → List (DataW H) → Bool := fun _ ds => decide (uptoBulkAll ds ≤ 1048576)
def OpenSpec.upto (s : _root_.Go.ChangeSpec) : _root_.Go.OpenSpec := { _root_.Go.OpenSpec.ofChange s with cond := some uptoSmall }

/-- 'selvagelaw05.InternKeys', WHERE WHAT IT READS IS OF BULK AT MOST 1048576: true; the input reads as it did. -/
def internKeysUptoRow : OpenClaim := { program := "ytjjhidojialjoaa", sum := "d5efb00572e466a42d19435062717ad8fbaadc1a87586a57a4a1fe11ce721aa3", func := "selvage/selvagelaw05.InternKeys", spec := "internKeys", inPlace := ["internal/abi.NoEscape", "internal/bytealg.MakeNoZero"], unfollowed := true, recurses := true, apart := false, narrowed := true }
def InternKeysUptoSaid : Prop := internKeysUptoRow.holds Try.pinned (OpenSpec.upto internKeysSpec)

/-- 'selvagelaw05.InternTells', WHERE WHAT IT READS IS OF BULK AT MOST 1048576: true; the input reads as it did. -/
def internTellsUptoRow : OpenClaim := { program := "ytjjhidojialjoaa", sum := "d5efb00572e466a42d19435062717ad8fbaadc1a87586a57a4a1fe11ce721aa3", func := "selvage/selvagelaw05.InternTells", spec := "internTells", inPlace := ["internal/abi.NoEscape", "internal/bytealg.MakeNoZero"], unfollowed := true, recurses := true, apart := false, narrowed := true }
def InternTellsUptoSaid : Prop := internTellsUptoRow.holds Try.pinned (OpenSpec.upto internTellsSpec)

/-- 'selvagelaw05.InternWays', WHERE WHAT IT READS IS OF BULK AT MOST 1048576: true; the input reads as it did. -/
def internWaysUptoRow : OpenClaim := { program := "ytjjhidojialjoaa", sum := "d5efb00572e466a42d19435062717ad8fbaadc1a87586a57a4a1fe11ce721aa3", func := "selvage/selvagelaw05.InternWays", spec := "internWays", inPlace := ["internal/abi.NoEscape", "internal/bytealg.MakeNoZero"], unfollowed := true, recurses := true, apart := false, narrowed := true }
def InternWaysUptoSaid : Prop := internWaysUptoRow.holds Try.pinned (OpenSpec.upto internWaysSpec)

/-- 'selvagelaw05.InternOwn', WHERE WHAT IT READS IS OF BULK AT MOST 1048576: true; the input reads as it did. -/
def internOwnUptoRow : OpenClaim := { program := "ytjjhidojialjoaa", sum := "d5efb00572e466a42d19435062717ad8fbaadc1a87586a57a4a1fe11ce721aa3", func := "selvage/selvagelaw05.InternOwn", spec := "internOwn", inPlace := ["internal/abi.NoEscape", "internal/bytealg.MakeNoZero"], unfollowed := true, recurses := true, apart := false, narrowed := true }
def InternOwnUptoSaid : Prop := internOwnUptoRow.holds Try.pinned (OpenSpec.upto internOwnSpec)

end Rows
end Go.Proofs.Ytjjhidojialjoaa
