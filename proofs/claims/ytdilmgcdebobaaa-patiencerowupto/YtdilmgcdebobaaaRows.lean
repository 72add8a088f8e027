/-
  No cell of these rows narrows 'for every input' (looked for: loops, veiled, ifaces, maps, wideKeys, modest, calm, conditions, laid).
  DERIVED. THE GIVEN ROWS OF THIS SEAT. 6 by the template 'for every input the law returns true; each argument reads behind the call as it read before'; 0 by the template 'total and deterministic' (their statements: YtdilmgcdebobaaaTotals.lean).
  GIVEN WITH THE SEED: the statements are not yours to turn. If you find one false, say at which input.
  Laid BY PROGRAM, IN A SANDBOX (cutbox-rows.mjs): the forced cells as the released guide's own fill.sh prints them over the translation cd3c8b814a8f5cef… (all of the seat's roots in one cut). By AI agents, Wed Nov 11 2026. No macro, syntax, notation, axiom, sorry.
-/
import Derived.Test.YtdilmgcdebobaaaChecked
import GoSem.Claim
import GoSem.ClaimJoined
import GoSem.ClaimMapViews
import Derived.JoinedTies
import Derived.KernelRfl
namespace Go.Proofs.Ytdilmgcdebobaaa
/- THE CELL 'sum', in the pinned program and in every row, IS THE sha256 OF THE DUMP (.gsa) THAT YtdilmgcdebobaaaProg.lean LOADS. Nothing in Lean hashes anything: it is a label: what it is worth is what the hold of that sum in a sandbox is worth. -/
noncomputable def Try.pinned : Pinned := { name := "ytdilmgcdebobaaa", sum := "cd3c8b814a8f5cefda4ced564775923c62df4de0668c087c46a08dca6dece206", checked := Try.checked }
namespace Rows
def none {H : Type} : Left H := { results := [], args := [] }

/-- 'selvagelaw08.PatienceAnchors': WHATEVER THE INPUT: true; the input reads as it did. -/
def patienceAnchorsSpec : ChangeSpec := { name := "patienceAnchors", fn := fun _ => fun
  | [d1, d2] => { results := [.lit (.bool true)], args := [d1, d2] }
  | _ => none }
def patienceAnchorsRow : OpenClaim := { program := "ytdilmgcdebobaaa", sum := "cd3c8b814a8f5cefda4ced564775923c62df4de0668c087c46a08dca6dece206", func := "selvage/selvagelaw08.PatienceAnchors", spec := "patienceAnchors", unfollowed := true, recurses := true, apart := false }
def PatienceAnchorsSaid : Prop := patienceAnchorsRow.holds Try.pinned (OpenSpec.ofChange patienceAnchorsSpec)

/-- ITS FALSE NEIGHBOUR: 'it returns false'. Refute it at one input. -/
def patienceAnchorsWrong : ChangeSpec := { name := "patienceAnchors", fn := fun _ => fun
  | [d1, d2] => { results := [.lit (.bool false)], args := [d1, d2] }
  | _ => none }
def PatienceAnchorsWrongFalsely : Prop := patienceAnchorsRow.holds Try.pinned (OpenSpec.ofChange patienceAnchorsWrong)

/-- 'selvagelaw08.PatienceRising': WHATEVER THE INPUT: true; the input reads as it did. -/
def patienceRisingSpec : ChangeSpec := { name := "patienceRising", fn := fun _ => fun
  | [d] => { results := [.lit (.bool true)], args := [d] }
  | _ => none }
def patienceRisingRow : OpenClaim := { program := "ytdilmgcdebobaaa", sum := "cd3c8b814a8f5cefda4ced564775923c62df4de0668c087c46a08dca6dece206", func := "selvage/selvagelaw08.PatienceRising", spec := "patienceRising", unfollowed := true, recurses := true, apart := false }
def PatienceRisingSaid : Prop := patienceRisingRow.holds Try.pinned (OpenSpec.ofChange patienceRisingSpec)

/-- ITS FALSE NEIGHBOUR: 'it returns false'. Refute it at one input. -/
def patienceRisingWrong : ChangeSpec := { name := "patienceRising", fn := fun _ => fun
  | [d] => { results := [.lit (.bool false)], args := [d] }
  | _ => none }
def PatienceRisingWrongFalsely : Prop := patienceRisingRow.holds Try.pinned (OpenSpec.ofChange patienceRisingWrong)

/-- 'selvagelaw08.PatienceRow': WHATEVER THE INPUT: true; the input reads as it did. -/
def patienceRowSpec : ChangeSpec := { name := "patienceRow", fn := fun _ => fun
  | [d] => { results := [.lit (.bool true)], args := [d] }
  | _ => none }
def patienceRowRow : OpenClaim := { program := "ytdilmgcdebobaaa", sum := "cd3c8b814a8f5cefda4ced564775923c62df4de0668c087c46a08dca6dece206", func := "selvage/selvagelaw08.PatienceRow", spec := "patienceRow", unfollowed := true, recurses := true, apart := false }
def PatienceRowSaid : Prop := patienceRowRow.holds Try.pinned (OpenSpec.ofChange patienceRowSpec)

/-- ITS FALSE NEIGHBOUR: 'it returns false'. Refute it at one input. -/
def patienceRowWrong : ChangeSpec := { name := "patienceRow", fn := fun _ => fun
  | [d] => { results := [.lit (.bool false)], args := [d] }
  | _ => none }
def PatienceRowWrongFalsely : Prop := patienceRowRow.holds Try.pinned (OpenSpec.ofChange patienceRowWrong)

/-- 'selvagelaw08.PatienceDiffs': WHATEVER THE INPUT: true; the input reads as it did. -/
def patienceDiffsSpec : ChangeSpec := { name := "patienceDiffs", fn := fun _ => fun
  | [d1, d2] => { results := [.lit (.bool true)], args := [d1, d2] }
  | _ => none }
def patienceDiffsRow : OpenClaim := { program := "ytdilmgcdebobaaa", sum := "cd3c8b814a8f5cefda4ced564775923c62df4de0668c087c46a08dca6dece206", func := "selvage/selvagelaw08.PatienceDiffs", spec := "patienceDiffs", unfollowed := true, recurses := true, apart := false }
def PatienceDiffsSaid : Prop := patienceDiffsRow.holds Try.pinned (OpenSpec.ofChange patienceDiffsSpec)

/-- ITS FALSE NEIGHBOUR: 'it returns false'. Refute it at one input. -/
def patienceDiffsWrong : ChangeSpec := { name := "patienceDiffs", fn := fun _ => fun
  | [d1, d2] => { results := [.lit (.bool false)], args := [d1, d2] }
  | _ => none }
def PatienceDiffsWrongFalsely : Prop := patienceDiffsRow.holds Try.pinned (OpenSpec.ofChange patienceDiffsWrong)

/-- 'selvagelaw08.PatienceLeast': WHATEVER THE INPUT: true; the input reads as it did. -/
def patienceLeastSpec : ChangeSpec := { name := "patienceLeast", fn := fun _ => fun
  | [d1, d2] => { results := [.lit (.bool true)], args := [d1, d2] }
  | _ => none }
def patienceLeastRow : OpenClaim := { program := "ytdilmgcdebobaaa", sum := "cd3c8b814a8f5cefda4ced564775923c62df4de0668c087c46a08dca6dece206", func := "selvage/selvagelaw08.PatienceLeast", spec := "patienceLeast", unfollowed := true, recurses := true, apart := false }
def PatienceLeastSaid : Prop := patienceLeastRow.holds Try.pinned (OpenSpec.ofChange patienceLeastSpec)

/-- ITS FALSE NEIGHBOUR: 'it returns false'. Refute it at one input. -/
def patienceLeastWrong : ChangeSpec := { name := "patienceLeast", fn := fun _ => fun
  | [d1, d2] => { results := [.lit (.bool false)], args := [d1, d2] }
  | _ => none }
def PatienceLeastWrongFalsely : Prop := patienceLeastRow.holds Try.pinned (OpenSpec.ofChange patienceLeastWrong)

/-- 'selvagelaw08.PatienceOwn': WHATEVER THE INPUT: true; the input reads as it did. -/
def patienceOwnSpec : ChangeSpec := { name := "patienceOwn", fn := fun _ => fun
  | [d1, d2] => { results := [.lit (.bool true)], args := [d1, d2] }
  | _ => none }
def patienceOwnRow : OpenClaim := { program := "ytdilmgcdebobaaa", sum := "cd3c8b814a8f5cefda4ced564775923c62df4de0668c087c46a08dca6dece206", func := "selvage/selvagelaw08.PatienceOwn", spec := "patienceOwn", unfollowed := true, recurses := true, apart := false }
def PatienceOwnSaid : Prop := patienceOwnRow.holds Try.pinned (OpenSpec.ofChange patienceOwnSpec)

/-- ITS FALSE NEIGHBOUR: 'it returns false'. Refute it at one input. -/
def patienceOwnWrong : ChangeSpec := { name := "patienceOwn", fn := fun _ => fun
  | [d1, d2] => { results := [.lit (.bool false)], args := [d1, d2] }
  | _ => none }
def PatienceOwnWrongFalsely : Prop := patienceOwnRow.holds Try.pinned (OpenSpec.ofChange patienceOwnWrong)

/- THE SECOND FORM. 'bulk': how many values and letters a reading holds, each counted each time it is reached (what is shared counts as often as it is met; a slice's spare places count too). A statement '..UptoSaid' is the law's where the arguments, and the package variables that the reading takes, are together of bulk at most 1048576: NARROWER than '..Said'. Prove '..Said' where nothing that the law and all that it calls make is longer than what came in: it says more and counts as full. Else prove '..UptoSaid'. A law counts once. -/
mutual
def uptoBulk {H : Type} : DataW H → Nat
  | .lit (.string bytes) => bytes.length + 1
  | .lit _ => 1
  | .nil => 1
  | .ptr d => uptoBulk d + 1
  | .slice elems spare => uptoBulkAll elems + uptoBulkAll spare + 1
  | .agg parts => uptoBulkAll parts + 1
  | .iface _ d => uptoBulk d + 1
  | .map entries => uptoBulkEntries entries + 1
  | .held _ => 1
def uptoBulkAll {H : Type} : List (DataW H) → Nat
  | [] => 0
  | d :: r => uptoBulk d + uptoBulkAll r
def uptoBulkEntries {H : Type} : List (Lit × DataW H) → Nat
  | [] => 0
  | x :: r => uptoBulkEntry x + uptoBulkEntries r
def uptoBulkEntry {H : Type} : Lit × DataW H → Nat
  | (.string bytes, d) => bytes.length + uptoBulk d + 1
  | (_, d) => uptoBulk d + 1
 end
def uptoSmall : (H : Type) → List (DataW H) → Bool := fun _ ds => decide (uptoBulkAll ds ≤ 1048576)
def OpenSpec.upto (s : _root_.Go.ChangeSpec) : _root_.Go.OpenSpec := { _root_.Go.OpenSpec.ofChange s with cond := some uptoSmall }

/-- 'selvagelaw08.PatienceAnchors', WHERE WHAT IT READS IS OF BULK AT MOST 1048576: true; the input reads as it did. -/
def patienceAnchorsUptoRow : OpenClaim := { program := "ytdilmgcdebobaaa", sum := "cd3c8b814a8f5cefda4ced564775923c62df4de0668c087c46a08dca6dece206", func := "selvage/selvagelaw08.PatienceAnchors", spec := "patienceAnchors", unfollowed := true, recurses := true, apart := false, narrowed := true }
def PatienceAnchorsUptoSaid : Prop := patienceAnchorsUptoRow.holds Try.pinned (OpenSpec.upto patienceAnchorsSpec)

/-- 'selvagelaw08.PatienceRising', WHERE WHAT IT READS IS OF BULK AT MOST 1048576: true; the input reads as it did. -/
def patienceRisingUptoRow : OpenClaim := { program := "ytdilmgcdebobaaa", sum := "cd3c8b814a8f5cefda4ced564775923c62df4de0668c087c46a08dca6dece206", func := "selvage/selvagelaw08.PatienceRising", spec := "patienceRising", unfollowed := true, recurses := true, apart := false, narrowed := true }
def PatienceRisingUptoSaid : Prop := patienceRisingUptoRow.holds Try.pinned (OpenSpec.upto patienceRisingSpec)

/-- 'selvagelaw08.PatienceRow', WHERE WHAT IT READS IS OF BULK AT MOST 1048576: true; the input reads as it did. -/
def patienceRowUptoRow : OpenClaim := { program := "ytdilmgcdebobaaa", sum := "cd3c8b814a8f5cefda4ced564775923c62df4de0668c087c46a08dca6dece206", func := "selvage/selvagelaw08.PatienceRow", spec := "patienceRow", unfollowed := true, recurses := true, apart := false, narrowed := true }
def PatienceRowUptoSaid : Prop := patienceRowUptoRow.holds Try.pinned (OpenSpec.upto patienceRowSpec)

/-- 'selvagelaw08.PatienceDiffs', WHERE WHAT IT READS IS OF BULK AT MOST 1048576: true; the input reads as it did. -/
def patienceDiffsUptoRow : OpenClaim := { program := "ytdilmgcdebobaaa", sum := "cd3c8b814a8f5cefda4ced564775923c62df4de0668c087c46a08dca6dece206", func := "selvage/selvagelaw08.PatienceDiffs", spec := "patienceDiffs", unfollowed := true, recurses := true, apart := false, narrowed := true }
def PatienceDiffsUptoSaid : Prop := patienceDiffsUptoRow.holds Try.pinned (OpenSpec.upto patienceDiffsSpec)

/-- 'selvagelaw08.PatienceLeast', WHERE WHAT IT READS IS OF BULK AT MOST 1048576: true; the input reads as it did. -/
def patienceLeastUptoRow : OpenClaim := { program := "ytdilmgcdebobaaa", sum := "cd3c8b814a8f5cefda4ced564775923c62df4de0668c087c46a08dca6dece206", func := "selvage/selvagelaw08.PatienceLeast", spec := "patienceLeast", unfollowed := true, recurses := true, apart := false, narrowed := true }
def PatienceLeastUptoSaid : Prop := patienceLeastUptoRow.holds Try.pinned (OpenSpec.upto patienceLeastSpec)

/-- 'selvagelaw08.PatienceOwn', WHERE WHAT IT READS IS OF BULK AT MOST 1048576: true; the input reads as it did. -/
def patienceOwnUptoRow : OpenClaim := { program := "ytdilmgcdebobaaa", sum := "cd3c8b814a8f5cefda4ced564775923c62df4de0668c087c46a08dca6dece206", func := "selvage/selvagelaw08.PatienceOwn", spec := "patienceOwn", unfollowed := true, recurses := true, apart := false, narrowed := true }
def PatienceOwnUptoSaid : Prop := patienceOwnUptoRow.holds Try.pinned (OpenSpec.upto patienceOwnSpec)

end Rows
end Go.Proofs.Ytdilmgcdebobaaa
