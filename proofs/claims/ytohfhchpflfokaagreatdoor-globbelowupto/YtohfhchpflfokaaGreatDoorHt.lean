/-
  What the law GlobBelow meets: Read, Ignored, Escape, works, in one form.
-/
import Derived.Test.YtohfhchpflfokaaGreatDoorHs
import Derived.Test.YtohfhchpflfokaaGreatDoorGw
import Derived.Test.YtohfhchpflfokaaGreatDoorGk
namespace Go.Proofs.YtohfhchpflfokaaGreatDoor
open Go.RowKit

def Big (rs : List Ru) : Prop := Fits rs ∧ rs.length ≤ 100000000
def St (w W : World) : Prop := ErrVar W ∧ MaxVar W ∧ Below w.heap.size w W
theorem St.next {w W W' : World} (h : St w W) (hb : Below W.heap.size W W') : St w W' := ⟨h.1.below hb, h.2.1.below hb, h.2.2.trans (hb.mono h.2.2.size)⟩
def At (W : World) (br : Nat) (rs : List Ru) : Prop := RulesAt W br rs ∧ Big rs
theorem At.next {W W' : World} {br : Nat} {rs : List Ru} (h : At W br rs) (hb : Below W.heap.size W W') : At W' br rs := ⟨h.1.later hb, h.2⟩
theorem ig_st {w W : World} {br : Nat} {rs : List Ru} (hS : St w W) (h : At W br rs) (p : ByteArray) (dir : Bool) (hp : p.size ≤ 10000000) :
    Calls Tryz.prog 8 #[.pointer (some ⟨br, 0, none⟩), .string p, .bool dir] W fun e w' => e = .returned (.bool (igP rs p.data.toList dir)) ∧ Below W.heap.size W w' :=
  ignored_any p dir h.1 h.2.1 hp h.2.2 hS.2.1
theorem read_st {w W : World} (hS : St w W) (x : ByteArray) (xs : List Ru) (hx : rul x.data.toList = some xs) (hl : x.size ≤ 4194304) :
    Calls Tryz.prog 5 #[.string x] W fun e w' => ∃ b2, e = .returned (.tuple #[.pointer (some ⟨b2, 0, none⟩), .int .i64 0, .nilIface]) ∧ At w' b2 xs ∧ Below W.heap.size W w' := by
  refine (read_any x W hl hS.2.1).mono ?_
  rintro e w' ⟨hP, hb⟩
  have hr := rul_read x.data.toList
  rcases hP with ⟨k, n, h1, _⟩ | ⟨rs, br, h1, h2, h3⟩
  · rw [h1] at hr
    simp only at hr
    rw [hx] at hr; cases hr
  · rw [h1] at hr
    simp only at hr
    rw [hx] at hr
    cases hr
    obtain ⟨f1, f2⟩ := rul_fit (by rw [size_data]; omega) hx
    rw [size_data] at f2
    exact ⟨br, h2, ⟨h3, f1, by omega⟩, hb⟩
theorem read_bad {w W : World} (hS : St w W) (x : ByteArray) (hx : rul x.data.toList = none) (hl : x.size ≤ 4194304) :
    Calls Tryz.prog 5 #[.string x] W fun e w' => ∃ k n : Nat, e = .returned (.tuple #[.pointer none, .int .i64 k, .iface 39 (.int .i64 n)]) ∧ Below W.heap.size W w' := by
  refine (read_any x W hl hS.2.1).mono ?_
  rintro e w' ⟨hP, hb⟩
  have hr := rul_read x.data.toList
  rcases hP with ⟨k, n, h1, _, h2⟩ | ⟨rs, br, h1, h2, h3⟩
  · exact ⟨k, n, h2, hb⟩
  · rw [h1] at hr
    simp only at hr
    rw [hx] at hr; cases hr
theorem works_st {w W : World} (hS : St w W) : Calls Tryz.prog 10 #[] W fun e w' => e = .returned (.bool true) ∧ Below w.heap.size w w' :=
  (works_any W hS.1).mono fun _ _ ⟨h, hb⟩ => ⟨h, hS.2.2.trans (hb.mono hS.2.2.size)⟩
end Go.Proofs.YtohfhchpflfokaaGreatDoor
