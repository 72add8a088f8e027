/-
  The walk of eachRun: whatever the function does with each run, by what it keeps.
-/
import Derived.Test.YtagjjhlegojpbaaC1
namespace Go.Proofs.Ytagjjhlegojpbaa
open Go.RowKit
open Ed (Ch Run Pr)

def rV (r : Run) : Value := .agg #[.int .i64 r.1, .int .i64 r.2.1, .int .i64 r.2.2]
/-- a run within two texts -/
def RunB (n m : Int) (r : Run) : Prop := 0 ≤ r.1 ∧ 0 ≤ r.2.1 ∧ 0 < r.2.2 ∧ r.1 + r.2.2 ≤ n ∧ r.2.1 + r.2.2 ≤ m
/-- of what was there only these blocks may have changed -/
structure Kept (X : Nat → Prop) (w w' : World) : Prop where
  os : w'.os = w.os
  tape : w'.tape = w.tape
  output : w'.output = w.output
  size : w.heap.size ≤ w'.heap.size
  block : ∀ g, g < w.heap.size → ¬ X g → w'.heap[g]? = w.heap[g]?
theorem Kept.below {X : Nat → Prop} {w w' : World} {B : Nat} (h : Kept X w w') (hX : ∀ g, X g → B ≤ g) (hB : B ≤ w.heap.size) : Below B w w' :=
  ⟨h.os, h.tape, h.output, h.size, fun i hi => h.block i (by omega) (fun hx => by have := hX i hx; omega)⟩
theorem cell_of_blk {w : World} {g : Nat} {cs : Array Value} {t : TypeId} (h : w.heap[g]? = some (.cells cs t)) (o : Nat) : w.cell? ⟨g, o, none⟩ = cs[o]? := by
  simp [World.cell?, h]
theorem Kept.cell {X : Nat → Prop} {w w' : World} (h : Kept X w w') {g o : Nat} (hg : g < w.heap.size) (hx : ¬ X g) : w'.cell? ⟨g, o, none⟩ = w.cell? ⟨g, o, none⟩ := by
  unfold World.cell?
  rw [show (⟨g, o, none⟩ : Addr).block = g from rfl, h.block g hg hx]

end Go.Proofs.Ytagjjhlegojpbaa
