/-
  The program's pieces.
-/
import Derived.Test.YtnamioihapnefaaGreatDoorMf
import Derived.Test.YtnamioihapnefaaGreatDoorGrKc
import Derived.Test.YtnamioihapnefaaGreatDoorMc
namespace Go.Proofs.YtnamioihapnefaaGreatDoor
open Go.RowKit
open Hu (Rw Hk)

theorem mkH2 (n : Nat) (hn : n ≤ 4294967296) : ∃ C : Array Value, (∀ w : World, (Instr.makeSlice 22 (.int .i64 (n : Int)) (.int .i64 (n : Int))).run Tryz.prog w = .ok (.slice (some ⟨w.heap.size, 0, none⟩) n n) (w.alloc (.cells C 29))) ∧ ∀ w : World, OwnH (w.alloc (.cells C 29)) w.heap.size (.slice (some ⟨w.heap.size, 0, none⟩) n n) (List.replicate n zH) := ⟨_, fun w => mkH n hn w, fun w => ownH_made n hn w⟩
/-- a store into a block of another type -/
theorem ownH_far {w : World} {B q k : Nat} {v u : Value} {l : List Hk} {cs : Array Value} {t : TypeId} (h : OwnH w B v l) (hq : w.heap[q]? = some (.cells cs t)) (h1 : 29 ≠ t) (h2 : 63 ≠ t) : OwnH (w.setCell ⟨q, k, none⟩ u) B v l := by
  obtain ⟨p, e1, e2, e3⟩ := h
  refine ⟨p, e1, own_far e2 (fun j hj => set_other _ (fun e => own_ne e2 hq h1 (by rw [← e]; exact hj))), fun x hx => ?_⟩
  have e4 := e3 x hx
  exact own_far e4 (fun j hj => set_other _ (fun e => own_ne e4 hq h2 (by rw [← e]; exact hj)))
theorem ownH_cells {w : World} {B g n cap : Nat} {l : List Hk} (h : OwnH w B (.slice (some ⟨g, 0, none⟩) n cap) l) : ∃ cur : Array Value, w.heap[g]? = some (.cells cur 29) ∧ n * 6 ≤ cur.size ∧ n = l.length := by
  obtain ⟨p, h1, h2, h3⟩ := h
  obtain ⟨g1, ⟨hv, _⟩ | ⟨g', cap', cur, hv, hB, hh, hc, hm, hsz, htk⟩⟩ := h2
  · cases hv
  have hv2 : g = g' ∧ n = l.length ∧ cap = cap' := by
    simp only [Value.slice.injEq, Option.some.injEq, Addr.mk.injEq, and_true] at hv
    exact hv
  obtain ⟨rfl, rfl, rfl⟩ := hv2
  exact ⟨cur, hh, by rw [hsz]; exact Nat.mul_le_mul_right 6 hc, rfl⟩
theorem cell_there {w : World} {g o : Nat} {cs : Array Value} {t : TypeId} (h : w.heap[g]? = some (.cells cs t)) (ho : o < cs.size) : w.cell? ⟨g, o, none⟩ = some cs[o] := by
  rw [cell_of_blk h o]; exact Array.getElem?_eq_getElem ho
theorem alloc_one (w : World) (o : Obj) : (w.alloc o).heap.size = w.heap.size + 1 := World.size_alloc ..
end Go.Proofs.YtnamioihapnefaaGreatDoor
