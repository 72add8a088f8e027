/-
  Unified diffs: the program's fault, format.
-/
import Derived.Test.YtkolgglllladfaaGreatDoorFn
import Derived.Laws.EntriesVeiled
namespace Go.Proofs.YtkolgglllladfaaGreatDoor
open Go.RowKit
open Hu (Rw Hk)

set_option maxHeartbeats 2000000 in
theorem format_any (w : World) : Calls Tryz.prog 14 #[] w fun e w' => e = .returned (.agg #[.string ⟨#[45, 45, 45, 32]⟩, .string ⟨#[43, 43, 43, 32]⟩, .func (.func 19) #[] #[], .func (.func 29) #[] #[], .func (.func 30) #[] #[]]) ∧ Below w.heap.size w w' := by
  have HB := hid ((Below.refl w.heap.size w).alloc (Nat.le_refl _) (.cells #[.string ⟨#[45, 45, 45, 32]⟩, .string ⟨#[43, 43, 43, 32]⟩, .func (.func 19) #[] #[], .func (.func 29) #[] #[], .func (.func 30) #[] #[]] 48))
  go_enter Tryz.func14, Tryz.ntmps14
  go_wp2_with fail
  exact bodyPost_ret (v := .agg #[.string ⟨#[45, 45, 45, 32]⟩, .string ⟨#[43, 43, 43, 32]⟩, .func (.func 19) #[] #[], .func (.func 29) #[] #[], .func (.func 30) #[] #[]]) (by simp [results, Tryz.results14, go_sem]) rfl ⟨rfl, HB.out⟩
set_option maxHeartbeats 2000000 in
theorem fault_any (c : Int) (t : TypeId) (u : Value) (w : World) : Calls Tryz.prog 77 #[.int .i64 c, .iface t u] w fun e w' => e = .returned (.tuple #[.agg #[.string ⟨#[]⟩, .string ⟨#[]⟩], .agg #[.string ⟨#[]⟩, .string ⟨#[]⟩], .slice none 0 0, .string ⟨#[]⟩, .int .i64 c, .iface t u]) ∧ Below w.heap.size w w' := by
  have HW := hid (twoF w (.cells #[.string ⟨#[]⟩, .string ⟨#[]⟩] 23) (.cells #[.string ⟨#[]⟩, .string ⟨#[]⟩] 23))
  go_enter Tryz.func77, Tryz.ntmps77
  go_wp2_with fail
  obtain ⟨hb, h1, h2⟩ := HW.out
  generalize (w.alloc (.cells #[.string ⟨#[]⟩, .string ⟨#[]⟩] 23)).alloc (.cells #[.string ⟨#[]⟩, .string ⟨#[]⟩] 23) = w2 at hb h1 h2 ⊢
  have y0 : w2.cell? ⟨w.heap.size, 0, none⟩ = some (.string ⟨#[]⟩) := cell_of_blk h1 0
  have y1 : w2.cell? ⟨w.heap.size, 1, none⟩ = some (.string ⟨#[]⟩) := cell_of_blk h1 1
  have z0 : w2.cell? ⟨w.heap.size + 1, 0, none⟩ = some (.string ⟨#[]⟩) := cell_of_blk h2 0
  have z1 : w2.cell? ⟨w.heap.size + 1, 1, none⟩ = some (.string ⟨#[]⟩) := cell_of_blk h2 1
  exact bodyPost_ret (v := .tuple #[.agg #[.string ⟨#[]⟩, .string ⟨#[]⟩], .agg #[.string ⟨#[]⟩, .string ⟨#[]⟩], .slice none 0 0, .string ⟨#[]⟩, .int .i64 c, .iface t u]) (by simp [results, Tryz.results77, go_sem, y0, y1, z0, z1]) rfl ⟨rfl, hb⟩
end Go.Proofs.YtkolgglllladfaaGreatDoor
