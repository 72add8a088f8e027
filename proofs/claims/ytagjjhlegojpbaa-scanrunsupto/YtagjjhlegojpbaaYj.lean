/-
  The law's sure.
-/
import Derived.Test.YtagjjhlegojpbaaYg
import Derived.Test.YtagjjhlegojpbaaYh
namespace Go.Proofs.Ytagjjhlegojpbaa
open Go.RowKit
open Ed (Ch Pr)

theorem sure_p1 : plc ⟨#[97, 98, 10, 99, 100]⟩ ⟨#[97, 98, 10, 120, 100]⟩ = [⟨4, 2, 99, 120⟩] := by decide +kernel
theorem sure_p2 : plc ⟨#[97, 98]⟩ ⟨#[97, 98, 99]⟩ = [] := by decide +kernel
theorem sure_p3 : (plc ⟨#[97, 98, 99]⟩ ⟨#[120, 98, 122]⟩).length = 2 := by decide +kernel
theorem sure_f1 : fstV ⟨#[97, 98, 10, 99, 100]⟩ ⟨#[97, 98, 10, 120, 100]⟩ = .tuple #[.agg #[.int .i64 4, .int .i64 2, .int .i64 99, .int .i64 120], .bool true, .int .i64 0] := by unfold fstV; rw [sure_p1]; rfl
theorem sure_f2 : fstV ⟨#[97, 98]⟩ ⟨#[97, 98, 99]⟩ = .tuple #[.agg #[.int .i64 0, .int .i64 0, .int .i64 0, .int .i64 0], .bool false, .int .i64 1] := by unfold fstV; rw [sure_p2]; rfl
theorem sure_s : shN 129 = ⟨#[77, 45, 94, 65]⟩ := by decide +kernel

set_option maxHeartbeats 2000000 in
set_option maxRecDepth 100000 in
theorem sure19_any (w : World) : Calls Try.prog 11 #[] w fun e w' => e = .returned (.bool true) ∧ Below w.heap.size w w' := by
  have HF1 : Hid (∀ w', Calls Try.prog 9 #[.string ⟨#[97, 98, 10, 99, 100]⟩, .string ⟨#[97, 98, 10, 120, 100]⟩] w' fun e w'' => e = .returned (.tuple #[.agg #[.int .i64 4, .int .i64 2, .int .i64 99, .int .i64 120], .bool true, .int .i64 0]) ∧ Below w'.heap.size w' w'') := hid fun w' => by
    have h := first_any ⟨#[97, 98, 10, 99, 100]⟩ ⟨#[97, 98, 10, 120, 100]⟩ w' (show (5 : Nat) ≤ 1099511627776 by omega) (show (5 : Nat) ≤ 1099511627776 by omega)
    rw [sure_f1] at h
    exact h
  have HF2 : Hid (∀ w', Calls Try.prog 9 #[.string ⟨#[97, 98]⟩, .string ⟨#[97, 98, 99]⟩] w' fun e w'' => e = .returned (.tuple #[.agg #[.int .i64 0, .int .i64 0, .int .i64 0, .int .i64 0], .bool false, .int .i64 1]) ∧ Below w'.heap.size w' w'') := hid fun w' => by
    have h := first_any ⟨#[97, 98]⟩ ⟨#[97, 98, 99]⟩ w' (show (2 : Nat) ≤ 1099511627776 by omega) (show (3 : Nat) ≤ 1099511627776 by omega)
    rw [sure_f2] at h
    exact h
  have HA : Hid (∀ w', Calls Try.prog 13 #[.string ⟨#[97, 98, 99]⟩, .string ⟨#[120, 98, 122]⟩, .int .i64 (-1)] w' fun e w'' => (∃ a c, e = .returned (.slice a 2 c)) ∧ Below w'.heap.size w' w'') := hid fun w' => by
    refine (all_any ⟨#[97, 98, 99]⟩ ⟨#[120, 98, 122]⟩ (-1) w' (show (3 : Nat) ≤ 1099511627776 by omega) (show (3 : Nat) ≤ 1099511627776 by omega)).mono ?_
    rintro e w'' ⟨v, rfl, hO, hb⟩
    obtain ⟨a, c, rfl⟩ := own_shape hO
    rw [Scn.mst_all, sure_p3]
    exact ⟨⟨_, _, rfl⟩, hb⟩
  have HS : Hid (∀ w', Calls Try.prog 15 #[.int .i64 129] w' fun e w'' => e = .returned (.string ⟨#[77, 45, 94, 65]⟩) ∧ w'' = w') := hid fun w' => by
    have h := show_any 129 w'
    rw [sure_s] at h
    exact h
  go_enter Try.func11, Try.ntmps11
  go_wp2_with fail
  refine (HF1.out w).mono ?_
  rintro e w1 ⟨rfl, hb1⟩
  have HB1 := hid hb1
  clear hb1 HF1
  go_wp2_with fail
  have HQ : Hid ((w1.alloc (.cells #[.int .i64 4, .int .i64 2, .int .i64 99, .int .i64 120] 23)).heap[w1.heap.size]? = some (.cells #[.int .i64 4, .int .i64 2, .int .i64 99, .int .i64 120] 23)) := hid (heap_alloc_new w1 _)
  have HB2 : Hid (Below w.heap.size w (w1.alloc (.cells #[.int .i64 4, .int .i64 2, .int .i64 99, .int .i64 120] 23))) := hid (HB1.out.trans ((Below.refl _ w1).alloc HB1.out.size _))
  obtain ⟨E, hE⟩ : ∃ E, E = w1.heap.size := ⟨_, rfl⟩
  rw [← hE] at HQ
  rw [← hE]
  generalize w1.alloc (.cells #[.int .i64 4, .int .i64 2, .int .i64 99, .int .i64 120] 23) = w2 at HQ HB2 ⊢
  clear hE
  refine (HF2.out w2).mono ?_
  rintro e w3 ⟨rfl, hb3⟩
  have HQ3 : Hid (w3.heap[E]? = _) := hid ((hb3.block E (lt_of_heap HQ.out)).trans HQ.out)
  have HB3 := hid (HB2.out.trans (hb3.mono HB2.out.size))
  clear hb3 HF2
  have HQ4 : Hid ((w3.alloc (.cells #[.int .i64 0, .int .i64 0, .int .i64 0, .int .i64 0] 23)).heap[E]? = _) := hid ((((Below.refl _ w3).alloc (Nat.le_refl _) _).block E (lt_of_heap HQ3.out)).trans HQ3.out)
  have HB4 : Hid (Below w.heap.size w (w3.alloc (.cells #[.int .i64 0, .int .i64 0, .int .i64 0, .int .i64 0] 23))) := hid (HB3.out.trans ((Below.refl _ w3).alloc HB3.out.size _))
  have c0 : (w3.alloc (.cells #[.int .i64 0, .int .i64 0, .int .i64 0, .int .i64 0] 23)).cell? ⟨E, 0, none⟩ = some (.int .i64 4) := cell_of_blk HQ4.out 0
  have c1 : (w3.alloc (.cells #[.int .i64 0, .int .i64 0, .int .i64 0, .int .i64 0] 23)).cell? ⟨E, 1, none⟩ = some (.int .i64 2) := cell_of_blk HQ4.out 1
  have c2 : (w3.alloc (.cells #[.int .i64 0, .int .i64 0, .int .i64 0, .int .i64 0] 23)).cell? ⟨E, 2, none⟩ = some (.int .i64 99) := cell_of_blk HQ4.out 2
  have c3 : (w3.alloc (.cells #[.int .i64 0, .int .i64 0, .int .i64 0, .int .i64 0] 23)).cell? ⟨E, 3, none⟩ = some (.int .i64 120) := cell_of_blk HQ4.out 3
  go_wp2_with fail
  generalize w3.alloc (.cells #[.int .i64 0, .int .i64 0, .int .i64 0, .int .i64 0] 23) = w4 at HB4 ⊢
  refine (HA.out w4).mono ?_
  rintro e w5 ⟨⟨a5, k5, rfl⟩, hb5⟩
  have HB5 := hid (HB4.out.trans (hb5.mono HB4.out.size))
  clear hb5
  go_wp2_with fail
  refine (HS.out w5).mono ?_
  rintro e w6 ⟨rfl, h6⟩
  obtain rfl := h6.symm
  go_wp2_with fail
  go_ret
  exact ⟨rfl, HB5.out⟩
end Go.Proofs.Ytagjjhlegojpbaa
