/-
  What the laws SidePrints, SideCuts, SideFits end with: the program at one input.
-/
import Derived.Test.YtjgjfnmljmmplaaDoorSl
import Derived.Test.YtjgjfnmljmmplaaDoorNum
import Derived.Test.YtjgjfnmljmmplaaDoorHandle
namespace Go.Proofs.YtjgjfnmljmmplaaDoor
namespace Sy
open Go.RowKit
open Ed (Ch)

theorem wf_range {n : Int} (h : (Lit.int .i64 n).wf = true) : -9223372036854775808 ≤ n ∧ n ≤ 9223372036854775807 := by
  simp only [Lit.wf, Bool.and_eq_true, decide_eq_true_eq] at h
  exact h
theorem rdX_blk {w : World} {b n : Nat} {t : TypeId} {cs : Array Value} (h : w.heap[b]? = some (.cells cs t)) : RdX w (.slice (some ⟨b, 0, none⟩) n n) n cs.toList :=
  .inr ⟨b, 0, n, rfl, Nat.le_refl _, lt_of_heap h, fun j u hj => by rw [Nat.zero_add, cell_of_blk h j, ← Array.getElem?_toList]; exact hj⟩
theorem sure_norm : Ed.normal [⟨1, 1, 1, 1⟩] 2 2 = [⟨1, 1, 1, 1⟩] := by decide +kernel
theorem sure_text : prT (colH 13) (colS 13) [⟨#[97, 10]⟩, ⟨#[97, 98, 10]⟩] [⟨#[97, 10]⟩, ⟨#[99, 100, 10]⟩] [⟨1, 1, 1, 1⟩] 0 0 = [97, 32, 32, 32, 32, 32, 32, 32, 97, 10, 97, 98, 32, 32, 32, 32, 124, 32, 99, 100, 10] := by decide +kernel
theorem sure_cut : Sd.cutT (frm 0) 9 [] (Sd.bare (ByteArray.mk #[9, 120, 10]).data.toList) = [32, 32, 32, 32, 32, 32, 32, 32, 120] := by decide +kernel
set_option maxHeartbeats 4000000 in
set_option maxRecDepth 100000 in
theorem sure_any (w : World) (hg : ErrVar w) : Calls Tryd.prog 11 #[] w fun e w' => e = .returned (.bool true) ∧ Below w.heap.size w w' := by
  have HI : Hid (∀ w1 : World, Calls Tryd.prog 6 #[.slice (some ⟨w1.heap.size, 0, none⟩) 1 1, .slice (some ⟨w1.heap.size + 1, 0, none⟩) 2 2, .slice (some ⟨w1.heap.size + 1 + 1, 0, none⟩) 2 2, .int .i64 13] (((w1.alloc (.cells #[.int .i64 1, .int .i64 1, .int .i64 1, .int .i64 1] 45)).alloc (.cells #[.string ⟨#[97, 10]⟩, .string ⟨#[97, 98, 10]⟩] 9)).alloc (.cells #[.string ⟨#[97, 10]⟩, .string ⟨#[99, 100, 10]⟩] 9)) fun e w' => e = .returned (.tuple #[.string ⟨#[97, 32, 32, 32, 32, 32, 32, 32, 97, 10, 97, 98, 32, 32, 32, 32, 124, 32, 99, 100, 10]⟩, .nilIface]) ∧ Below w1.heap.size w1 w') := hid (fun w1 => by
    have b1 := (Below.refl w1.heap.size w1).alloc (Nat.le_refl _) (.cells #[.int .i64 1, .int .i64 1, .int .i64 1, .int .i64 1] 45)
    have h1 := heap_alloc_new w1 (.cells #[.int .i64 1, .int .i64 1, .int .i64 1, .int .i64 1] 45)
    have z1 : (w1.alloc (.cells #[.int .i64 1, .int .i64 1, .int .i64 1, .int .i64 1] 45)).heap.size = w1.heap.size + 1 := by simp
    generalize w1.alloc (.cells #[.int .i64 1, .int .i64 1, .int .i64 1, .int .i64 1] 45) = w2 at b1 h1 z1 ⊢
    have b2 := (Below.refl w2.heap.size w2).alloc (Nat.le_refl _) (.cells #[.string ⟨#[97, 10]⟩, .string ⟨#[97, 98, 10]⟩] 9)
    have h2 := heap_alloc_new w2 (.cells #[.string ⟨#[97, 10]⟩, .string ⟨#[97, 98, 10]⟩] 9)
    have z2 : (w2.alloc (.cells #[.string ⟨#[97, 10]⟩, .string ⟨#[97, 98, 10]⟩] 9)).heap.size = w2.heap.size + 1 := by simp
    generalize w2.alloc (.cells #[.string ⟨#[97, 10]⟩, .string ⟨#[97, 98, 10]⟩] 9) = w3 at b2 h2 z2 ⊢
    have b3 := (Below.refl w3.heap.size w3).alloc (Nat.le_refl _) (.cells #[.string ⟨#[97, 10]⟩, .string ⟨#[99, 100, 10]⟩] 9)
    have h3 := heap_alloc_new w3 (.cells #[.string ⟨#[97, 10]⟩, .string ⟨#[99, 100, 10]⟩] 9)
    generalize w3.alloc (.cells #[.string ⟨#[97, 10]⟩, .string ⟨#[99, 100, 10]⟩] 9) = w4 at b3 h3 ⊢
    have bb : Below w1.heap.size w1 w4 := (b1.trans (b2.mono b1.size)).trans (b3.mono (by omega))
    rw [z2, z1] at h3
    rw [z1] at h2
    have h2' := (b3.block _ (by omega)).trans h2
    have h1' := (b3.block _ (by omega)).trans ((b2.block _ (by omega)).trans h1)
    refine (print_ok (wd := 13) (s := [⟨1, 1, 1, 1⟩]) (A := [⟨#[97, 10]⟩, ⟨#[97, 98, 10]⟩]) (M := [⟨#[97, 10]⟩, ⟨#[99, 100, 10]⟩]) (rdX_blk h1') ?_ ⟨by decide +kernel, by decide +kernel, by decide +kernel⟩ (rdX_blk h2') (rdX_blk h3) ?_ ?_ (by decide +kernel) (by decide +kernel) (by decide +kernel)).mono ?_
    · intro c hc
      rw [List.mem_singleton.1 hc]
      unfold WfC I64
      decide
    · intro x hx
      rcases List.mem_cons.1 hx with rfl | hx
      · decide
      · rw [List.mem_singleton.1 hx]; decide
    · intro x hx
      rcases List.mem_cons.1 hx with rfl | hx
      · decide
      · rw [List.mem_singleton.1 hx]; decide
    · rintro e w' ⟨rfl, hb⟩
      refine ⟨?_, bb.trans (hb.mono bb.size)⟩
      show Ending.returned (.tuple #[.string (bB (prT (colH 13) (colS 13) _ _ (Ed.normal [⟨1, 1, 1, 1⟩] 2 2) 0 0)), .nilIface]) = _
      rw [sure_norm, sure_text]
      rfl)
  have HC1 := hid (fun w1 => cols_any 13 w1)
  have HC2 := hid (fun w1 => cols_any 6 w1)
  rw [show colH 13 = 5 by decide +kernel, show colS 13 = 8 by decide +kernel, show colE 13 = 0 by decide +kernel, show errV 0 = .nilIface from rfl] at HC1
  rw [show colH 6 = 0 by decide +kernel, show colS 6 = 0 by decide +kernel, show colE 6 = 1 by decide +kernel, show errV 1 = .iface 50 (.int .i64 1) from rfl] at HC2
  have HCU := hid (fun w1 => cut_any ⟨#[9, 120, 10]⟩ 0 9 w1 (by decide) (by decide) (by decide))
  rw [sure_cut, show bB [32, 32, 32, 32, 32, 32, 32, 32, 120] = ⟨#[32, 32, 32, 32, 32, 32, 32, 32, 120]⟩ from rfl, show ((List.length [32, 32, 32, 32, 32, 32, 32, 32, (120 : UInt8)] : Nat) : Int) = 9 from rfl] at HCU
  have HG := hid (fun w1 (h1 : Below w.heap.size w w1) => num_errno 1 w1 (hg.below h1))
  clear hg
  go_enter Tryd.func11, Tryd.ntmps11
  go_wp2_with fail
  refine (HI.out w).mono ?_
  rintro e w1 ⟨rfl, hb1⟩
  have HB1 := hid hb1
  clear hb1 HI
  go_wp2_with fail
  refine (HC1.out w1).mono ?_
  rintro e w2 ⟨rfl, hb2⟩
  have HB2 := hid (HB1.out.trans (hb2.mono HB1.out.size))
  clear hb2 HC1 HB1
  rw [show ((5 : Nat) : Int) = 5 from rfl, show ((8 : Nat) : Int) = 8 from rfl]
  go_wp2_with fail
  refine (HC2.out w2).mono ?_
  rintro e w3 ⟨rfl, hb3⟩
  have HB3 := hid (HB2.out.trans (hb3.mono HB2.out.size))
  clear hb3 HC2 HB2
  go_wp2_with fail
  refine (HCU.out w3).mono ?_
  rintro e w4 ⟨rfl, hb4⟩
  have HB4 := hid (HB3.out.trans (hb4.mono HB3.out.size))
  clear hb4 HCU HB3
  go_wp2_with fail
  refine (HG.out w4 HB4.out).mono ?_
  rintro e w5 ⟨rfl, hb5⟩
  have HB5 := hid (HB4.out.trans (hb5.mono HB4.out.size))
  clear hb5 HG HB4
  go_wp2_with fail
  go_ret
  exact ⟨rfl, HB5.out⟩
end Sy
end Go.Proofs.YtjgjfnmljmmplaaDoor
