/-
  The law's sure.
-/
import Derived.Test.YtmomeemkdfoklaaDoorZb
import Derived.Test.YtmomeemkdfoklaaDoorZh
import Derived.Test.YtmomeemkdfoklaaDoorZd
import Derived.Test.YtmomeemkdfoklaaDoorGrNum
namespace Go.Proofs.YtmomeemkdfoklaaDoor
open Go.RowKit
open Ed (Ch Run Pr)

theorem sr_fit : fitN [⟨1, 1, 1, 0⟩] [1, 2, 2, 3] [1, 2, 3] = 0 := by decide
theorem sr_slid : slA [⟨1, 1, 1, 0⟩] [1, 2, 2, 3] [1, 2, 3] = [⟨2, 1, 2, 0⟩] := by decide
theorem sr_bad : fitN [⟨1, 0, 0, 0⟩] [] [] = 60 := by decide
theorem sr_val : Ed.validN [⟨0, 1, 0, 0⟩, ⟨2, 1, 1, 0⟩] 3 1 = 0 := by decide
theorem sr_blank : blA [⟨0, 1, 0, 0⟩, ⟨2, 1, 1, 0⟩] [⟨#[32, 10]⟩, ⟨#[97, 10]⟩, ⟨#[98, 10]⟩] [⟨#[97, 10]⟩] = [⟨2, 1, 1, 0⟩] := by decide
theorem three (w : World) (A B C : Obj) : Below w.heap.size w (((w.alloc A).alloc B).alloc C) ∧ (((w.alloc A).alloc B).alloc C).heap[w.heap.size]? = some A ∧ (((w.alloc A).alloc B).alloc C).heap[w.heap.size + 1]? = some B ∧ (((w.alloc A).alloc B).alloc C).heap[w.heap.size + 1 + 1]? = some C := by
  have h1 := (Below.refl w.heap.size w).alloc (Nat.le_refl _) A
  have h2 := h1.alloc (by simp) B
  have h3 := h2.alloc (by simp; omega) C
  have k2 : Below (w.heap.size + 1) (w.alloc A) (((w.alloc A).alloc B).alloc C) := ((Below.refl _ _).alloc (by simp) B).alloc (by simp) C
  have k3 : Below (w.heap.size + 1 + 1) ((w.alloc A).alloc B) (((w.alloc A).alloc B).alloc C) := (Below.refl _ _).alloc (by simp) C
  refine ⟨h3, (k2.block _ (by omega)).trans (heap_alloc_new w A), (k3.block _ (by omega)).trans ?_, ?_⟩
  · have := heap_alloc_new (w.alloc A) B
    simpa using this
  · have := heap_alloc_new ((w.alloc A).alloc B) C
    simpa using this
set_option maxHeartbeats 4000000 in
set_option maxRecDepth 100000 in
theorem sure9_any (w : World) (hg : ErrVar w) : Calls Tryd.prog 7 #[] w fun e w' => e = .returned (.bool true) ∧ Below w.heap.size w w' := by
  have HG := hid hg
  clear hg
  have h3 := three w (.cells #[.int .i64 1, .int .i64 1, .int .i64 1, .int .i64 0] 42) (.cells #[.int .i64 1, .int .i64 2, .int .i64 2, .int .i64 3] 3) (.cells #[.int .i64 1, .int .i64 2, .int .i64 3] 3)
  go_enter Tryd.func7, Tryd.ntmps7
  go_wp2_with fail
  generalize (((w.alloc (.cells #[.int .i64 1, .int .i64 1, .int .i64 1, .int .i64 0] 42)).alloc (.cells #[.int .i64 1, .int .i64 2, .int .i64 2, .int .i64 3] 3)).alloc (.cells #[.int .i64 1, .int .i64 2, .int .i64 3] 3)) = w0 at h3 ⊢
  obtain ⟨hb0, l1, l2, l3⟩ := h3
  have HC1 := hid (slide_all (s := [⟨1, 1, 1, 0⟩]) (a := [1, 2, 2, 3]) (b := [1, 2, 3]) (lit_rd (cs := csC [⟨1, 1, 1, 0⟩]) l1) (fun c hc => by simp at hc; rw [hc]; unfold WfC I64; simp) (by decide) (lit_rd (cs := isC [1, 2, 2, 3]) l2) (lit_rd (cs := isC [1, 2, 3]) l3))
  rw [sr_fit, sr_slid, errV_zero] at HC1
  have HB0 := hid hb0
  clear hb0 l1 l2 l3
  refine HC1.out.mono ?_
  rintro e w1 ⟨v1, rfl, hR1, hb1⟩
  have HR1 := hid hR1
  have HB1 := hid (HB0.out.trans (hb1.mono HB0.out.size))
  obtain ⟨a1, c1, rfl⟩ := hR1.shape
  clear hR1 hb1 HC1 HB0
  have hbA := (Below.refl w1.heap.size w1).alloc (Nat.le_refl _) (.cells #[.int .i64 1, .int .i64 0, .int .i64 0, .int .i64 0] 42)
  have hA := heap_alloc_new w1 (.cells #[.int .i64 1, .int .i64 0, .int .i64 0, .int .i64 0] 42)
  go_wp2_with fail
  generalize (w1.alloc (.cells #[.int .i64 1, .int .i64 0, .int .i64 0, .int .i64 0] 42)) = wa at hbA hA ⊢
  have HC2 := hid (slide_all (s := [⟨1, 0, 0, 0⟩]) (a := []) (b := []) (lit_rd (cs := csC [⟨1, 0, 0, 0⟩]) hA) (fun c hc => by simp at hc; rw [hc]; unfold WfC I64; simp) (by decide) (va := .slice none 0 0) (vb := .slice none 0 0) (.inl ⟨rfl, none, 0, rfl⟩) (.inl ⟨rfl, none, 0, rfl⟩))
  rw [sr_bad] at HC2
  have HBa := hid (HB1.out.trans (hbA.mono HB1.out.size))
  have HRa := hid (HR1.out.below hbA)
  clear hbA hA HB1 HR1
  refine HC2.out.mono ?_
  rintro e w2 ⟨v2, rfl, hR2, hb2⟩
  have HB2 := hid (HBa.out.trans (hb2.mono HBa.out.size))
  have HR2 := hid (HRa.out.below hb2)
  clear hR2 hb2 HC2 HBa HRa
  have h3 := three w2 (.cells #[.int .i64 0, .int .i64 1, .int .i64 0, .int .i64 0, .int .i64 2, .int .i64 1, .int .i64 1, .int .i64 0] 42) (.cells #[.string ⟨#[32, 10]⟩, .string ⟨#[97, 10]⟩, .string ⟨#[98, 10]⟩] 9) (.cells #[.string ⟨#[97, 10]⟩] 9)
  go_wp2_with fail
  generalize (((w2.alloc (.cells #[.int .i64 0, .int .i64 1, .int .i64 0, .int .i64 0, .int .i64 2, .int .i64 1, .int .i64 1, .int .i64 0] 42)).alloc (.cells #[.string ⟨#[32, 10]⟩, .string ⟨#[97, 10]⟩, .string ⟨#[98, 10]⟩] 9)).alloc (.cells #[.string ⟨#[97, 10]⟩] 9)) = w3 at h3 ⊢
  obtain ⟨hb3, l1, l2, l3⟩ := h3
  have HC3 := hid (blanks_all (s := [⟨0, 1, 0, 0⟩, ⟨2, 1, 1, 0⟩]) (a := [⟨#[32, 10]⟩, ⟨#[97, 10]⟩, ⟨#[98, 10]⟩]) (b := [⟨#[97, 10]⟩]) (lit_rd (cs := csC [⟨0, 1, 0, 0⟩, ⟨2, 1, 1, 0⟩]) l1) (fun c hc => by simp at hc; rcases hc with h | h <;> (rw [h]; unfold WfC I64; simp)) (by decide) (lit_rd (cs := [.string ⟨#[32, 10]⟩, .string ⟨#[97, 10]⟩, .string ⟨#[98, 10]⟩]) l2) (lit_rd (cs := [.string ⟨#[97, 10]⟩]) l3) (fun x hx => by simp at hx; rcases hx with h | h | h <;> (rw [h]; decide)) (fun x hx => by simp at hx; rw [hx]; decide))
  rw [sr_blank] at HC3
  have HZ3 : Hid (errV (Ed.validN [⟨0, 1, 0, 0⟩, ⟨2, 1, 1, 0⟩] (([⟨#[32, 10]⟩, ⟨#[97, 10]⟩, ⟨#[98, 10]⟩] : List ByteArray).length : Nat) (([⟨#[97, 10]⟩] : List ByteArray).length : Nat)) = .nilIface) := hid (by
    have h := sr_val
    exact (congrArg errV h).trans errV_zero)
  rw [HZ3.out] at HC3
  have HB3 := hid (HB2.out.trans (hb3.mono HB2.out.size))
  have HR3 := hid (HR2.out.below hb3)
  clear hb3 l1 l2 l3 HB2 HR2 HZ3
  refine HC3.out.mono ?_
  rintro e w4 ⟨v4, rfl, hR4, hb4⟩
  have HB4 := hid (HB3.out.trans (hb4.mono HB3.out.size))
  have HR4 := hid (HR3.out.below hb4)
  have HT4 := hid hR4
  obtain ⟨a4, c4, rfl⟩ := hR4.shape
  clear hb4 hR4 HB3 HR3 HC3
  obtain ⟨tb, tq, htb, _, q0, q1, q2, q3⟩ := rdC_at HR4.out (k := 0) (x := ⟨2, 1, 2, 0⟩) rfl
  subst htb
  simp only [Nat.zero_mul, Nat.add_zero] at q0 q1 q2 q3
  go_wp2_with fail
  refine (num_any 60 _ (HG.out.below HB4.out)).mono ?_
  rintro e w5 ⟨rfl, hb5⟩
  have HB5 := hid (HB4.out.trans (hb5.mono HB4.out.size))
  obtain ⟨ub, uq, hub, _, r0, _, _, _⟩ := rdC_at (HT4.out.below hb5) (k := 0) (x := ⟨2, 1, 1, 0⟩) rfl
  subst hub
  simp only [Nat.zero_mul, Nat.add_zero] at r0
  clear hb5 HB4 HT4 HR4
  go_wp2
  go_ret
  exact ⟨rfl, HB5.out⟩
end Go.Proofs.YtmomeemkdfoklaaDoor
