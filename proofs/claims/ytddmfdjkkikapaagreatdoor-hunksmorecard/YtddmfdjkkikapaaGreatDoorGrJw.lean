/-
  Several texts in one: C6, Jw.
-/
import Derived.Test.YtddmfdjkkikapaaGreatDoorGrC4
import Derived.Test.YtddmfdjkkikapaaGreatDoorGrAs
import Derived.Test.YtddmfdjkkikapaaGreatDoorGrJd
import Derived.Test.YtddmfdjkkikapaaGreatDoorJ7
import Derived.Test.YtddmfdjkkikapaaGreatDoorGrJr
/-
  The walks of sameInts and works.
-/
namespace Go.Proofs.YtddmfdjkkikapaaGreatDoor
open Go.RowKit
open Ed (Ch Run Pr)

theorem num_any (n : Nat) (w : World) (hg : ErrVar w) : Calls Tryz.prog 20 #[errV n] w fun e w' => e = .returned (.int .i64 n) ∧ Below w.heap.size w w' := by
  unfold errV
  split
  · next h => subst h; exact num_nil w
  · exact num_errno n w hg
theorem eq_at {l m : List Int} (hl : l.length = m.length) (h : ∀ (k : Nat) x, l[k]? = some x → m[k]? = some x) : l = m := by
  apply List.ext_getElem?
  intro k
  cases hk : l[k]? with
  | some x => rw [h k x hk]
  | none =>
    have : l.length ≤ k := List.getElem?_eq_none_iff.1 hk
    rw [List.getElem?_eq_none (by omega)]

def wkS : List Ch := [⟨0, 1, 0, 0⟩, ⟨1, 0, 0, 2⟩]
theorem wk_val : Ed.Val wkS 2 3 := ⟨by decide, by decide, by decide⟩
theorem wk_normal : Ed.normal wkS 2 3 = [⟨0, 1, 0, 2⟩] := by decide
theorem wk_apply : Ed.apP (Ed.runs wkS 2 0 0) [1, 2] [8, 9, 2] = [8, 9, 2] := by decide
theorem wk_bad : Ed.validN wkS 3 3 = 60 := by decide
theorem wk_good : Ed.validN wkS 2 3 = 0 := by decide
theorem wk_wf : ∀ c ∈ wkS, WfC c := by
  intro c hc
  unfold wkS at hc
  simp at hc
  rcases hc with rfl | rfl <;> (unfold WfC I64; simp)
theorem lit_rd {w : World} {g : Nat} {cs : List Value} {t : TypeId} {n : Nat} (h : w.heap[g]? = some (.cells cs.toArray t)) : RdX w (.slice (some ⟨g, 0, none⟩) n n) n cs :=
  .inr ⟨g, 0, n, rfl, Nat.le_refl _, lt_of_heap h, fun j u hj => by rw [Nat.zero_add, cell_of_blk h]; simpa using hj⟩

end Go.Proofs.YtddmfdjkkikapaaGreatDoor
/-
  The laws' works.
-/
namespace Go.Proofs.YtddmfdjkkikapaaGreatDoor
open Go.RowKit
open Hu (Rw Hk)
open Ed (Ch)

def wkA : List ByteArray := [⟨#[49, 10]⟩, ⟨#[50, 10]⟩, ⟨#[51, 10]⟩]
def wkB : List ByteArray := [⟨#[49, 10]⟩, ⟨#[120, 10]⟩, ⟨#[51, 10]⟩]
def wkR : List Rw := [⟨1, ⟨#[49, 10]⟩⟩, ⟨2, ⟨#[50, 10]⟩⟩, ⟨3, ⟨#[120, 10]⟩⟩, ⟨1, ⟨#[51, 10]⟩⟩]
def wkH : Hk := ⟨1, 3, 1, 3, ⟨#[]⟩, wkR⟩
def wk0 : Hk := ⟨0, 0, 0, 0, ⟨#[]⟩, []⟩
theorem wk_N : bldN [⟨1, 1, 1, 1⟩] wkA wkB 1 = 0 := by decide +kernel
theorem wk_A : bldA [⟨1, 1, 1, 1⟩] wkA wkB 1 = [wkH] := by kernel_rfl
theorem wk_V : vldN wkH = 0 := by decide +kernel
theorem wk_V0 : vldN wk0 = 100 := by decide +kernel
theorem wk_O : Hu.orderN [wkH] = 0 := by decide +kernel
theorem wk1_wf : ∀ c ∈ ([⟨1, 1, 1, 1⟩] : List Ch), WfC c := fun c hc => by simp at hc; rw [hc]; unfold WfC I64; simp
theorem wkA_sz : ∀ x ∈ wkA, x.size ≤ maxLen := fun x hx => by unfold wkA at hx; simp at hx; rcases hx with h | h | h <;> (rw [h]; decide)
theorem wkB_sz : ∀ x ∈ wkB, x.size ≤ maxLen := fun x hx => by unfold wkB at hx; simp at hx; rcases hx with h | h | h <;> (rw [h]; decide)
theorem wkH_sz : SzH wkH := ⟨by decide, fun r hr => by unfold wkH wkR at hr; simp at hr; rcases hr with h | h | h | h <;> (rw [h]; decide), by decide⟩
theorem wk0_sz : SzH wk0 := ⟨by decide, fun r hr => by unfold wk0 at hr; simp at hr, by decide⟩
theorem lit_rdJ {w : World} {g : Nat} {cs : List Value} {t : TypeId} {n : Nat} (h : w.heap[g]? = some (.cells cs.toArray t)) : RdX w (.slice (some ⟨g, 0, none⟩) n n) n cs := by
  refine .inr ⟨g, 0, n, rfl, Nat.le_refl _, lt_of_heap h, fun j u hj => ?_⟩
  rw [Nat.zero_add, cell_of_blk h]
  simpa using hj
theorem three (w : World) (A B C : Obj) : Below w.heap.size w (((w.alloc A).alloc B).alloc C) ∧ (((w.alloc A).alloc B).alloc C).heap[w.heap.size]? = some A ∧ (((w.alloc A).alloc B).alloc C).heap[w.heap.size + 1]? = some B ∧ (((w.alloc A).alloc B).alloc C).heap[w.heap.size + 1 + 1]? = some C := by
  have h1 := (Below.refl w.heap.size w).alloc (Nat.le_refl _) A
  have h2 := h1.alloc (by simp) B
  have h3 := h2.alloc (by simp; omega) C
  have k2 : Below (w.heap.size + 1) (w.alloc A) (((w.alloc A).alloc B).alloc C) := ((Below.refl _ _).alloc (by simp) B).alloc (by simp) C
  have k3 : Below (w.heap.size + 1 + 1) ((w.alloc A).alloc B) (((w.alloc A).alloc B).alloc C) := (Below.refl _ _).alloc (by simp) C
  refine ⟨h3, (k2.block _ (by omega)).trans (heap_alloc_new w A), (k3.block _ (by omega)).trans ?_, ?_⟩
  · have := heap_alloc_new (w.alloc A) B
    simpa using this
  · have := heap_alloc_new ((w.alloc A).alloc B) C
    simpa using this
set_option maxHeartbeats 4000000 in
set_option maxRecDepth 100000 in
theorem works_any (w : World) (hg : ErrVar w) : Calls Tryz.prog 10 #[] w fun e w' => e = .returned (.bool true) ∧ Below w.heap.size w w' := by
  have HG := hid hg
  clear hg
  have h3 := three w (.cells #[.string ⟨#[49, 10]⟩, .string ⟨#[50, 10]⟩, .string ⟨#[51, 10]⟩] 9) (.cells #[.string ⟨#[49, 10]⟩, .string ⟨#[120, 10]⟩, .string ⟨#[51, 10]⟩] 9) (.cells #[.int .i64 1, .int .i64 1, .int .i64 1, .int .i64 1] 42)
  go_enter Tryz.func10, Tryz.ntmps10
  go_wp2_with fail
  generalize (((w.alloc (.cells #[.string ⟨#[49, 10]⟩, .string ⟨#[50, 10]⟩, .string ⟨#[51, 10]⟩] 9)).alloc (.cells #[.string ⟨#[49, 10]⟩, .string ⟨#[120, 10]⟩, .string ⟨#[51, 10]⟩] 9)).alloc (.cells #[.int .i64 1, .int .i64 1, .int .i64 1, .int .i64 1] 42)) = w0 at h3 ⊢
  obtain ⟨hb0, l1, l2, l3⟩ := h3
  have HC1 := hid (build_any (s := [⟨1, 1, 1, 1⟩]) (a := wkA) (b := wkB) (ctx := 1) (lit_rdJ (cs := csC [⟨1, 1, 1, 1⟩]) l3) wk1_wf (by decide) (lit_rdJ (cs := stC wkA) l1) (lit_rdJ (cs := stC wkB) l2) (by decide) (by decide) wkA_sz wkB_sz)
  rw [wk_N, wk_A, errV_zero] at HC1
  have HB0 := hid hb0
  clear hb0 l1 l2 l3
  refine HC1.out.mono ?_
  rintro e w1 ⟨v1, rfl, hO1, hb1⟩
  obtain ⟨a1, c1, e1⟩ := hO1.shape
  subst e1
  have HR1 := hid hO1.rd
  have HB1 := hid (HB0.out.trans (hb1.mono HB0.out.size))
  clear hO1 hb1 HC1 HB0
  obtain ⟨b, o, u, rfl, hb, d0, d1, d2, d3, d4, d5, hu⟩ := rdH_at HR1.out (k := 0) (x := wkH) rfl
  obtain ⟨ua, uc, rfl⟩ := hu.shape
  obtain ⟨b2, o2, rfl, hb2, e0, e1⟩ := rdW_at hu (k := 1) (x := ⟨2, ⟨#[50, 10]⟩⟩) rfl
  have HU := hid hu
  simp only [List.length_cons, List.length_nil, Nat.zero_add, Nat.zero_mul, Nat.one_mul, Nat.add_zero] at d0 d1 d2 d3 d4 d5 e0 e1 ⊢
  have hrl : wkH.rows.length = 4 := rfl
  rw [hrl] at d5 HU
  have f0 : wkH.a = 1 := rfl
  have f1 : wkH.n = 3 := rfl
  have f2 : wkH.b = 1 := rfl
  have f3 : wkH.m = 3 := rfl
  have f4 : wkH.head = ⟨#[]⟩ := rfl
  rw [f0] at d0
  rw [f1] at d1
  rw [f2] at d2
  rw [f3] at d3
  rw [f4] at d4
  have HV := hid (fun w2 (h : Below w1.heap.size w1 w2) => hvalid_any (h := wkH) (HU.out.below h) wkH_sz)
  rw [wk_V, errV_zero] at HV
  have HV0 := hid (fun w2 => hvalid_any (w := w2) (h := wk0) (v := .slice none 0 0) (.inl ⟨rfl, none, 0, rfl⟩) wk0_sz)
  rw [wk_V0] at HV0
  have HOR := hid (fun w2 (h : Below w1.heap.size w1 w2) => order_any (HR1.out.below h) (by decide) (fun h hh => by simp at hh; rw [hh]; exact wkH_sz))
  rw [wk_O, errV_zero] at HOR
  unfold HkV at HV HV0
  simp only [List.length_cons, List.length_nil, Nat.zero_add] at HOR
  clear hu hrl f0 f1 f2 f3 f4 hb hb2
  simp only [show wkH.a = 1 from rfl, show wkH.n = 3 from rfl, show wkH.b = 1 from rfl, show wkH.m = 3 from rfl, show wkH.head = ⟨#[]⟩ from rfl] at HV
  simp only [show wk0.a = 0 from rfl, show wk0.n = 0 from rfl, show wk0.b = 0 from rfl, show wk0.m = 0 from rfl, show wk0.head = ⟨#[]⟩ from rfl] at HV0
  go_wp2_with fail
  refine (HV.out w1 (Below.refl _ _)).mono ?_
  rintro e w2 ⟨rfl, h2⟩
  have HB2 := hid h2
  clear h2
  go_wp2_with fail
  refine (HV0.out w2).mono ?_
  rintro e w3 ⟨rfl, h3⟩
  have HB3 := hid (HB2.out.trans (h3.mono HB2.out.size))
  have HW3 := hid (HB1.out.trans (HB3.out.mono HB1.out.size))
  clear h3 HB2
  go_wp2_with fail
  refine (num_any 100 w3 (HG.out.below HW3.out)).mono ?_
  rintro e w4 ⟨rfl, h4⟩
  have HB4 := hid (HB3.out.trans (h4.mono HB3.out.size))
  clear h4 HB3 HW3
  go_wp2_with fail
  refine (HOR.out w4 HB4.out).mono ?_
  rintro e w5 ⟨rfl, h5⟩
  have HB5 := hid (HB1.out.trans ((HB4.out.trans (h5.mono HB4.out.size)).mono HB1.out.size))
  clear h5 HB4
  have hbn := (Below.refl w5.heap.size w5).alloc (Nat.le_refl _) (.cells #[.string ⟨#[102, 32, 123, 10]⟩] 9)
  have hkn := heap_alloc_new w5 (.cells #[.string ⟨#[102, 32, 123, 10]⟩] 9)
  have HH := hid (head_f (lit_rdJ (cs := stC [⟨#[102, 32, 123, 10]⟩]) hkn))
  have HB6 := hid (HB5.out.trans (hbn.mono HB5.out.size))
  simp only [List.length_cons, List.length_nil, Nat.zero_add] at HH
  clear hbn hkn
  go_wp2_with fail
  refine HH.out.mono ?_
  rintro e w6 ⟨rfl, h6⟩
  have HB7 := hid (HB6.out.trans (h6.mono HB6.out.size))
  clear h6
  go_wp2_with fail
  go_ret
  exact ⟨rfl, HB7.out⟩
end Go.Proofs.YtddmfdjkkikapaaGreatDoor
