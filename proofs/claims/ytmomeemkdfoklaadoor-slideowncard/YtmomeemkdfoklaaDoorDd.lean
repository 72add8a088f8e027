/-
  The walk of Fits.
-/
import Derived.Test.YtmomeemkdfoklaaDoorDc
namespace Go.Proofs.YtmomeemkdfoklaaDoor
open Go.RowKit
open Ed (Ch Run Pr)

/-- what Fits' function keeps -/
def FtI (va vb : Value) (a b : List Int) (bf ba bb : Nat) (B : Nat) (d : List Run) (X : Nat → Prop) (w : World) : Prop :=
  w.heap[bf]? = some (.cells #[.bool (d.all (Ed.fitR a b))] 4) ∧ w.cell? ⟨ba, 0, none⟩ = some va ∧ w.cell? ⟨bb, 0, none⟩ = some vb ∧ RdI w va a ∧ RdI w vb b ∧ Under B va ∧ Under B vb ∧ ba ≠ bf ∧ bb ≠ bf ∧ B ≤ bf ∧ X = fun k => k = bf
theorem FtI.later {va vb : Value} {a b : List Int} {bf ba bb B : Nat} {d : List Run} {X : Nat → Prop} {w w' : World} (h : FtI va vb a b bf ba bb B d X w) (hb : Below w.heap.size w w') : FtI va vb a b bf ba bb B d X w' := by
  obtain ⟨h1, h2, h3, h4, h5, h6⟩ := h
  exact ⟨(hb.block bf (lt_of_heap h1)).trans h1, (hb.cell (p := ⟨ba, 0, none⟩) (lt_of_cell h2)).trans h2, (hb.cell (p := ⟨bb, 0, none⟩) (lt_of_cell h3)).trans h3, h4.below hb, h5.below hb, h6⟩
theorem FtI.end {va vb : Value} {a b : List Int} {bf ba bb B : Nat} {d : List Run} {X : Nat → Prop} {w w1 : World} (h : FtI va vb a b bf ba bb B d X w) (hb : Below w.heap.size w w1) (hB : B ≤ w.heap.size) (r : Run) (v : Bool) (hv : (d ++ [r]).all (Ed.fitR a b) = v) :
    Kept X w (w1.setCell ⟨bf, 0, none⟩ (.bool v)) ∧ ∃ X', FtI va vb a b bf ba bb B (d ++ [r]) X' (w1.setCell ⟨bf, 0, none⟩ (.bool v)) := by
  have h' := h.later hb
  obtain ⟨h1, h2, h3, h4, h5, h6, h7, h8, h9, h10, rfl⟩ := h
  obtain ⟨g1, g2, g3, _⟩ := h'
  have hK : Kept (fun k => k = bf) w (w1.setCell ⟨bf, 0, none⟩ (.bool v)) := by
    refine ⟨hb.os, hb.tape, hb.output, by rw [set_size]; exact hb.size, fun j hj hx => ?_⟩
    rw [set_other _ hx]
    exact hb.block j hj
  have hbl := hK.below (B := B) (fun j hj => by subst hj; exact h10) hB
  have hcell : ∀ q, q ≠ bf → (w1.setCell ⟨bf, 0, none⟩ (.bool v)).cell? ⟨q, 0, none⟩ = w1.cell? ⟨q, 0, none⟩ := fun q hq => by
    unfold World.cell?
    rw [show (⟨q, 0, none⟩ : Addr).block = q from rfl, set_other _ hq]
  refine ⟨hK, _, ?_, (hcell ba h8).trans g2, (hcell bb h9).trans g3, h4.keep h6 hbl, h5.keep h7 hbl, h6, h7, h8, h9, h10, rfl⟩
  rw [set_heap w1 bf 0 _ _ (.bool v) g1, hv]
  rfl

set_option maxHeartbeats 4000000 in
set_option maxRecDepth 100000 in
theorem fitsF_any {va vb : Value} {a b : List Int} {bf ba bb B : Nat} {d : List Run} {X : Nat → Prop} {r : Run} {w : World} (hI : FtI va vb a b bf ba bb B d X w) (hr : RunB a.length b.length r) (ha : a.length ≤ 4194304) (hb : b.length ≤ 4194304) (hB : B ≤ w.heap.size) :
    Calls Tryd.prog 32 #[rV r, .pointer (some ⟨bf, 0, none⟩), .pointer (some ⟨ba, 0, none⟩), .pointer (some ⟨bb, 0, none⟩)] w fun e w' => e = .returned (.tuple #[]) ∧ Kept X w w' ∧ ∃ X', FtI va vb a b bf ba bb B (d ++ [r]) X' w' := by
  have HI := hid hI
  obtain ⟨h1, h2, h3, h4, h5, h6, h7, h8, h9, h10, rfl⟩ := hI
  have HEND := hid (fun w1 (hb : Below w.heap.size w w1) v (hv : (d ++ [r]).all (Ed.fitR a b) = v) => HI.out.end hb hB r v hv)
  have HALL : Hid ((d ++ [r]).all (Ed.fitR a b) = (d.all (Ed.fitR a b) && Ed.fitR a b r)) := hid (by simp [List.all_append])
  obtain ⟨r1, r2, r3, r4, r5⟩ := hr
  obtain ⟨x, y, k⟩ := r
  obtain ⟨x, rfl⟩ := Int.eq_ofNat_of_zero_le r1
  obtain ⟨y, rfl⟩ := Int.eq_ofNat_of_zero_le r2
  obtain ⟨k, rfl⟩ := Int.eq_ofNat_of_zero_le (Int.le_of_lt r3)
  simp only at r1 r2 r3 r4 r5
  have e5 : x + k ≤ a.length := by omega
  have e6 : y + k ≤ b.length := by omega
  have hk0 : 0 < k := by omega
  obtain ⟨va', vc, rfl⟩ := h4.shape
  obtain ⟨vb', vd, rfl⟩ := h5.shape
  obtain ⟨z, hz⟩ : ∃ z, a[0]? = some z := ⟨_, List.getElem?_eq_getElem (by omega)⟩
  obtain ⟨ab, ao, rfl, hablt, _⟩ := rdI_at h4 hz
  obtain ⟨z', hz'⟩ : ∃ z, b[0]? = some z := ⟨_, List.getElem?_eq_getElem (by omega)⟩
  obtain ⟨eb, eo, rfl, hebbt, _⟩ := rdI_at h5 hz'
  have hac : a.length ≤ vc := by
    rcases h4 with ⟨h, _⟩ | ⟨b', o', c', hv, hc, _⟩
    · omega
    · cases hv; exact hc
  have hbc : b.length ≤ vd := by
    rcases h5 with ⟨h, _⟩ | ⟨b', o', c', hv, hc, _⟩
    · omega
    · cases hv; exact hc
  have hbA : Below w.heap.size w (w.alloc (.cells #[.int .i64 x, .int .i64 y, .int .i64 k] 67)) := (Below.refl _ _).alloc (Nat.le_refl _) _
  have hR : (w.alloc (.cells #[.int .i64 x, .int .i64 y, .int .i64 k] 67)).heap[w.heap.size]? = some (.cells #[.int .i64 x, .int .i64 y, .int .i64 k] 67) := heap_alloc_new w _
  unfold rV
  have H4 := hid h4
  have H5 := hid h5
  have hflt := lt_of_heap h1
  have HH1 := hid h1
  clear h4 h5 hz hz' h6 h7 HI
  go_enter Tryd.func32, Tryd.ntmps32
  go_wp2_with fail
  generalize (w.alloc (.cells #[.int .i64 x, .int .i64 y, .int .i64 k] 67)) = w1 at hbA hR ⊢
  have c0 : w1.cell? ⟨w.heap.size, 0, none⟩ = some (.int .i64 x) := cell_of_blk hR 0
  have c1 : w1.cell? ⟨w.heap.size, 1, none⟩ = some (.int .i64 y) := cell_of_blk hR 1
  have c2 : w1.cell? ⟨w.heap.size, 2, none⟩ = some (.int .i64 k) := cell_of_blk hR 2
  have hf1 : w1.heap[bf]? = some (.cells #[.bool (d.all (Ed.fitR a b))] 4) := (hbA.block bf hflt).trans h1
  have d1 : w1.cell? ⟨ba, 0, none⟩ = some (.slice (some ⟨ab, ao, none⟩) a.length vc) := (hbA.cell (p := ⟨ba, 0, none⟩) (lt_of_cell h2)).trans h2
  have d2 : w1.cell? ⟨bb, 0, none⟩ = some (.slice (some ⟨eb, eo, none⟩) b.length vd) := (hbA.cell (p := ⟨bb, 0, none⟩) (lt_of_cell h3)).trans h3
  have HA1 := hid (H4.out.below hbA)
  have HB1 := hid (H5.out.below hbA)
  have HBA := hid hbA
  have HF1 := hid hf1
  have f0 : w1.frozen? ⟨bf, 0, none⟩ = false := frozen_of_blk hf1 0
  clear hR h1 h2 h3
  obtain ⟨wb, hwb⟩ : ∃ wb, wb = w.heap.size := ⟨_, rfl⟩
  rw [← hwb] at c0 c1 c2 ⊢
  have HWB := hid hwb
  clear hwb
  cases hfl : d.all (Ed.fitR a b) with
  | false =>
    rw [hfl] at hf1
    have q0 : w1.cell? ⟨bf, 0, none⟩ = some (.bool false) := cell_of_blk hf1 0
    have HE := hid (HEND.out (w1.drewN 1) (below_drewN HBA.out 1) false (by rw [HALL.out, hfl]; rfl))
    clear hfl hf1 HALL HEND
    refine wp_region_qtail 20 (by kernel_rfl) (by kernel_rfl) ?_
    simp only [List.take_succ_cons, List.take_zero, List.drop_succ_cons, List.drop_zero]
    repeat go_big_quiet_step (fail)
    refine wpQuiet_nil ?_
    go_wp2
    exact bodyPost_end (v := .tuple #[]) (by simp [results, Tryd.results32]) rfl ⟨rfl, HE.out.1, HE.out.2⟩
  | true =>
    rw [hfl] at hf1
    have q0 : w1.cell? ⟨bf, 0, none⟩ = some (.bool true) := cell_of_blk hf1 0
    have HFIT : Hid ((d ++ [((x : Int), (y : Int), (k : Int))]).all (Ed.fitR a b) = decide (Ed.sl a x k = Ed.sl b y k)) := hid (by rw [HALL.out, hfl, Bool.true_and]; unfold Ed.fitR; simp only; exact (Bool.beq_eq_decide_eq _ _))
    clear hfl hf1 HALL
    have i1 : (0 : Int) ≤ (y : Int) := by omega
    have i2 : (y : Int) ≤ (y : Int) + (k : Int) := by omega
    have i3 : (0 : Int) ≤ (x : Int) := by omega
    have i4 : (x : Int) ≤ (x : Int) + (k : Int) := by omega
    have i5 : (x : Int) + (k : Int) ≤ (vc : Int) := by omega
    have i6 : IntKind.i64.wrap ((x : Int) + (k : Int)) = (x : Int) + (k : Int) := wrapOk (by omega) (by omega)
    have i7 : (y : Int) + (k : Int) ≤ (vd : Int) := by omega
    have i8 : IntKind.i64.wrap ((y : Int) + (k : Int)) = (y : Int) + (k : Int) := wrapOk (by omega) (by omega)
    have n1 : ¬ vc = x := by omega
    have n2 : ¬ vd = y := by omega
    have HSA := hid ((rd_sliced HA1.out (.inr ⟨_, _, _, rfl⟩) rfl (x := x) (y := x + k) (by omega) e5).1)
    have HSB := hid ((rd_sliced HB1.out (.inr ⟨_, _, _, rfl⟩) rfl (x := y) (y := y + k) (by omega) e6).1)
    have LA : Hid ((Ed.sl a x k).length = k) := hid (by have := Ed.sl_length (l := a) (i := x) (k := k) (by omega) (by omega) (by omega); omega)
    have LB : Hid ((Ed.sl b y k).length = k) := hid (by have := Ed.sl_length (l := b) (i := y) (k := k) (by omega) (by omega) (by omega); omega)
    have HPA : Hid (RdI (w1.drewN 1) (.slice (some ⟨ab, ao + x, none⟩) k (vc - x)) (Ed.sl a x k)) := hid (by
      have h := HSA.out
      rw [if_neg n1, Option.map_some, Go.WideShapes.add_plain, show x + k - x = k by omega, show ((x + k : Nat) : Int) - (x : Int) = k by omega] at h
      have h2 := h.below (below_drewN (Below.refl _ _) 1)
      show RdX _ _ _ _
      rw [LA.out]; exact h2)
    have HPB : Hid (RdI (w1.drewN 1) (.slice (some ⟨eb, eo + y, none⟩) k (vd - y)) (Ed.sl b y k)) := hid (by
      have h := HSB.out
      rw [if_neg n2, Option.map_some, Go.WideShapes.add_plain, show y + k - y = k by omega, show ((y + k : Nat) : Int) - (y : Int) = k by omega] at h
      have h2 := h.below (below_drewN (Below.refl _ _) 1)
      show RdX _ _ _ _
      rw [LB.out]; exact h2)
    refine wp_region_qtail 20 (by kernel_rfl) (by kernel_rfl) ?_
    simp only [List.take_succ_cons, List.take_zero, List.drop_succ_cons, List.drop_zero]
    repeat go_big_quiet_step (fail)
    refine wpQuiet_nil ?_
    go_wp2_with fail
    refine (equal_any (l := Ed.sl a x k) (m := Ed.sl b y k) HPA.out HPB.out (by have := LA.out; omega) (by have := LB.out; omega)).mono ?_
    rintro e w2 ⟨rfl, hb2⟩
    have HB2 : Hid (Below w.heap.size w w2) := hid ((below_drewN HBA.out 1).trans (hb2.mono (below_drewN HBA.out 1).size))
    have hf2 := (HB2.out.block bf hflt).trans HH1.out
    have f2 : w2.frozen? ⟨bf, 0, none⟩ = false := frozen_of_blk hf2 0
    have q2 : w2.cell? ⟨bf, 0, none⟩ = some (.bool (d.all (Ed.fitR a b))) := cell_of_blk hf2 0
    have HE := hid (HEND.out w2 HB2.out _ HFIT.out)
    clear hb2 hf2 HFIT HEND HSA HSB HPA HPB q0 f0 c0 c1 c2 d1 d2 HF1
    generalize decide (Ed.sl a x k = Ed.sl b y k) = Z at HE ⊢
    go_wp2
    exact bodyPost_end (v := .tuple #[]) (by simp [results, Tryd.results32]) rfl ⟨rfl, HE.out.1, HE.out.2⟩

set_option maxHeartbeats 2000000 in
set_option maxRecDepth 100000 in
theorem fits_any {v va vb : Value} {s : List Ch} {a b : List Int} {w : World} (hr : RdC w v s) (hwf : ∀ c ∈ s, WfC c) (ha : RdI w va a) (hb : RdI w vb b) (hV : Ed.Val s a.length b.length) :
    Calls Tryd.prog 16 #[v, va, vb] w fun e w' => e = .returned (errV (if Ed.fitsP a b (Ed.prs s a.length 0 0) then 0 else 61)) ∧ Below w.heap.size w w' := by
  have hl := Val_len hV
  have hn := Ed.cnt_iff.1 hV.1
  have hm := Ed.cnt_iff.1 hV.2.1
  obtain ⟨hn0, hn1⟩ := hn
  obtain ⟨hm0, hm1⟩ := hm
  obtain ⟨aa, ca, rfl⟩ := ha.shape
  obtain ⟨ab, cb, rfl⟩ := hb.shape
  obtain ⟨a0, c0, rfl⟩ := hr.shape
  have HR := hid hr
  have HWF := hid hwf
  have HV := hid hV
  have HZ := hid (Ed.validN_zero.2 hV)
  have HFQ := hid (Ed.fits_eq (a := a) (b := b) hV)
  obtain ⟨N, hN⟩ : ∃ N, N = (if Ed.fitsP a b (Ed.prs s a.length 0 0) then 0 else 61) := ⟨_, rfl⟩
  rw [← hN]
  have HN := hid hN
  clear hN
  have HA := hid ha
  have HBb := hid hb
  clear hr hwf hV ha hb
  have hb0 : Below w.heap.size w (w.alloc (.cells #[.slice aa a.length ca] 23)) := (Below.refl _ _).alloc (Nat.le_refl _) _
  have hb0' : Below w.heap.size w ((w.alloc (.cells #[.slice aa a.length ca] 23)).alloc (.cells #[.slice ab b.length cb] 23)) := hb0.alloc (by simp) _
  have hba0 : ((w.alloc (.cells #[.slice aa a.length ca] 23)).alloc (.cells #[.slice ab b.length cb] 23)).heap[w.heap.size]? = some (.cells #[.slice aa a.length ca] 23) := (((Below.refl _ _).alloc (Nat.le_refl _) _).block w.heap.size (by simp)).trans (heap_alloc_new w _)
  have hbb0 : ((w.alloc (.cells #[.slice aa a.length ca] 23)).alloc (.cells #[.slice ab b.length cb] 23)).heap[w.heap.size + 1]? = some (.cells #[.slice ab b.length cb] 23) := by
    have := heap_alloc_new (w.alloc (.cells #[.slice aa a.length ca] 23)) (.cells #[.slice ab b.length cb] 23)
    simpa using this
  have hsz0 : ((w.alloc (.cells #[.slice aa a.length ca] 23)).alloc (.cells #[.slice ab b.length cb] 23)).heap.size = w.heap.size + 2 := by simp
  have k0 := cell_of_blk hba0 0
  have k1 := cell_of_blk hbb0 0
  go_enter Tryd.func16, Tryd.ntmps16
  go_wp2_with fail
  generalize ((w.alloc (.cells #[.slice aa a.length ca] 23)).alloc (.cells #[.slice ab b.length cb] 23)) = w0 at hb0' hba0 hbb0 hsz0 k0 k1 ⊢
  refine (valid_any (HR.out.below hb0') HWF.out (by omega)).mono ?_
  rintro e w1 ⟨rfl, hb1⟩
  rw [HZ.out, errV_zero]
  have hB1 := hb0'.trans (hb1.mono hb0'.size)
  have hba1 := (hb1.block w.heap.size (by omega)).trans hba0
  have hbb1 := (hb1.block (w.heap.size + 1) (by omega)).trans hbb0
  have hs1 := hb1.size
  clear hb1 hba0 hbb0 hb0 hb0' k0 k1
  have hBW : Below w.heap.size w (w1.alloc (.cells #[.bool true] 4)) := hB1.alloc hB1.size _
  have hfW := heap_alloc_new w1 (.cells #[.bool true] 4)
  have hW1 : Below w1.heap.size w1 (w1.alloc (.cells #[.bool true] 4)) := (Below.refl _ _).alloc (Nat.le_refl _) _
  have hbaW := (hW1.block w.heap.size (by omega)).trans hba1
  have hbbW := (hW1.block (w.heap.size + 1) (by omega)).trans hbb1
  have j0 : (w1.alloc (.cells #[.bool true] 4)).cell? ⟨w.heap.size, 0, none⟩ = some (.slice aa a.length ca) := cell_of_blk hbaW 0
  have j1 : (w1.alloc (.cells #[.bool true] 4)).cell? ⟨w.heap.size + 1, 0, none⟩ = some (.slice ab b.length cb) := cell_of_blk hbbW 0
  have g0 : w1.cell? ⟨w.heap.size, 0, none⟩ = some (.slice aa a.length ca) := cell_of_blk hba1 0
  have HI0 : Hid (FtI (.slice aa a.length ca) (.slice ab b.length cb) a b w1.heap.size w.heap.size (w.heap.size + 1) w.heap.size [] (fun k => k = w1.heap.size) (w1.alloc (.cells #[.bool true] 4))) := hid ⟨hfW, j0, j1, HA.out.below hBW, HBb.out.below hBW, HA.out.under, HBb.out.under, by omega, by omega, hB1.size, rfl⟩
  have HC := hid (eachRun_any (B := w.heap.size) 32 (fun _ _ => by kernel_rfl) #[.pointer (some ⟨w1.heap.size, 0, none⟩), .pointer (some ⟨w.heap.size, 0, none⟩), .pointer (some ⟨w.heap.size + 1, 0, none⟩)] (FtI (.slice aa a.length ca) (.slice ab b.length cb) a b w1.heap.size w.heap.size (w.heap.size + 1) w.heap.size) (HR.out.below hBW) HR.out.under hBW.size HV.out (by omega) (fun d X wa wb hI hb => hI.later hb) (fun d X wa hI => (by obtain ⟨h1, _, _, _, _, _, _, _, _, h10, rfl⟩ := hI; intro g hg; subst hg; exact ⟨h10, lt_of_heap h1⟩)) (X0 := fun k => k = w1.heap.size) HI0.out
    (fun d X r wa hI hrb hba _ => fitsF_any hI hrb (by omega) (by omega) (Nat.le_trans hBW.size hba.size)))
  have HBW := hid hBW
  clear hfW hbaW hbbW hba1 hbb1 hB1 hBW hW1
  go_wp2_with fail
  refine HC.out.mono ?_
  rintro e w4 ⟨rfl, hb4, X, hI⟩
  have HB4 := hid (HBW.out.trans hb4)
  obtain ⟨h1, _⟩ := hI
  rw [HFQ.out] at h1
  have q0 : w4.cell? ⟨w1.heap.size, 0, none⟩ = some (.bool (Ed.fitsP a b (Ed.prs s a.length 0 0))) := cell_of_blk h1 0
  clear h1 hb4 HC j0 j1 g0 HI0 HFQ
  cases hq : Ed.fitsP a b (Ed.prs s a.length 0 0) with
  | true =>
    rw [hq] at q0
    have HN0 : Hid (N = 0) := hid (by rw [HN.out, hq]; rfl)
    clear hq
    go_wp2
    go_ret
    exact ⟨by rw [HN0.out]; rfl, HB4.out⟩
  | false =>
    rw [hq] at q0
    have HN0 : Hid (N = 61) := hid (by rw [HN.out, hq]; rfl)
    clear hq
    go_wp2
    go_ret
    exact ⟨by rw [HN0.out]; rfl, HB4.out⟩
end Go.Proofs.YtmomeemkdfoklaaDoor
