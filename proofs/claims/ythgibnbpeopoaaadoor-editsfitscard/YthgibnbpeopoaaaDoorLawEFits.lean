/-
  PROVED: the card of EditsFits: for every three lists of integers and every two lists of pairs EditsFits returns true, and all read afterwards as they read before; the card ties what errors.errorType holds to the program's text (a pruned copy of the project: the packages that this law loads).
-/
import Derived.Test.YthgibnbpeopoaaaDoorC6
import Derived.Test.YthgibnbpeopoaaaDoorDj
import Derived.Test.YthgibnbpeopoaaaDoorDl
import Derived.Test.YthgibnbpeopoaaaDoorDm
import Derived.Test.YthgibnbpeopoaaaDoorD0
import Derived.Test.YthgibnbpeopoaaaDoorHandle
namespace Go.Proofs.YthgibnbpeopoaaaDoor.editsFits
open Go.ChangeShapes Go.WideShapes Go.ChangeAt Go.RowKit
open Go.ChangeMaps (open_string shut_string)
open Ed (Ch Run Pr)

theorem val_wf {s : List Ch} {a b n m : Int} (h : Ed.val s a b n m = true) (ha : 0 ≤ a) (hb : 0 ≤ b) (hn : n ≤ 4194304) (hm : m ≤ 4194304) : ∀ c ∈ s, WfC c := by
  induction s generalizing a b with
  | nil => intro c hc; cases hc
  | cons x r ih =>
    obtain ⟨⟨h1, h2, h3, h4⟩, hr⟩ := Ed.val_cons.1 h
    intro c hc
    rcases List.mem_cons.1 hc with e | hc
    · subst e; unfold WfC I64; omega
    · exact ih hr (by omega) (by omega) c hc
theorem Val_wf {s : List Ch} {n m : Int} (h : Ed.Val s n m) : ∀ c ∈ s, WfC c := by
  have hn := Ed.cnt_iff.1 h.1
  have hm := Ed.cnt_iff.1 h.2.1
  exact val_wf h.2.2 (Int.le_refl _) (Int.le_refl _) hn.2 hm.2
theorem sel_wf (a b : List Int) : ∀ (l : List Pr) (x y : Int), (∀ p ∈ l, WfP p) → ∀ p ∈ selP a b l x y, WfP p
  | [], _, _, _ => fun p hp => by cases hp
  | q :: r, x, y, h => by
    rw [selP]
    split
    · intro p hp
      rcases List.mem_cons.1 hp with rfl | hp
      · exact h p (List.mem_cons_self ..)
      · exact sel_wf a b r _ _ (fun p hp => h p (List.mem_cons_of_mem _ hp)) p hp
    · exact sel_wf a b r _ _ (fun p hp => h p (List.mem_cons_of_mem _ hp))
theorem fit_zero {s : List Ch} {a b : List Int} (hf : Ed.fitsP a b (Ed.prs s a.length 0 0) = true) : (if Ed.fitsP a b (Ed.prs s a.length 0 0) then 0 else 61) = 0 := by rw [hf]; rfl

set_option maxHeartbeats 2000000 in
set_option maxRecDepth 100000 in
theorem walk (va : Value) (a : List Int) (vb : Value) (b : List Int) (vc : Value) (c : List Int) (vp : Value) (P : List Pr) (vq : Value) (Q : List Pr) (w : World)
    (hra : RdI w va a) (_ : ∀ x ∈ a, I64 x) (hla : a.length ≤ 17592186043904) (_ : ArgS va) (hrb : RdI w vb b) (_ : ∀ x ∈ b, I64 x) (hlb : b.length ≤ 17592186043904) (_ : ArgS vb) (hrc : RdI w vc c) (_ : ∀ x ∈ c, I64 x) (hlc : c.length ≤ 17592186043904) (_ : ArgS vc)
    (hrp : RdP w vp P) (hwp : ∀ x ∈ P, WfP x) (hlp : P.length ≤ 8796093021952) (_ : ArgS vp) (hrq : RdP w vq Q) (hwq : ∀ x ∈ Q, WfP x) (hlq : Q.length ≤ 8796093021952) (_ : ArgS vq) (hg : ErrVar w) :
    Calls Tryd.prog 6 #[.agg #[va, vb, vc, vp, vq]] w fun e w' => e = .returned (.bool true) ∧ Below w.heap.size w w' := by
  have HRA := hid hra
  have HRB := hid hrb
  have HRC := hid hrc
  have HRP := hid hrp
  have HRQ := hid hrq
  have HG := hid hg
  obtain ⟨aa, ca, rfl⟩ := hra.shape
  obtain ⟨ab, cb, rfl⟩ := hrb.shape
  obtain ⟨ac, cc, rfl⟩ := hrc.shape
  obtain ⟨ap, cp, rfl⟩ := hrp.shape
  obtain ⟨aq, cq, rfl⟩ := hrq.shape
  have HE1 := hid (fun w1 (hb : Below w.heap.size w w1) => sel_any (HRP.out.below hb) hwp hlp (HRA.out.below hb) (HRB.out.below hb) hla hlb)
  have HE2 := hid (fun w1 (hb : Below w.heap.size w w1) => sel_any (HRQ.out.below hb) hwq hlq (HRB.out.below hb) (HRC.out.below hb) hlb hlc)
  have hs1 := sel_len a b P 0 0
  have hs2 := sel_len b c Q 0 0
  have HO1 := hid (fun w1 v1 (h : RdP w1 v1 (selP a b P 0 0)) => of_all (n := a.length) (m := b.length) h (sel_wf a b P 0 0 hwp) (by omega))
  have HO2 := hid (fun w1 v1 (h : RdP w1 v1 (selP b c Q 0 0)) => of_all (n := b.length) (m := c.length) h (sel_wf b c Q 0 0 hwq) (by omega))
  have HRS1 := hid (sel_rise a b P 0 0)
  have HRS2 := hid (sel_rise b c Q 0 0)
  have HFS1 := hid (sel_fits a b P 0 0)
  have HFS2 := hid (sel_fits b c Q 0 0)
  generalize selP a b P 0 0 = P1 at *
  generalize selP b c Q 0 0 = Q1 at *
  clear hra hrb hrc hrp hrq hg hwp hwq
  have hbA : Below w.heap.size w (w.alloc (.cells #[.slice aa a.length ca, .slice ab b.length cb, .slice ac c.length cc, .slice ap P.length cp, .slice aq Q.length cq] 51)) := (Below.refl _ _).alloc (Nat.le_refl _) _
  have hgA := heap_alloc_new w (.cells #[.slice aa a.length ca, .slice ab b.length cb, .slice ac c.length cc, .slice ap P.length cp, .slice aq Q.length cq] 51)
  have hs0 : (w.alloc (.cells #[.slice aa a.length ca, .slice ab b.length cb, .slice ac c.length cc, .slice ap P.length cp, .slice aq Q.length cq] 51)).heap.size = w.heap.size + 1 := by simp
  go_enter Tryd.func6, Tryd.ntmps6
  go_wp2_with fail
  generalize (w.alloc (.cells #[.slice aa a.length ca, .slice ab b.length cb, .slice ac c.length cc, .slice ap P.length cp, .slice aq Q.length cq] 51)) = w0 at hbA hgA hs0 ⊢
  have k0 : w0.cell? ⟨w.heap.size, 0, none⟩ = some (.slice aa a.length ca) := cell_of_blk hgA 0
  have k1 : w0.cell? ⟨w.heap.size, 1, none⟩ = some (.slice ab b.length cb) := cell_of_blk hgA 1
  have k2 : w0.cell? ⟨w.heap.size, 2, none⟩ = some (.slice ac c.length cc) := cell_of_blk hgA 2
  have HBA := hid hbA
  have HGA := hid hgA
  have HS0 := hid hs0
  clear hbA hgA hs0
  go_quiet (fail)
  have HB0 : Hid (Below w.heap.size w (w0.drewN nq)) := hid (below_drewN HBA.out nq)
  have HG0 : Hid ((w0.drewN nq).heap[w.heap.size]? = some (.cells #[.slice aa a.length ca, .slice ab b.length cb, .slice ac c.length cc, .slice ap P.length cp, .slice aq Q.length cq] 51)) := hid HGA.out
  generalize w0.drewN nq = w1 at HB0 HG0 ⊢
  have k3 : w1.cell? ⟨w.heap.size, 3, none⟩ = some (.slice ap P.length cp) := cell_of_blk HG0.out 3
  clear k0 k1 k2 HBA HGA HS0
  go_wp2_with fail
  refine (HE1.out _ HB0.out).mono ?_
  rintro e w2 ⟨v2, rfl, hO2, hb2⟩
  obtain ⟨am2, cm2, em2⟩ := own_shape hO2
  subst em2
  have Hp_2 := hid (own_rd hO2)
  have HB2 : Hid (Below w.heap.size w w2) := hid (HB0.out.trans (hb2.mono HB0.out.size))
  have hq2 := (hb2.block w.heap.size (lt_of_heap HG0.out)).trans HG0.out
  have HG2 := hid hq2
  clear hO2 hb2 hq2 k3
  go_wp2_with fail
  refine (HO1.out _ _ Hp_2.out).mono ?_
  rintro e w3 ⟨v3, rfl, hO3, hb3⟩
  obtain ⟨am3, cm3, em3⟩ := own_shape hO3
  subst em3
  have Hp_3 := hid (Hp_2.out.below hb3)
  have Hs_3 := hid (own_rd hO3)
  have HB3 : Hid (Below w.heap.size w w3) := hid (HB2.out.trans (hb3.mono HB2.out.size))
  have hq3 := (hb3.block w.heap.size (lt_of_heap HG2.out)).trans HG2.out
  have k4 : w3.cell? ⟨w.heap.size, 4, none⟩ = some (.slice aq Q.length cq) := cell_of_blk hq3 4
  clear hO3 hb3 hq3
  go_wp2_with fail
  refine (HE2.out _ HB3.out).mono ?_
  rintro e w4 ⟨v4, rfl, hO4, hb4⟩
  obtain ⟨am4, cm4, em4⟩ := own_shape hO4
  subst em4
  have Hs_4 := hid (Hs_3.out.below hb4)
  have Hq_4 := hid (own_rd hO4)
  have HB4 : Hid (Below w.heap.size w w4) := hid (HB3.out.trans (hb4.mono HB3.out.size))
  clear hO4 hb4 k4
  go_wp2_with fail
  refine (HO2.out _ _ Hq_4.out).mono ?_
  rintro e w5 ⟨v5, rfl, hO5, hb5⟩
  obtain ⟨am5, cm5, em5⟩ := own_shape hO5
  subst em5
  have Hs_5 := hid (Hs_4.out.below hb5)
  have Hq_5 := hid (Hq_4.out.below hb5)
  have Ht_5 := hid (own_rd hO5)
  have HB5 : Hid (Below w.heap.size w w5) := hid (HB4.out.trans (hb5.mono HB4.out.size))
  clear hO5 hb5
  by_cases La : 4194304 < (a.length : Int)
  case pos =>
    have ea : decide (4194304 < (a.length : Int)) = true := decide_eq_true La
    generalize ofN P1 a.length b.length = Z1
    generalize ofN Q1 b.length c.length = Z2
    go_wp2_with fail
    refine (works_any w5 (HG.out.below HB5.out)).mono ?_
    rintro e w6 ⟨rfl, hb6⟩
    have HB6 := hid (HB5.out.trans (hb6.mono HB5.out.size))
    clear hb6
    go_wp2
    go_ret
    exact ⟨rfl, HB6.out⟩
  by_cases Lb : 4194304 < (b.length : Int)
  case pos =>
    have ea : decide (4194304 < (a.length : Int)) = false := decide_eq_false La
    have eb : decide (4194304 < (b.length : Int)) = true := decide_eq_true Lb
    generalize ofN P1 a.length b.length = Z1
    generalize ofN Q1 b.length c.length = Z2
    go_wp2_with fail
    refine (works_any w5 (HG.out.below HB5.out)).mono ?_
    rintro e w6 ⟨rfl, hb6⟩
    have HB6 := hid (HB5.out.trans (hb6.mono HB5.out.size))
    clear hb6
    go_wp2
    go_ret
    exact ⟨rfl, HB6.out⟩
  by_cases Lc : 4194304 < (c.length : Int)
  case pos =>
    have ea : decide (4194304 < (a.length : Int)) = false := decide_eq_false La
    have eb : decide (4194304 < (b.length : Int)) = false := decide_eq_false Lb
    have ec : decide (4194304 < (c.length : Int)) = true := decide_eq_true Lc
    generalize ofN P1 a.length b.length = Z1
    generalize ofN Q1 b.length c.length = Z2
    go_wp2_with fail
    refine (works_any w5 (HG.out.below HB5.out)).mono ?_
    rintro e w6 ⟨rfl, hb6⟩
    have HB6 := hid (HB5.out.trans (hb6.mono HB5.out.size))
    clear hb6
    go_wp2
    go_ret
    exact ⟨rfl, HB6.out⟩
  have ea : decide (4194304 < (a.length : Int)) = false := decide_eq_false La
  have eb : decide (4194304 < (b.length : Int)) = false := decide_eq_false Lb
  have ec : decide (4194304 < (c.length : Int)) = false := decide_eq_false Lc
  have hca : Ed.cnt a.length = true := Ed.cnt_iff.2 (by omega)
  have hcb : Ed.cnt b.length = true := Ed.cnt_iff.2 (by omega)
  have hcc : Ed.cnt c.length = true := Ed.cnt_iff.2 (by omega)
  obtain ⟨z1, y1⟩ := ofN_good hca hcb HRS1.out
  obtain ⟨z2, y2⟩ := ofN_good hcb hcc HRS2.out
  rw [z1, z2, y1, y2, errV_zero]
  rw [y1] at Hs_5
  rw [y2] at Ht_5
  obtain ⟨hVs, hPs⟩ := Ed.ofL_Val hca hcb HRS1.out
  obtain ⟨hVt, hPt⟩ := Ed.ofL_Val hcb hcc HRS2.out
  have hfs : Ed.fitsP a b (Ed.prs (Ed.ofL P1 0 0 a.length b.length) a.length 0 0) = true := by rw [hPs]; exact HFS1.out
  have hft : Ed.fitsP b c (Ed.prs (Ed.ofL Q1 0 0 b.length c.length) b.length 0 0) = true := by rw [hPt]; exact HFS2.out
  clear z1 z2 y1 y2 HO1 HO2 HE1 HE2
  generalize Ed.ofL P1 0 0 a.length b.length = s at hVs hPs hfs Hs_5 ⊢
  generalize Ed.ofL Q1 0 0 b.length c.length = t at hVt hPt hft Ht_5 ⊢
  obtain ⟨hVu, hPu⟩ := Ed.join_Val hVs hVt
  have hfu : Ed.fitsP a c (Ed.prs (Ed.joinP s t a.length b.length c.length) a.length 0 0) = true := by rw [hPu]; exact Ed.fits_comp hfs hft
  have hfi : Ed.fitsP b a (Ed.prs (s.map Ed.inv) b.length 0 0) = true := by rw [Ed.prs_inv hVs.2.2]; exact Ed.fits_sw hfs
  have hLs := Val_len hVs
  have hLi := Val_len hVs.inv
  have HF1 := hid (fun w1 v1 (h : RdC w1 v1 s) (hb : Below w.heap.size w w1) => fits_any h (Val_wf hVs) (HRA.out.below hb) (HRB.out.below hb) hVs)
  have HF2 := hid (fun w1 v1 (h : RdC w1 v1 t) (hb : Below w.heap.size w w1) => fits_any h (Val_wf hVt) (HRB.out.below hb) (HRC.out.below hb) hVt)
  have HF3 := hid (fun w1 v1 (h : RdC w1 v1 (Ed.joinP s t a.length b.length c.length)) (hb : Below w.heap.size w w1) => fits_any h (Val_wf hVu) (HRA.out.below hb) (HRC.out.below hb) hVu)
  have HF4 := hid (fun w1 v1 (h : RdC w1 v1 (s.map Ed.inv)) (hb : Below w.heap.size w w1) => fits_any h (Val_wf hVs.inv) (HRB.out.below hb) (HRA.out.below hb) hVs.inv)
  rw [fit_zero hfs, errV_zero] at HF1
  rw [fit_zero hft, errV_zero] at HF2
  rw [fit_zero hfu, errV_zero] at HF3
  rw [fit_zero hfi, errV_zero] at HF4
  have HJ := hid (fun w1 v1 v2 (h1 : RdC w1 v1 s) (h2 : RdC w1 v2 t) => join_any h1 (Val_wf hVs) h2 (Val_wf hVt) hVs hVt)
  have HI := hid (fun w1 v1 (h1 : RdC w1 v1 s) => invert_any h1 (by omega))
  have HP1 := hid (fun w1 v1 (h : RdC w1 v1 (Ed.joinP s t a.length b.length c.length)) (hb : Below w.heap.size w w1) => apply_any h (Val_wf hVu) (HRA.out.below hb) (HRC.out.below hb) hVu)
  have HP2 := hid (fun w1 v1 (h : RdC w1 v1 s) (hb : Below w.heap.size w w1) => apply_any h (Val_wf hVs) (HRA.out.below hb) (HRB.out.below hb) hVs)
  rw [Ed.apply_fit hVu hfu] at HP1
  rw [Ed.apply_fit hVs hfs] at HP2
  clear hVs hVt hVu hPs hPt hPu hfs hft hfu hfi hca hcb hcc HRS1 HRS2 HFS1 HFS2
  generalize s.map Ed.inv = SI at HF4 HI hLi
  generalize Ed.joinP s t a.length b.length c.length = U at HF3 HJ HP1
  --@@rest
  go_wp2_with fail
  refine (HF1.out _ _ Hs_5.out HB5.out).mono ?_
  rintro e w6 ⟨rfl, hb6⟩
  have Hs_6 := hid (Hs_5.out.below hb6)
  have Ht_6 := hid (Ht_5.out.below hb6)
  have HB6 : Hid (Below w.heap.size w w6) := hid (HB5.out.trans (hb6.mono HB5.out.size))
  clear hb6
  go_wp2_with fail
  refine (HF2.out _ _ Ht_6.out HB6.out).mono ?_
  rintro e w7 ⟨rfl, hb7⟩
  have Hs_7 := hid (Hs_6.out.below hb7)
  have Ht_7 := hid (Ht_6.out.below hb7)
  have HB7 : Hid (Below w.heap.size w w7) := hid (HB6.out.trans (hb7.mono HB6.out.size))
  clear hb7
  go_wp2_with fail
  refine (HJ.out _ _ _ Hs_7.out Ht_7.out).mono ?_
  rintro e w8 ⟨v8, rfl, hO8, hb8⟩
  obtain ⟨am8, cm8, em8⟩ := own_shape hO8
  subst em8
  have Hs_8 := hid (Hs_7.out.below hb8)
  have Ht_8 := hid (Ht_7.out.below hb8)
  have Hu_8 := hid (own_rd hO8)
  have HB8 : Hid (Below w.heap.size w w8) := hid (HB7.out.trans (hb8.mono HB7.out.size))
  clear hO8 hb8
  go_wp2_with fail
  refine (HF3.out _ _ Hu_8.out HB8.out).mono ?_
  rintro e w9 ⟨rfl, hb9⟩
  have Hs_9 := hid (Hs_8.out.below hb9)
  have Ht_9 := hid (Ht_8.out.below hb9)
  have Hu_9 := hid (Hu_8.out.below hb9)
  have HB9 : Hid (Below w.heap.size w w9) := hid (HB8.out.trans (hb9.mono HB8.out.size))
  clear hb9
  go_wp2_with fail
  refine (HI.out _ _ Hs_9.out).mono ?_
  rintro e w10 ⟨v10, rfl, hO10, hb10⟩
  obtain ⟨am10, cm10, em10⟩ := own_shape hO10
  subst em10
  have Hs_10 := hid (Hs_9.out.below hb10)
  have Ht_10 := hid (Ht_9.out.below hb10)
  have Hu_10 := hid (Hu_9.out.below hb10)
  have Hi_10 := hid (own_rd hO10)
  have HB10 : Hid (Below w.heap.size w w10) := hid (HB9.out.trans (hb10.mono HB9.out.size))
  clear hO10 hb10
  go_wp2_with fail
  refine (HF4.out _ _ Hi_10.out HB10.out).mono ?_
  rintro e w11 ⟨rfl, hb11⟩
  have Hs_11 := hid (Hs_10.out.below hb11)
  have Ht_11 := hid (Ht_10.out.below hb11)
  have Hu_11 := hid (Hu_10.out.below hb11)
  have Hi_11 := hid (Hi_10.out.below hb11)
  have HB11 : Hid (Below w.heap.size w w11) := hid (HB10.out.trans (hb11.mono HB10.out.size))
  clear hb11
  go_wp2_with fail
  refine (HP1.out _ _ Hu_11.out HB11.out).mono ?_
  rintro e w12 ⟨v12, rfl, hO12, hb12⟩
  obtain ⟨am12, cm12, em12⟩ := own_shape hO12
  subst em12
  have Hs_12 := hid (Hs_11.out.below hb12)
  have Hu_12 := hid (Hu_11.out.below hb12)
  have Hl_12 := hid (own_rd hO12)
  have HB12 : Hid (Below w.heap.size w w12) := hid (HB11.out.trans (hb12.mono HB11.out.size))
  clear hO12 hb12
  go_wp2_with fail
  refine (HP2.out _ _ Hs_12.out HB12.out).mono ?_
  rintro e w13 ⟨v13, rfl, hO13, hb13⟩
  obtain ⟨am13, cm13, em13⟩ := own_shape hO13
  subst em13
  have Hs_13 := hid (Hs_12.out.below hb13)
  have Hl_13 := hid (Hl_12.out.below hb13)
  have Hm_13 := hid (own_rd hO13)
  have HB13 : Hid (Below w.heap.size w w13) := hid (HB12.out.trans (hb13.mono HB12.out.size))
  clear hO13 hb13
  go_wp2_with fail
  refine (sameInts_any Hl_13.out (HRC.out.below HB13.out) (by omega) (by omega)).mono ?_
  rintro e w14 ⟨rfl, hb14⟩
  rw [decide_eq_true rfl]
  have Hm_14 := hid (Hm_13.out.below hb14)
  have HB14 : Hid (Below w.heap.size w w14) := hid (HB13.out.trans (hb14.mono HB13.out.size))
  clear hb14
  go_wp2_with fail
  refine (sameInts_any Hm_14.out (HRB.out.below HB14.out) (by omega) (by omega)).mono ?_
  rintro e w15 ⟨rfl, hb15⟩
  rw [decide_eq_true rfl]
  have HB15 : Hid (Below w.heap.size w w15) := hid (HB14.out.trans (hb15.mono HB14.out.size))
  clear hb15
  go_wp2_with fail
  refine (works_any w15 (HG.out.below HB15.out)).mono ?_
  rintro e w16 ⟨rfl, hb16⟩
  have HB16 := hid (HB15.out.trans (hb16.mono HB15.out.size))
  clear hb16
  go_wp2
  go_ret
  exact ⟨rfl, HB16.out⟩

theorem own : ownKnob Tryd.prog.godebug = none := by kernel_rfl

set_option maxRecDepth 100000 in
theorem contract (H : Type) (enc : TypeId × Value → H) (W : World) (base : Nat) (args : Array Value) (ds gs : List (DataW H)) (before : List MemPlace)
    (hval : ∀ (j : Nat) t v, Tryd.f6.params[j]? = some t → args[j]? = some v → Value.okWide Tryd.prog W .any base t v)
    (hW : DataW.Whole enc Tryd.prog Tryd.f6.params.toList Rows.editsFitsSpec.vars false W args.toList ds gs before)
    (hsz : (DataW.weightsEach Tryd.prog (Tryd.f6.params.toList ++ Rows.editsFitsSpec.plain.varTypes Tryd.prog) (ds ++ gs)).all (· ≤ reachBytes) = true)
    (hL : laidMetH Tryd.prog Rows.editsFitsRow.laid W)
    : Calls Tryd.prog 6 args W fun e W' => ∃ v, e = .returned v ∧ Rows.editsFitsSpec.post enc Tryd.prog Tryd.f6 false true false false W args v W' := by
  have hW' := hW
  obtain ⟨p, q, hA0, hV, rfl, hfz, hnd⟩ := hW
  have hA : DataW.TrodAll enc Tryd.prog W 0 (fun _ => true) true Tryd.f6.params.toList args.toList ds p := hA0
  rw [Tryd.params6] at hA hval hsz
  obtain ⟨v0, vs0, d0, ds0, p0, q0, hargs0, rfl, rfl, h0, r0⟩ := trodAll_cons hA
  obtain ⟨rfl, rfl, rfl⟩ := trodAll_nil r0
  obtain rfl : args = #[v0] := by cases args; simp_all
  obtain ⟨rfl, rfl⟩ := trodVars_none hV
  obtain ⟨v0_0, x0_0, v0_1, x0_1, v0_2, x0_2, v0_3, x0_3, v0_4, x0_4, rfl, hr0_0, hw0_0, hs0_0, hr0_1, hw0_1, hs0_1, hr0_2, hw0_2, hs0_2, hr0_3, hw0_3, hs0_3, hr0_4, hw0_4, hs0_4, hq0⟩ := open_lists h0
  have hlen0 := hq0 (List.all_eq_true.2 fun n hn => List.all_eq_true.1 hsz n (DataW.weights_mem_each (j := 0) (t := 51) rfl rfl n (by simpa [DataW.weightsEach] using hn)))
  clear hA0 hsz
  simp only [List.append_nil] at hW'
  have hlt0 : ∀ x ∈ p0, x.block < W.heap.size := fun x hx => by simpa using hW'.lt x (by simp [hx])
  refine (walk v0_0 x0_0 v0_1 x0_1 v0_2 x0_2 v0_3 x0_3 v0_4 x0_4 W hr0_0 hw0_0 hlen0.1 hs0_0 hr0_1 hw0_1 hlen0.2.1 hs0_1 hr0_2 hw0_2 hlen0.2.2.1 hs0_2 hr0_3 hw0_3 hlen0.2.2.2.1 hs0_3 hr0_4 hw0_4 hlen0.2.2.2.2 hs0_4 (handle_of hL)).mono fun e W' ⟨he, hb⟩ => ?_
  subst he
  exact ⟨_, rfl, _, _, _, [], (p0 ++ []), [], hW', trodAll_cons_mk (shut_bool Tryd.underlying4 _) trodAll_mk0, trodAll_cons_mk (Below.trod laidOut (by kernel_rfl) (of_decide_eq_true (by kernel_rfl)) h0 hb hlt0) trodAll_mk0, rfl, hb.frame _, fun h => by cases h⟩

set_option maxRecDepth 100000 in
theorem lifted (os : Os) (started : os.Started) (H : Type) (enc : TypeId × Value → H) (F : Stop.Interp) :
    ReturnsInHanded {} Tryd.checked os 6 .any ((OpenSpec.ofChange Rows.editsFitsSpec).preRow enc Tryd.prog Tryd.f6 Rows.editsFitsRow.domain false Rows.editsFitsRow.laid) (((OpenSpec.ofChange Rows.editsFitsSpec).at F).post enc Tryd.prog Tryd.f6 false true false false) := by
  refine returnsInHanded_of_row (C := Tryd.checked) (s := OpenSpec.ofChange Rows.editsFitsSpec) own started (by kernel_rfl) Tryd.func6
    (witness_row_at (enc := enc) (C := Tryd.checked) false
      { World.holding Tryd.prog os ⟨#[], #[], []⟩ with heap := (World.holding Tryd.prog os ⟨#[], #[], []⟩).heap.modify 0 fun
          | .cells _ t frozen => .cells #[.iface 99 (.agg #[.pointer (some ⟨1, 25, none⟩)])] t frozen
          | o => o }
      #[.agg #[.slice none 0 0, .slice none 0 0, .slice none 0 0, .slice none 0 0, .slice none 0 0]] rfl (by kernel_rfl) (by kernel_rfl) (by kernel_rfl)
      (OpenSpec.preRow_of_cond 8 (x := ([.agg [.nil, .nil, .nil, .nil, .nil]], [], [])) (by kernel_rfl) (by kernel_rfl) (fun k hk => by cases hk) (by kernel_rfl) (laidMetH_of_parts (laidMet_nil _ _) (by kernel_rfl)))) ?_
  intro W base args ds gs before hval hW _ hcond hsz hL _ _
  exact contract H enc W base args ds gs before hval hW hsz hL

theorem said : Rows.EditsFitsSaid :=
  OpenClaim.holds_of_cond 6 Tryd.f6 rfl rfl rfl rfl rfl rfl rfl ⟨rfl, rfl, rfl, rfl, rfl⟩ rfl rfl rfl rfl rfl (by kernel_rfl) Tryd.func6 (by kernel_rfl)
    (of_decide_eq_true (by kernel_rfl)) (by unfold Func.isWrapper; first | (rw [if_pos (by decide +kernel)]; kernel_rfl) | (rw [if_neg (by decide +kernel)]; exact ⟨rfl, rfl⟩))
    (fun os started H enc _ F => by rw [OpenClaim.pre_eq_preRow]; exact lifted os started H enc F)

theorem plain (f : FuncId) (fn : Func) (hf : Tryd.pinned.checked.prog.funcNamed Rows.editsFitsRow.func = some f) (hfn : Tryd.pinned.checked.prog.funcs[f]? = some fn) :
    true = Tryd.pinned.checked.prog.looks [] ∧ ∀ (j : Nat) t, fn.params[j]? = some t → Tryd.pinned.checked.prog.wantsStandIn t = false := by
  obtain rfl : f = 6 := Option.some.inj ((show Tryd.prog.funcNamed Rows.editsFitsRow.func = some 6 by kernel_rfl).symm.trans hf) |>.symm
  obtain rfl : fn = Tryd.f6 := (Option.some.inj (Tryd.func6.symm.trans hfn)).symm
  refine ⟨by kernel_rfl, fun j t ht => ?_⟩
  rw [Tryd.params6] at ht
  have hm : t = 51 := by simpa using Array.mem_of_getElem? ht
  rcases hm with rfl
  · exact (show Tryd.prog.wantsStandIn 51 = false by kernel_rfl)

theorem card : Rows.EditsFitsCardSaid :=
  Claim7.holds_tied_plain_at .later [] _ _ _ _ said (fun _ h => by cases h) (by kernel_rfl) (fun _ h => by cases h) editsFits_row_tie rfl ⟨rfl, rfl⟩ (by kernel_rfl) rfl plain (by kernel_rfl)
end Go.Proofs.YthgibnbpeopoaaaDoor.editsFits
