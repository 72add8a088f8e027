/-
  The walk of Diff: whole.
-/
import Derived.Test.YtpedbnghhmnjjaaL6
namespace Go.Proofs.Ytpedbnghhmnjjaa
open Go.RowKit
open Ed (Ch)

set_option maxHeartbeats 8000000 in
set_option maxRecDepth 100000 in
theorem diff_any {w : World} {v u : Value} {a b : List Int} (hv : RdI w v a) (hu : RdI w u b) (hla : a.length ≤ 2000000) (hlb : b.length ≤ 2000000) (hwa : ∀ x ∈ a, I64 x) (hwb : ∀ x ∈ b, I64 x) :
    Calls Try.prog 9 #[v, u] w fun e w' => ∃ v', e = .returned v' ∧ OwnC w' w.heap.size v' (My.myD a b) ∧ Below w.heap.size w w' := by
  obtain ⟨a0, c0, rfl⟩ := hv.shape
  obtain ⟨a1, c1, rfl⟩ := hu.shape
  have hcv := rd_cap hv
  have hcu := rd_cap hu
  have HV := hid hv
  have HU := hid hu
  have HSE := hid (sameEnds_any hv hu (by omega) (by omega))
  have hh := My.hd_le a b
  have ht := My.tl_le a b (My.hd a b)
  have hcl := My.cm_len a b
  obtain ⟨H, hH⟩ : ∃ H, H = My.hd a b := ⟨_, rfl⟩
  obtain ⟨T, hT⟩ : ∃ T, T = My.tl a b H := ⟨_, rfl⟩
  rw [← hH] at HSE hh ht hcl
  rw [← hT] at HSE ht hcl
  have HHH := hid hH
  have HTT := hid hT
  obtain ⟨E1, hE1⟩ : ∃ E1, E1 = a.length - T := ⟨_, rfl⟩
  obtain ⟨E2, hE2⟩ : ∃ E2, E2 = b.length - T := ⟨_, rfl⟩
  obtain ⟨D1, hD1⟩ : ∃ D1, (if c0 = H then a0 else a0.map (·.add H)) = D1 := ⟨_, rfl⟩
  obtain ⟨D2, hD2⟩ : ∃ D2, (if c1 = H then a1 else a1.map (·.add H)) = D2 := ⟨_, rfl⟩
  obtain ⟨A, hA⟩ : ∃ A, A = My.cm a b a := ⟨_, rfl⟩
  obtain ⟨B, hB⟩ : ∃ B, B = My.cm a b b := ⟨_, rfl⟩
  have hAl : A.length = E1 - H := by rw [hA, hcl.1]; omega
  have hBl : B.length = E2 - H := by rw [hB, hcl.2]; omega
  have HPA : Hid (∀ w', Below w.heap.size w w' → RdI w' (.slice D1 (E1 - H) (c0 - H)) A) := hid (fun w' hb => by
    have h := rdI_part (HV.out.below hb) rfl (x := H) (y := E1) (by omega) (by omega)
    rw [hD1] at h
    rw [hA]
    unfold My.cm
    rw [← hH, ← hT, show a.length - H - T = E1 - H by omega]
    exact h)
  have HPB : Hid (∀ w', Below w.heap.size w w' → RdI w' (.slice D2 (E2 - H) (c1 - H)) B) := hid (fun w' hb => by
    have h := rdI_part (HU.out.below hb) rfl (x := H) (y := E2) (by omega) (by omega)
    rw [hD2] at h
    rw [hB]
    unfold My.cm
    rw [← hH, ← hT, show b.length - H - T = E2 - H by omega]
    exact h)
  have i1 : IntKind.i64.wrap ((a.length : Int) - (T : Int)) = (E1 : Int) := (wrapOk (by omega) (by omega)).trans (by omega)
  have i2 : IntKind.i64.wrap ((b.length : Int) - (T : Int)) = (E2 : Int) := (wrapOk (by omega) (by omega)).trans (by omega)
  have i3 : (0 : Int) ≤ (H : Int) := by omega
  have i4 : (H : Int) ≤ (E1 : Int) := by omega
  have i5 : (E1 : Int) ≤ (c0 : Int) := by omega
  have i6 : (H : Int) ≤ (E2 : Int) := by omega
  have i7 : (E2 : Int) ≤ (c1 : Int) := by omega
  have HA := hid hA
  have HB := hid hB
  have HAl := hid hAl
  have HBl := hid hBl
  have hHl : H ≤ 2000000 := by omega
  have hA2 : A.length ≤ 2000000 := by omega
  have hB2 : B.length ≤ 2000000 := by omega
  have hAB : A.length ≤ a.length ∧ B.length ≤ b.length := by omega
  have HWA : Hid (∀ x ∈ A, I64 x) := hid (fun x hx => hwa x (by rw [hA] at hx; unfold My.cm at hx; exact List.mem_of_mem_drop (List.mem_of_mem_take hx)))
  have HWB : Hid (∀ x ∈ B, I64 x) := hid (fun x hx => hwb x (by rw [hB] at hx; unfold My.cm at hx; exact List.mem_of_mem_drop (List.mem_of_mem_take hx)))
  clear hv hu hH hT hA hB hAl hBl hh ht hcl hE1 hE2 hwa hwb
  go_enter Try.func9, Try.ntmps9
  go_upto_region 2 with (go_at_call 21; refine HSE.out.mono ?_; rintro e w1 ⟨rfl, hb1⟩; have HB1 := hid hb1; clear hb1)
  go_quiet (fail)
  go_upto_region 3 with fail
  have HB2 : Hid (Below w.heap.size w (w1.drewN nq)) := hid (below_drewN HB1.out nq)
  generalize w1.drewN nq = w2 at HB2 ⊢
  clear HB1 HSE i1 i2 i3 i4 i5 i6 i7 hD1 hD2
  have HSO1 := hid (sideOf_any (HPA.out _ HB2.out) (HPB.out _ HB2.out) (by omega) (by omega) HWA.out HWB.out)
  go_upto_region 4 with (go_at_call 22; refine HSO1.out.mono ?_; rintro e w3 ⟨gn1, gp1, gc1, rfl, hn, hp, hc, k1, k2, k3, k4, k5, k6, k7, hb3⟩; have HN1 := hid hn; have HP1 := hid hp; have HC1 := hid hc; have HB3 := hid hb3; clear hn hp hc hb3)
  obtain ⟨S1, hS1⟩ : ∃ S1, S1 = Obj.cells #[.slice (some ⟨gn1, 0, none⟩) (A.filter (My.inL B)).length A.length, .slice (some ⟨gp1, 0, none⟩) (A.filter (My.inL B)).length A.length, .slice (some ⟨gc1, 0, none⟩) A.length A.length] 42 (0, 0) := ⟨_, rfl⟩
  have hb4 : Below w3.heap.size w3 (w3.alloc S1) := (Below.refl _ _).alloc (Nat.le_refl _) _
  have hs4 : (w3.alloc S1).heap.size = w3.heap.size + 1 := by simp
  have HBL1 : Hid ((w3.alloc S1).heap[w3.heap.size]? = some (.cells #[.slice (some ⟨gn1, 0, none⟩) (A.filter (My.inL B)).length A.length, .slice (some ⟨gp1, 0, none⟩) (A.filter (My.inL B)).length A.length, .slice (some ⟨gc1, 0, none⟩) A.length A.length] 42)) := hid (by have h := heap_alloc_new w3 S1; rw [hS1] at h ⊢; exact h)
  have HT1 := hid (side_new HBL1.out (HN1.out.below hb4) (HP1.out.below hb4) (HC1.out.far (hb4.block gc1 HC1.out.lt)))
  have HB4 : Hid (Below w.heap.size w (w3.alloc S1)) := hid ((HB2.out.trans (HB3.out.mono HB2.out.size)).trans (hb4.mono (Nat.le_trans HB2.out.size HB3.out.size)))
  have hgn1l : gn1 < w3.heap.size := k6
  have hgp1l : gp1 < w3.heap.size := k7
  have hgc1l : gc1 < w3.heap.size := HC1.out.lt
  rw [← hS1]
  obtain ⟨g1, hg1⟩ : ∃ g1, g1 = w3.heap.size := ⟨_, rfl⟩
  rw [← hg1] at HBL1 HT1 hs4 hgn1l hgp1l hgc1l ⊢
  generalize w3.alloc S1 = w4 at HBL1 HT1 HB4 hs4 ⊢
  have c0' : w4.cell? ⟨g1, 0, none⟩ = some (.slice (some ⟨gn1, 0, none⟩) (A.filter (My.inL B)).length A.length) := cell_of_blk HBL1.out 0
  have HSO2 := hid (sideOf_any (HPB.out _ HB4.out) HT1.out.nums (by omega) (by have := List.length_filter_le (My.inL B) A; omega) HWB.out (fun x hx => HWA.out x ((List.mem_filter.1 hx).1)))
  clear hb4 HN1 HP1 HC1 hS1 hg1
  go_upto_region 5 with (go_at_call 22; refine HSO2.out.mono ?_; rintro e w5 ⟨gn2, gp2, gc2, rfl, hn, hp, hc, l1, l2, l3, l4, l5, l6, l7, hb5⟩; have HN2 := hid hn; have HP2 := hid hp; have HC2 := hid hc; have HB5 := hid hb5; clear hn hp hc hb5)
  obtain ⟨N1, hN1⟩ : ∃ N1, N1 = A.filter (My.inL B) := ⟨_, rfl⟩
  rw [← hN1] at HN2 HP2 HC2 ⊢
  obtain ⟨S2, hS2⟩ : ∃ S2, S2 = Obj.cells #[.slice (some ⟨gn2, 0, none⟩) (B.filter (My.inL N1)).length B.length, .slice (some ⟨gp2, 0, none⟩) (B.filter (My.inL N1)).length B.length, .slice (some ⟨gc2, 0, none⟩) B.length B.length] 42 (0, 0) := ⟨_, rfl⟩
  have hb6 : Below w5.heap.size w5 (w5.alloc S2) := (Below.refl _ _).alloc (Nat.le_refl _) _
  have hs6 : (w5.alloc S2).heap.size = w5.heap.size + 1 := by simp
  have HBL2 : Hid ((w5.alloc S2).heap[w5.heap.size]? = some (.cells #[.slice (some ⟨gn2, 0, none⟩) (B.filter (My.inL N1)).length B.length, .slice (some ⟨gp2, 0, none⟩) (B.filter (My.inL N1)).length B.length, .slice (some ⟨gc2, 0, none⟩) B.length B.length] 42)) := hid (by have h := heap_alloc_new w5 S2; rw [hS2] at h ⊢; exact h)
  have HT2 := hid (side_new HBL2.out (HN2.out.below hb6) (HP2.out.below hb6) (HC2.out.far (hb6.block gc2 HC2.out.lt)))
  have K46 : Kept (fun _ => False) w4 (w5.alloc S2) := (Kept.of_below HB5.out).step (Kept.of_below (X := fun _ => False) hb6) (fun _ h => h.elim)
  have HT1' := hid (HT1.out.kept K46 (fun h => h) (fun h => h) (fun h => h) (fun h => h))
  have HBL1' := hid ((K46.block g1 (lt_of_heap HBL1.out) (fun h => h)).trans HBL1.out)
  have HB6 : Hid (Below w.heap.size w (w5.alloc S2)) := hid ((HB4.out.trans (HB5.out.mono HB4.out.size)).trans (hb6.mono (Nat.le_trans HB4.out.size HB5.out.size)))
  have hgc2l : gc2 < w5.heap.size := HC2.out.lt
  have h45 : w4.heap.size ≤ w5.heap.size := HB5.out.size
  have hw4 : w.heap.size ≤ w4.heap.size := HB4.out.size
  have hww2 : w.heap.size ≤ w2.heap.size := HB2.out.size
  rw [← hS2]
  obtain ⟨g2, hg2⟩ : ∃ g2, g2 = w5.heap.size := ⟨_, rfl⟩
  rw [← hg2] at HBL2 HT2 hs6 hgc2l h45 l6 l7 ⊢
  generalize w5.alloc S2 = w6 at HBL2 HT2 HT1' HBL1' HB6 hs6 ⊢
  clear K46 hb6 HN2 HP2 HC2 HB5 HT1 HBL1 hS2 hg2 c0' HSO2
  have HSET := hid (settle_any HT1'.out HT2.out hA2 hB2 ⟨by omega, by omega, k4, k5, by omega, by omega, by omega, by omega, by omega, by omega, by omega, l4, l5⟩ ⟨by omega, by omega, by omega, by omega⟩ (List.length_filter_le _ _) (List.length_filter_le _ _))
  go_upto_region 6 with (go_at_call 23; refine HSET.out.mono ?_; rintro e w7 ⟨rfl, hk7, hm1, hm2⟩; have HK7 := hid hk7; have HM1 := hid hm1; have HM2 := hid hm2; clear hk7 hm1 hm2)
  have k1' : w7.heap[g1]? = _ := (HK7.out.block g1 (lt_of_heap HBL1'.out) (by omega)).trans HBL1'.out
  have k2' : w7.heap[g2]? = _ := (HK7.out.block g2 (lt_of_heap HBL2.out) (by omega)).trans HBL2.out
  have e1 : w7.cell? ⟨g1, 2, none⟩ = some (.slice (some ⟨gc1, 0, none⟩) A.length A.length) := cell_of_blk k1' 2
  have e2 : w7.cell? ⟨g2, 2, none⟩ = some (.slice (some ⟨gc2, 0, none⟩) B.length B.length) := cell_of_blk k2' 2
  have HG1 : Hid (RdB w7 (.slice (some ⟨gc1, 0, none⟩) A.length A.length) (My.gA A B)) := hid (by
    have h := HM1.out
    rw [hN1] at h
    have hl := (My.marks_spec A B).1
    have h2 := BlR.rd (c := A.length) (l := My.gA A B) h (by omega)
    rw [hl] at h2
    exact h2)
  have HG2 : Hid (RdB w7 (.slice (some ⟨gc2, 0, none⟩) B.length B.length) (My.gB A B)) := hid (by
    have h := HM2.out
    rw [hN1] at h
    have hl := (My.marks_spec A B).2.1
    have h2 := BlR.rd (c := B.length) (l := My.gB A B) h (by omega)
    rw [hl] at h2
    exact h2)
  have HB7 : Hid (Below w.heap.size w w7) := hid (HB6.out.trans (HK7.out.below (fun g hg => by rcases hg with h | h <;> omega) HB6.out.size))
  have HSC := hid (script_any (2 * (a.length + b.length) + 2) H HG1.out HG2.out (by rw [(My.marks_spec A B).1]; omega) (by rw [(My.marks_spec A B).2.1]; omega) (by omega) (by rw [(My.marks_spec A B).1, (My.marks_spec A B).2.1]; omega) (marks_same A B))
  have HRES : Hid (My.scr (2 * (a.length + b.length) + 2) (My.gA A B) (My.gB A B) H H = My.myD a b) := hid (by rw [HA.out, HB.out, HHH.out]; rfl)
  clear k1' k2' HK7 HM1 HM2 HBL1' HBL2 HT1' HT2 HB6 HSET
  go_wp2_with (go_at_call 24; refine HSC.out.mono ?_; rintro e w8 ⟨v8, rfl, ho8, hb8⟩; have HO8 := hid ho8; have HB8 := hid hb8; clear ho8 hb8)
  go_ret
  refine ⟨_, rfl, ?_, HB7.out.trans (HB8.out.mono HB7.out.size)⟩
  have h := own_mono HO8.out HB7.out.size
  rw [HRES.out] at h
  exact h
end Go.Proofs.Ytpedbnghhmnjjaa
