/-
  UnifiedBack, up to the bulk, for every two names, every list of hunks and every text: what is printed is read as it was; what is read is printed, and read again as it was. (The card: the row lists six package-level variables, of which the proof uses errors.errorType, strconv.ErrSyntax, strconv.ErrRange and the table of powers of ten.) (Made by wip/genluback.py.)
-/
import Derived.Test.YtobocdbehjcpjaaGreatDoorGrKz
import Derived.Test.YtobocdbehjcpjaaGreatDoorU5
import Derived.Test.YtobocdbehjcpjaaGreatDoorHz
namespace Go.Proofs.YtobocdbehjcpjaaGreatDoor.unifiedBack
open Go.ChangeShapes Go.WideShapes Go.ChangeAt Go.RowKit
open Go.ChangeMaps (open_string shut_string)
open Hu (Rw Hk)

/-- two names side by side -/
def TwN (w wc : World) (X Y : Nat) (p1 s1 p2 s2 : ByteArray) : Prop := Below w.heap.size w wc ∧ wc.heap[X]? = some (.cells #[.string p1, .string s1] 23) ∧ wc.heap[Y]? = some (.cells #[.string p2, .string s2] 23)
set_option maxHeartbeats 16000000 in
set_option maxRecDepth 100000 in
theorem walk (p1 s1 p2 s2 : ByteArray) (v : Value) (l : List Hk) (t : ByteArray) (w : World) (hr : RdH w v l) (hw : ∀ c ∈ l, Ub.WfH c ∧ (∀ r ∈ c.rows, r.t.size ≤ maxLen) ∧ c.head.size ≤ maxLen) (hsh : Ub.ArgS v) (hsz : (p1.size ≤ 1048576 ∧ s1.size ≤ 1048576 ∧ p2.size ≤ 1048576 ∧ s2.size ≤ 1048576) ∧ Ub.hkW l ≤ 1048576 ∧ t.size ≤ 1048576) (hy : RdyU w) :
    Calls Tryz.prog 5 #[.agg #[.string p1, .string s1, .string p2, .string s2, v, .string t]] w fun e w' => e = .returned (.bool true) ∧ Below w.heap.size w w' := by
  have HY := hid (fun w1 (h1 : Below w.heap.size w w1) => hy.below h1)
  have HSU := hid (fun w1 (h1 : Below w.heap.size w w1) => sure_any w1 (hy.below h1))
  have HY0 := HY
  clear HY
  have HY : Hid (RdyU w) := hid hy
  obtain ⟨⟨hs1, hs2, hs3, hs4⟩, hkl, hst⟩ := hsz
  have hlsz := Ub.hkW_sz hw hkl
  have hll := Ub.hkW_len l
  have HLZ := hid hlsz
  obtain ⟨va0, vc0, rfl⟩ := hr.shape
  obtain ⟨NL, hNL⟩ : ∃ NL, NL = l.length := ⟨_, rfl⟩
  have HNL := hid hNL
  have HR0 : Hid (RdH w (.slice va0 NL vc0) l) := hid (by rw [hNL]; exact hr)
  rw [← hNL] at hll ⊢
  have hbG := (Below.refl w.heap.size w).alloc (Nat.le_refl _) (.cells #[.string p1, .string s1, .string p2, .string s2, .slice va0 NL vc0, .string t] 47)
  have hkG := heap_alloc_new w (.cells #[.string p1, .string s1, .string p2, .string s2, .slice va0 NL vc0, .string t] 47)
  obtain ⟨G, hG⟩ : ∃ G, G = w.heap.size := ⟨_, rfl⟩
  rw [← hG] at hkG
  have HB1 := hid hbG
  have HGB := hid hkG
  have HL1 := hid (HR0.out.below hbG)
  clear hr hw hsh hlsz hNL hbG hkG hy
  go_enter Tryz.func5, Tryz.ntmps5
  go_wp2_with fail
  rw [← hG]
  clear hG
  generalize w.alloc (.cells #[.string p1, .string s1, .string p2, .string s2, .slice va0 NL vc0, .string t] 47) = w1 at HB1 HGB HL1 ⊢
  have HGL : Hid (G < w1.heap.size) := hid (lt_of_heap HGB.out)
  go_cut [3, 4, 5, 6] (fun x y c5 c6 wc => ∃ X Y : Nat, x = .pointer (some ⟨X, 0, none⟩) ∧ y = .pointer (some ⟨Y, 0, none⟩) ∧ c5 = .slice va0 NL vc0 ∧ c6 = .string t ∧ Hid (TwN w1 wc X Y p1 s1 p2 s2))
  case first =>
    refine wp_region_noPanic ?_
    refine wp_region_held_drew (S := fun w' => Below w1.heap.size w1 w') (by kernel_rfl) ?S (fun hHeld => ?M)
    case S => exact (Below.refl _ _).drew
    have HDR : Hid (Below w1.heap.size w1 w1.drew) := hid ((Below.refl _ _).drew)
    generalize w1.drew = wd at HDR hHeld ⊢
    refine take_d (i := 0) (v := ?v0) 29 rfl rfl (by kernel_rfl) (by kernel_rfl) (by kernel_rfl) (fun _ _ _ h => h) (Or.inl ⟨by rfl, fun ww hSw => ?y0⟩) hHeld ?r0
    case y0 => (dsimp only at hSw; go_simp; all_goals with_reducible rfl)
    try simp only [Act.put]
    try simp only [List.setIfInBounds_toArray]
    try simp only [List.set]
    refine take_d (i := 1) (v := ?v1) 30 rfl rfl (by kernel_rfl) (by kernel_rfl) (by kernel_rfl) (fun _ _ _ h => h) (Or.inl ⟨by rfl, fun ww hSw => ?y1⟩) hHeld ?r1
    case y1 => (dsimp only at hSw; have kk := (hSw.block G HGL.out).trans HGB.out; have t0 : ww.cell? ⟨G, 0, none⟩ = some (.string p1) := cell_of_blk kk 0; have t1 : ww.cell? ⟨G, 1, none⟩ = some (.string s1) := cell_of_blk kk 1; go_simp; all_goals with_reducible rfl)
    try simp only [Act.put]
    try simp only [List.setIfInBounds_toArray]
    try simp only [List.set]
    refine take_d (i := 2) (v := ?v2) 31 rfl rfl (by kernel_rfl) (by kernel_rfl) (by kernel_rfl) (fun _ _ _ h => h) (Or.inl ⟨by rfl, fun ww hSw => ?y2⟩) hHeld ?r2
    case y2 => (dsimp only at hSw; go_simp; all_goals with_reducible rfl)
    try simp only [Act.put]
    try simp only [List.setIfInBounds_toArray]
    try simp only [List.set]
    refine take_d (i := 3) (v := ?v3) 32 rfl rfl (by kernel_rfl) (by kernel_rfl) (by kernel_rfl) (fun _ _ _ h => h) (Or.inl ⟨by rfl, fun ww hSw => ?y3⟩) hHeld ?r3
    case y3 => (dsimp only at hSw; have kk := (hSw.block G HGL.out).trans HGB.out; have t2 : ww.cell? ⟨G, 2, none⟩ = some (.string p2) := cell_of_blk kk 2; have t3 : ww.cell? ⟨G, 3, none⟩ = some (.string s2) := cell_of_blk kk 3; go_simp; all_goals with_reducible rfl)
    try simp only [Act.put]
    try simp only [List.setIfInBounds_toArray]
    try simp only [List.set]
    refine take_d (i := 4) (v := ?v4) 33 rfl rfl (by kernel_rfl) (by kernel_rfl) (by kernel_rfl) (fun _ _ _ h => h) (Or.inl ⟨by rfl, fun ww hSw => ?y4⟩) hHeld ?r4
    case y4 => (dsimp only at hSw; go_simp; all_goals with_reducible rfl)
    try simp only [Act.put]
    try simp only [List.setIfInBounds_toArray]
    try simp only [List.set]
    refine take_d (i := 5) (v := ?v5) 34 rfl rfl (by kernel_rfl) (by kernel_rfl) (by kernel_rfl) (fun _ _ _ h => h) (Or.inl ⟨by rfl, fun ww hSw => ?y5⟩) hHeld ?r5
    case y5 => (dsimp only at hSw; have kk := (hSw.block G HGL.out).trans HGB.out; have t4 : ww.cell? ⟨G, 4, none⟩ = some (.slice va0 NL vc0) := cell_of_blk kk 4; go_simp; all_goals with_reducible rfl)
    try simp only [Act.put]
    try simp only [List.setIfInBounds_toArray]
    try simp only [List.set]
    refine take_d (i := 6) (v := ?v6) 35 rfl rfl (by kernel_rfl) (by kernel_rfl) (by kernel_rfl) (fun _ _ _ h => h) (Or.inl ⟨by rfl, fun ww hSw => ?y6⟩) hHeld ?r6
    case y6 => (dsimp only at hSw; go_simp; all_goals with_reducible rfl)
    try simp only [Act.put]
    try simp only [List.setIfInBounds_toArray]
    try simp only [List.set]
    refine take_d (i := 7) (v := ?v7) 36 rfl rfl (by kernel_rfl) (by kernel_rfl) (by kernel_rfl) (fun _ _ _ h => h) (Or.inl ⟨by rfl, fun ww hSw => ?y7⟩) hHeld ?r7
    case y7 => (dsimp only at hSw; have kk := (hSw.block G HGL.out).trans HGB.out; have t5 : ww.cell? ⟨G, 5, none⟩ = some (.string t) := cell_of_blk kk 5; go_simp; all_goals with_reducible rfl)
    try simp only [Act.put]
    try simp only [List.setIfInBounds_toArray]
    try simp only [List.set]
    refine wpAnyH_ready (rs := [8, 9]) (by kernel_rfl) (by simp) ?pA
    refine AllReadyH.cons rfl (fun K hK => ?_) (AllReadyH.cons rfl (fun K hK => ?_) AllReadyH.nil)
    · skip
      go_simp
      have HA := hid ((Below.refl wd.heap.size wd).alloc (Nat.le_refl _) (.cells #[.string ⟨#[]⟩, .string ⟨#[]⟩] 23))
      have HAk := hid (heap_alloc_new wd (.cells #[.string ⟨#[]⟩, .string ⟨#[]⟩] 23))
      refine hK.out _ _ ?Sa8o8 (fun hHeld => ?Ma8o8)
      case Sa8o8 => exact hHeld.trans (HA.out.mono hHeld.size)
      clear hK K
      try simp only [Act.put]
      try simp only [List.setIfInBounds_toArray]
      try simp only [List.set]
      obtain ⟨wpb, hwpb⟩ : ∃ wpb, wpb = wd.heap.size := ⟨_, rfl⟩
      rw [← hwpb] at HAk ⊢
      have Hwpb : Hid (wpb = wd.heap.size) := hid hwpb
      generalize wd.alloc (.cells #[.string ⟨#[]⟩, .string ⟨#[]⟩] 23) = wp at hHeld HA HAk ⊢
      clear hwpb
      refine wpAnyH_ready (rs := [9]) (by kernel_rfl) (by simp) ?pz8
      refine AllReadyH.cons rfl (fun K hK => ?_) AllReadyH.nil
      go_simp
      have HC := hid ((Below.refl wp.heap.size wp).alloc (Nat.le_refl _) (.cells #[.string ⟨#[]⟩, .string ⟨#[]⟩] 23))
      have HCk := hid (heap_alloc_new wp (.cells #[.string ⟨#[]⟩, .string ⟨#[]⟩] 23))
      refine hK.out _ _ ?Sa9o8 (fun hHeld => ?Ma9o8)
      case Sa9o8 => exact hHeld.trans (HC.out.mono hHeld.size)
      clear hK K
      try simp only [Act.put]
      try simp only [List.setIfInBounds_toArray]
      try simp only [List.set]
      obtain ⟨wqb, hwqb⟩ : ∃ wqb, wqb = wp.heap.size := ⟨_, rfl⟩
      rw [← hwqb] at HCk ⊢
      have Hwqb : Hid (wqb = wp.heap.size) := hid hwqb
      generalize wp.alloc (.cells #[.string ⟨#[]⟩, .string ⟨#[]⟩] 23) = wq at hHeld HC HCk ⊢
      clear hwqb
      have HP1 := hid ((HC.out.block wpb (lt_of_heap HAk.out)).trans HAk.out)
      have hne : wpb ≠ wqb := by have := lt_of_heap HAk.out; have := Hwqb.out; omega
      have hgp : w1.heap.size ≤ wpb := by have := HDR.out.size; have := Hwpb.out; omega
      have hgq : w1.heap.size ≤ wqb := by have := HDR.out.size; have := HA.out.size; have := Hwqb.out; omega
      refine wpAnyH_ready (rs := [10]) (by kernel_rfl) (by simp) ?py8
      refine AllReadyH.cons rfl (fun K hK => ?_) AllReadyH.nil
      rw [if_pos (by rfl)]
      refine wpOp_stA 23 #[.string p1, .string s1] rfl HP1.out Tryz.sizeName rfl rfl rfl rfl ?_
      intro ws hks hkps
      have HS1 := hid hks
      have HS2 := hid ((hkps.block wqb (lt_of_heap HCk.out) (by omega)).trans HCk.out)
      refine hK.out _ _ ?Ss8 (fun hHeld => ?Ms8)
      case Ss8 => exact Kept.onto hHeld hkps (by omega) (Nat.le_refl _)
      clear hK K hks hkps
      try simp only [Act.put]
      try simp only [List.setIfInBounds_toArray]
      try simp only [List.set]
      refine wpAnyH_ready (rs := [11]) (by kernel_rfl) (by simp) ?px8
      refine AllReadyH.cons rfl (fun K hK => ?_) AllReadyH.nil
      rw [if_pos (by rfl)]
      refine wpOp_stA 23 #[.string p2, .string s2] rfl HS2.out Tryz.sizeName rfl rfl rfl rfl ?_
      intro wt hkt hkpt
      have HT2 := hid hkt
      have HT1 := hid ((hkpt.block wpb (lt_of_heap HS1.out) (by omega)).trans HS1.out)
      refine hK.out _ _ ?St8 (fun hHeld => ?Mt8)
      case St8 => exact Kept.onto hHeld hkpt (by omega) (Nat.le_refl _)
      clear hK K hkt hkpt
      try simp only [Act.put]
      try simp only [List.setIfInBounds_toArray]
      try simp only [List.set]
      refine wpAnyH_ready (rs := [12]) (by kernel_rfl) (by simp) ?pv128
      refine AllReadyH.cons rfl (fun K hK => ?_) AllReadyH.nil
      go_simp
      refine hK.out _ _ ?Sv128 (fun hHeld => ?Mv128)
      case Sv128 => exact hHeld
      clear hK K
      try simp only [Act.put]
      try simp only [List.setIfInBounds_toArray]
      try simp only [List.set]
      refine wpAnyH_ready (rs := [13]) (by kernel_rfl) (by simp) ?pv138
      refine AllReadyH.cons rfl (fun K hK => ?_) AllReadyH.nil
      go_simp
      refine hK.out _ _ ?Sv138 (fun hHeld => ?Mv138)
      case Sv138 => exact hHeld
      clear hK K
      try simp only [Act.put]
      try simp only [List.setIfInBounds_toArray]
      try simp only [List.set]
      refine wpAnyH_done (by kernel_rfl) ?_ _
      refine NoPanic.normal ?_
      go_wp2_with fail
      go_meet
      exact ⟨_, _, rfl, rfl, rfl, rfl, hid ⟨hHeld, HT1.out, HT2.out⟩⟩
    · skip
      go_simp
      have HA := hid ((Below.refl wd.heap.size wd).alloc (Nat.le_refl _) (.cells #[.string ⟨#[]⟩, .string ⟨#[]⟩] 23))
      have HAk := hid (heap_alloc_new wd (.cells #[.string ⟨#[]⟩, .string ⟨#[]⟩] 23))
      refine hK.out _ _ ?Sa9o9 (fun hHeld => ?Ma9o9)
      case Sa9o9 => exact hHeld.trans (HA.out.mono hHeld.size)
      clear hK K
      try simp only [Act.put]
      try simp only [List.setIfInBounds_toArray]
      try simp only [List.set]
      obtain ⟨wpb, hwpb⟩ : ∃ wpb, wpb = wd.heap.size := ⟨_, rfl⟩
      rw [← hwpb] at HAk ⊢
      have Hwpb : Hid (wpb = wd.heap.size) := hid hwpb
      generalize wd.alloc (.cells #[.string ⟨#[]⟩, .string ⟨#[]⟩] 23) = wp at hHeld HA HAk ⊢
      clear hwpb
      refine wpAnyH_ready (rs := [8]) (by kernel_rfl) (by simp) ?pz9
      refine AllReadyH.cons rfl (fun K hK => ?_) AllReadyH.nil
      go_simp
      have HC := hid ((Below.refl wp.heap.size wp).alloc (Nat.le_refl _) (.cells #[.string ⟨#[]⟩, .string ⟨#[]⟩] 23))
      have HCk := hid (heap_alloc_new wp (.cells #[.string ⟨#[]⟩, .string ⟨#[]⟩] 23))
      refine hK.out _ _ ?Sa8o9 (fun hHeld => ?Ma8o9)
      case Sa8o9 => exact hHeld.trans (HC.out.mono hHeld.size)
      clear hK K
      try simp only [Act.put]
      try simp only [List.setIfInBounds_toArray]
      try simp only [List.set]
      obtain ⟨wqb, hwqb⟩ : ∃ wqb, wqb = wp.heap.size := ⟨_, rfl⟩
      rw [← hwqb] at HCk ⊢
      have Hwqb : Hid (wqb = wp.heap.size) := hid hwqb
      generalize wp.alloc (.cells #[.string ⟨#[]⟩, .string ⟨#[]⟩] 23) = wq at hHeld HC HCk ⊢
      clear hwqb
      have HP1 := hid ((HC.out.block wpb (lt_of_heap HAk.out)).trans HAk.out)
      have hne : wpb ≠ wqb := by have := lt_of_heap HAk.out; have := Hwqb.out; omega
      have hgp : w1.heap.size ≤ wpb := by have := HDR.out.size; have := Hwpb.out; omega
      have hgq : w1.heap.size ≤ wqb := by have := HDR.out.size; have := HA.out.size; have := Hwqb.out; omega
      refine wpAnyH_ready (rs := [10]) (by kernel_rfl) (by simp) ?py9
      refine AllReadyH.cons rfl (fun K hK => ?_) AllReadyH.nil
      rw [if_pos (by rfl)]
      refine wpOp_stA 23 #[.string p1, .string s1] rfl HCk.out Tryz.sizeName rfl rfl rfl rfl ?_
      intro ws hks hkps
      have HS1 := hid hks
      have HS2 := hid ((hkps.block wpb (lt_of_heap HP1.out) (by omega)).trans HP1.out)
      refine hK.out _ _ ?Ss9 (fun hHeld => ?Ms9)
      case Ss9 => exact Kept.onto hHeld hkps (by omega) (Nat.le_refl _)
      clear hK K hks hkps
      try simp only [Act.put]
      try simp only [List.setIfInBounds_toArray]
      try simp only [List.set]
      refine wpAnyH_ready (rs := [11]) (by kernel_rfl) (by simp) ?px9
      refine AllReadyH.cons rfl (fun K hK => ?_) AllReadyH.nil
      rw [if_pos (by rfl)]
      refine wpOp_stA 23 #[.string p2, .string s2] rfl HS2.out Tryz.sizeName rfl rfl rfl rfl ?_
      intro wt hkt hkpt
      have HT2 := hid hkt
      have HT1 := hid ((hkpt.block wqb (lt_of_heap HS1.out) (by omega)).trans HS1.out)
      refine hK.out _ _ ?St9 (fun hHeld => ?Mt9)
      case St9 => exact Kept.onto hHeld hkpt (by omega) (Nat.le_refl _)
      clear hK K hkt hkpt
      try simp only [Act.put]
      try simp only [List.setIfInBounds_toArray]
      try simp only [List.set]
      refine wpAnyH_ready (rs := [12]) (by kernel_rfl) (by simp) ?pv129
      refine AllReadyH.cons rfl (fun K hK => ?_) AllReadyH.nil
      go_simp
      refine hK.out _ _ ?Sv129 (fun hHeld => ?Mv129)
      case Sv129 => exact hHeld
      clear hK K
      try simp only [Act.put]
      try simp only [List.setIfInBounds_toArray]
      try simp only [List.set]
      refine wpAnyH_ready (rs := [13]) (by kernel_rfl) (by simp) ?pv139
      refine AllReadyH.cons rfl (fun K hK => ?_) AllReadyH.nil
      go_simp
      refine hK.out _ _ ?Sv139 (fun hHeld => ?Mv139)
      case Sv139 => exact hHeld
      clear hK K
      try simp only [Act.put]
      try simp only [List.setIfInBounds_toArray]
      try simp only [List.set]
      refine wpAnyH_done (by kernel_rfl) ?_ _
      refine NoPanic.normal ?_
      go_wp2_with fail
      go_meet
      exact ⟨_, _, rfl, rfl, rfl, rfl, hid ⟨hHeld, HT1.out, HT2.out⟩⟩
  case rest =>
    obtain ⟨X, Y, rfl, rfl, rfl, rfl, HT⟩ := hcut
    obtain ⟨w2, hw2⟩ : ∃ z, z = wc := ⟨_, rfl⟩
    subst hw2
    obtain ⟨hb2, hX, hYY⟩ := HT.out
    have HBw2 := hid (HB1.out.trans (hb2.mono HB1.out.size))
    have HLw2 := hid (HL1.out.below hb2)
    have HX := hid hX
    have HYY := hid hYY
    clear hb2 hX hYY HT HB1 HGB HL1 HGL
    have x0 : w2.cell? ⟨X, 0, none⟩ = some (.string p1) := cell_of_blk HX.out 0
    have x1 : w2.cell? ⟨X, 1, none⟩ = some (.string s1) := cell_of_blk HX.out 1
    have z0 : w2.cell? ⟨Y, 0, none⟩ = some (.string p2) := cell_of_blk HYY.out 0
    have z1 : w2.cell? ⟨Y, 1, none⟩ = some (.string s2) := cell_of_blk HYY.out 1
    by_cases hF : fltN (p1.data.toList, s1.data.toList) (p2.data.toList, s2.data.toList) l = 0
    · have HFY := hid (Ub.flt_yes hF)
      have hchk := Ub.chk_yes HFY.out.2.2
      have HCH := hid hchk
      have hlen1 := Ub.hunks_len l hchk.1
      have HPR := hid (uprint_ok (w := w2) (v := .slice va0 NL vc0) (hs := l) p1 s1 p2 s2 HLw2.out (HY.out.below HBw2.out).pow HFY.out.2.2 HLZ.out (by rw [← HNL.out]; omega) (by omega) (by omega) (by omega) (by omega) HFY.out.1 HFY.out.2.1 (by omega))
      obtain ⟨PT, hPT⟩ : ∃ PT, PT = bB (Un.printT (p1.data.toList, s1.data.toList) (p2.data.toList, s2.data.toList) l) := ⟨_, rfl⟩
      rw [← hPT] at HPR
      have HPT := hid hPT
      clear hF hchk hPT
      go_wp2_with fail
      refine HPR.out.mono ?_
      rintro e w3 ⟨rfl, hb3⟩
      have HBw3 := hid (HBw2.out.trans (hb3.mono HBw2.out.size))
      have HLw3 := hid (HLw2.out.below hb3)
      have HXw3 := hid ((hb3.block X (lt_of_heap HX.out)).trans HX.out)
      have HYw3 := hid ((hb3.block Y (lt_of_heap HYY.out)).trans HYY.out)
      clear hb3 x0 x1 z0 z1 HPR
      rcases Nat.eq_zero_or_pos NL with h0 | h0
      · have k1 : ¬ ((0 : Int) < (NL : Int)) := by omega
        clear h0
        cases hp : Un.parse t.data.toList with
        | bad c er =>
          have HPB := hid (pa_bad hp (HY.out.below HBw3.out).lib (by unfold maxLen; omega))
          clear hp
          go_wp2_with fail
          refine HPB.out.mono ?_
          rintro e wa ⟨hba, rfl⟩
          have HBwa := hid (HBw3.out.trans (hba.mono HBw3.out.size))
          clear hba
          obtain ⟨hbN, n1, n2⟩ := twoF wa (.cells #[.string ⟨#[]⟩, .string ⟨#[]⟩] 23) (.cells #[.string ⟨#[]⟩, .string ⟨#[]⟩] 23)
          have HBNwc := hid hbN
          have P1wc := hid n1
          have P2wc := hid n2
          obtain ⟨C, hC⟩ : ∃ C, C = wa.heap.size := ⟨_, rfl⟩
          rw [← hC] at P1wc P2wc
          have HCW := hid hC
          clear hbN n1 n2
          go_wp2_with (first | (guard_target =~ wpList _ _ _ (_ :: _) _ _; rw [← hC]; refine wpList_stA 23 #[.string ⟨#[]⟩, .string ⟨#[]⟩] rfl rfl P1wc.out Tryz.sizeName rfl rfl rfl rfl ?_; intro wb hk1 hkp1; have Q1wc := hid hk1; have HPwb := hid hkp1; have Q2wc := hid ((hkp1.block (C + 1) (lt_of_heap P2wc.out) (by omega)).trans P2wc.out); clear hk1 hkp1 hC) | (guard_target =~ wpList _ _ _ (_ :: _) _ _; refine wpList_stA 23 #[.string ⟨#[]⟩, .string ⟨#[]⟩] rfl rfl Q2wc.out Tryz.sizeName rfl rfl rfl rfl ?_; intro wc hk2 hkp2; have R2wc := hid hk2; have R1wc := hid ((hkp2.block C (lt_of_heap Q1wc.out) (by omega)).trans Q1wc.out); have HKwc : Hid (Below C wa wc) := hid (Kept.onto (Kept.onto (HCW.out ▸ HBNwc.out) HPwb.out (Nat.le_refl _) (Nat.le_of_eq HCW.out)) hkp2 (Nat.le_succ _) (Nat.le_of_eq HCW.out)); have HBwc := hid (HBwa.out.trans (HKwc.out.mono (by rw [HCW.out]; exact HBwa.out.size))); clear hk2 hkp2))
          refine (HSU.out wc HBwc.out).mono ?_
          rintro e wd ⟨rfl, hbS⟩
          have HBwd := hid (HBwc.out.trans (hbS.mono HBwc.out.size))
          clear hbS
          go_wp2_with fail
          go_ret
          exact ⟨rfl, HBwd.out⟩
        | ok o q hs rest =>
          have hgood := Ub.parse_good hp
          have hnames := Ub.parse_names hp
          rw [dsize] at hgood hnames
          have HPO := hid (pa_ok hp (HY.out.below HBw3.out).lib (by unfold maxLen; omega))
          have hfl := Ub.flt_read hp
          have hck := Ub.chk_good hgood.2.1 hgood.2.2.1
          have hlen2 := Ub.hunks_len hs hgood.2.1
          have hshort := Nat.le_trans (Ub.parse_few hp) (show 4194304 ≤ 5000000 by decide)
          have hszs := Ub.parse_sz hp
          have HGD := hid hgood
          obtain ⟨M, hM⟩ : ∃ M, M = hs.length := ⟨_, rfl⟩
          have HMM := hid hM
          rw [← hM] at HPO
          clear hp hM
          go_wp2_with fail
          refine HPO.out.mono ?_
          rintro e wa ⟨hba, va, vc, rfl, hO, _, _⟩
          have HBwa := hid (HBw3.out.trans (hba.mono HBw3.out.size))
          have HMwa : Hid (RdH wa (.slice va M vc) hs) := hid hO.rd
          clear hba hO HPO
          obtain ⟨hbN, n1, n2⟩ := twoF wa (.cells #[.string ⟨#[]⟩, .string ⟨#[]⟩] 23) (.cells #[.string ⟨#[]⟩, .string ⟨#[]⟩] 23)
          have HBNwc := hid hbN
          have P1wc := hid n1
          have P2wc := hid n2
          obtain ⟨C, hC⟩ : ∃ C, C = wa.heap.size := ⟨_, rfl⟩
          rw [← hC] at P1wc P2wc
          have HCW := hid hC
          clear hbN n1 n2
          go_wp2_with (first | (guard_target =~ wpList _ _ _ (_ :: _) _ _; rw [← hC]; refine wpList_stA 23 #[.string (bB o.1), .string (bB o.2)] rfl rfl P1wc.out Tryz.sizeName rfl rfl rfl rfl ?_; intro wb hk1 hkp1; have Q1wc := hid hk1; have HPwb := hid hkp1; have Q2wc := hid ((hkp1.block (C + 1) (lt_of_heap P2wc.out) (by omega)).trans P2wc.out); clear hk1 hkp1 hC) | (guard_target =~ wpList _ _ _ (_ :: _) _ _; refine wpList_stA 23 #[.string (bB q.1), .string (bB q.2)] rfl rfl Q2wc.out Tryz.sizeName rfl rfl rfl rfl ?_; intro wc hk2 hkp2; have R2wc := hid hk2; have R1wc := hid ((hkp2.block C (lt_of_heap Q1wc.out) (by omega)).trans Q1wc.out); have HKwc : Hid (Below C wa wc) := hid (Kept.onto (Kept.onto (HCW.out ▸ HBNwc.out) HPwb.out (Nat.le_refl _) (Nat.le_of_eq HCW.out)) hkp2 (Nat.le_succ _) (Nat.le_of_eq HCW.out)); have HBwc := hid (HBwa.out.trans (HKwc.out.mono (by rw [HCW.out]; exact HBwa.out.size))); have HMwc : Hid (RdH wc (.slice va M vc) hs) := hid (HMwa.out.below (HCW.out ▸ HKwc.out)); have R1Cwc := R1wc; have R2Cwc := R2wc; have C0wc : wc.cell? ⟨C, 0, none⟩ = some (.string (bB o.1)) := cell_of_blk R1wc.out 0; have C1wc : wc.cell? ⟨C, 1, none⟩ = some (.string (bB o.2)) := cell_of_blk R1wc.out 1; have C2wc : wc.cell? ⟨C + 1, 0, none⟩ = some (.string (bB q.1)) := cell_of_blk R2wc.out 0; have C3wc : wc.cell? ⟨C + 1, 1, none⟩ = some (.string (bB q.2)) := cell_of_blk R2wc.out 1; clear hk2 hkp2))
          rcases hfl with hf | hf
          · have HPR := hid (uprint_ok (w := wc) (v := .slice va M vc) (hs := hs) (bB o.1) (bB o.2) (bB q.1) (bB q.2) HMwc.out (HY.out.below HBwc.out).pow hck hszs hshort (by rw [Ub.bB_size]; omega) (by rw [Ub.bB_size]; omega) (by rw [Ub.bB_size]; omega) (by rw [Ub.bB_size]; omega) (Ub.flt_yes hf).1 (Ub.flt_yes hf).2.1 (by omega))
            rw [bB_data, bB_data, bB_data, bB_data] at HPR
            have HNK := hid (Ub.flt_yes hf)
            obtain ⟨PT, hPT⟩ : ∃ PT, PT = bB (Un.printT (o.1, o.2) (q.1, q.2) hs) := ⟨_, rfl⟩
            rw [← hPT] at HPR
            have HPT := hid hPT
            clear hf hPT hck hgood
            refine HPR.out.mono ?_
            rintro e we ⟨rfl, hbe⟩
            have HBwe := hid (HBwc.out.trans (hbe.mono HBwc.out.size))
            have R1Cwe := hid ((hbe.block C (lt_of_heap R1Cwc.out)).trans R1Cwc.out)
            have R2Cwe := hid ((hbe.block (C + 1) (lt_of_heap R2Cwc.out)).trans R2Cwc.out)
            have HMwe := hid (HMwc.out.below hbe)
            clear hbe HPR C0wc C1wc C2wc C3wc
            go_wp2_with fail
            refine (num_nil we).mono ?_
            rintro e wf ⟨rfl, hbf⟩
            have HBwf := hid (HBwe.out.trans (hbf.mono HBwe.out.size))
            have R1Cwf := hid ((hbf.block C (lt_of_heap R1Cwe.out)).trans R1Cwe.out)
            have R2Cwf := hid ((hbf.block (C + 1) (lt_of_heap R2Cwe.out)).trans R2Cwe.out)
            have HMwf := hid (HMwe.out.below hbf)
            clear hbf
            by_cases hlong : 4194304 < PT.size
            · have j1 : (4194304 : Int) < (PT.size : Int) := by omega
              clear hlong
              go_wp2_with fail
              refine (HSU.out wf HBwf.out).mono ?_
              rintro e wg ⟨rfl, hbS⟩
              have HBwg := hid (HBwf.out.trans (hbS.mono HBwf.out.size))
              clear hbS
              go_wp2_with fail
              go_ret
              exact ⟨rfl, HBwg.out⟩
            · have j1 : ¬ ((4194304 : Int) < (PT.size : Int)) := by omega
              have hPB : Un.parse PT.data.toList = .ok o q hs [] := by
                rw [HPT.out, bB_data]
                exact Un.print_back (o := o) (q := q) HNK.out.1 HNK.out.2.1 HGD.out.1 HGD.out.2.1 HGD.out.2.2.1 (by
                  have h9 : PT.size ≤ 4194304 := by omega
                  rw [HPT.out, Ub.bB_size] at h9
                  exact h9)
              have HP2 := hid (pa_ok hPB (HY.out.below HBwf.out).lib (by unfold maxLen; omega))
              have y1 : (bB o.1 == bB o.1) = true := ba_sameU _
              have y2 : (bB o.2 == bB o.2) = true := ba_sameU _
              have y3 : (bB q.1 == bB q.1) = true := ba_sameU _
              have y4 : (bB q.2 == bB q.2) = true := ba_sameU _
              have e0 : bB ([] : Un.Bs) = ⟨#[]⟩ := rfl
              rw [e0, ← HMM.out] at HP2
              clear hPB hlong e0
              go_wp2_with fail
              refine HP2.out.mono ?_
              rintro e wg ⟨hbg, vb, vd, rfl, hO2, _, _⟩
              have HBwg := hid (HBwf.out.trans (hbg.mono HBwf.out.size))
              have R1Cwg := hid ((hbg.block C (lt_of_heap R1Cwf.out)).trans R1Cwf.out)
              have R2Cwg := hid ((hbg.block (C + 1) (lt_of_heap R2Cwf.out)).trans R2Cwf.out)
              have HMwg := hid (HMwf.out.below hbg)
              have HNwg : Hid (RdH wg (.slice vb M vd) hs) := hid hO2.rd
              clear hbg hO2 HP2
              obtain ⟨hbN, n1, n2⟩ := twoF wg (.cells #[.string ⟨#[]⟩, .string ⟨#[]⟩] 23) (.cells #[.string ⟨#[]⟩, .string ⟨#[]⟩] 23)
              have HBNwi := hid hbN
              have P1wi := hid n1
              have P2wi := hid n2
              obtain ⟨D, hD⟩ : ∃ D, D = wg.heap.size := ⟨_, rfl⟩
              rw [← hD] at P1wi P2wi
              have HDW := hid hD
              clear hbN n1 n2
              have HMF : Hid (∀ w', Below D wg w' → w'.cell? ⟨C, 0, none⟩ = some (.string (bB o.1)) ∧ w'.cell? ⟨C, 1, none⟩ = some (.string (bB o.2)) ∧ w'.cell? ⟨C + 1, 0, none⟩ = some (.string (bB q.1)) ∧ w'.cell? ⟨C + 1, 1, none⟩ = some (.string (bB q.2))) := hid (fun w' hb' => by
                have h8 := lt_of_heap R2Cwg.out
                have h9 := HDW.out
                have k1 := (hb'.block C (by omega)).trans R1Cwg.out
                have k2 := (hb'.block (C + 1) (by omega)).trans R2Cwg.out
                exact ⟨cell_of_blk k1 0, cell_of_blk k1 1, cell_of_blk k2 0, cell_of_blk k2 1⟩)
              go_wp2_with (first | (guard_target =~ wpList _ _ _ (_ :: _) _ _; rw [← hD]; refine wpList_stA 23 #[.string (bB o.1), .string (bB o.2)] rfl rfl P1wi.out Tryz.sizeName rfl rfl rfl rfl ?_; intro wh hk1 hkp1; have Q1wi := hid hk1; have HPwh := hid hkp1; have Q2wi := hid ((hkp1.block (D + 1) (lt_of_heap P2wi.out) (by omega)).trans P2wi.out); clear hk1 hkp1 hD) | (guard_target =~ wpList _ _ _ (_ :: _) _ _; refine wpList_stA 23 #[.string (bB q.1), .string (bB q.2)] rfl rfl Q2wi.out Tryz.sizeName rfl rfl rfl rfl ?_; intro wi hk2 hkp2; have R2wi := hid hk2; have R1wi := hid ((hkp2.block D (lt_of_heap Q1wi.out) (by omega)).trans Q1wi.out); have HKwi : Hid (Below D wg wi) := hid (Kept.onto (Kept.onto (HDW.out ▸ HBNwi.out) HPwh.out (Nat.le_refl _) (Nat.le_of_eq HDW.out)) hkp2 (Nat.le_succ _) (Nat.le_of_eq HDW.out)); have HBwi := hid (HBwg.out.trans (HKwi.out.mono (by rw [HDW.out]; exact HBwg.out.size))); have HMwi : Hid (RdH wi (.slice va M vc) hs) := hid (HMwg.out.below (HDW.out ▸ HKwi.out)); have HNwi : Hid (RdH wi (.slice vb M vd) hs) := hid (HNwg.out.below (HDW.out ▸ HKwi.out)); obtain ⟨m0, m1, m2, m3⟩ := HMF.out wi HKwi.out; have D0wi : wi.cell? ⟨D, 0, none⟩ = some (.string (bB o.1)) := cell_of_blk R1wi.out 0; have D1wi : wi.cell? ⟨D, 1, none⟩ = some (.string (bB o.2)) := cell_of_blk R1wi.out 1; have D2wi : wi.cell? ⟨D + 1, 0, none⟩ = some (.string (bB q.1)) := cell_of_blk R2wi.out 0; have D3wi : wi.cell? ⟨D + 1, 1, none⟩ = some (.string (bB q.2)) := cell_of_blk R2wi.out 1; clear hk2 hkp2))
              refine (sameHunks_yes HNwi.out HMwi.out hshort (fun h hh => (hszs h hh).rowsLe)).mono ?_
              rintro e wj ⟨rfl, hbj⟩
              have HBwj := hid (HBwi.out.trans (hbj.mono HBwi.out.size))
              clear hbj
              go_wp2_with fail
              refine (HSU.out wj HBwj.out).mono ?_
              rintro e wk ⟨rfl, hbS⟩
              have HBwk := hid (HBwj.out.trans (hbS.mono HBwj.out.size))
              clear hbS
              go_wp2_with fail
              go_ret
              exact ⟨rfl, HBwk.out⟩
          · have HPR := hid (uprint_bad (w := wc) (v := .slice va M vc) (hs := hs) (bB o.1) (bB o.2) (bB q.1) (bB q.2) HMwc.out hszs hshort (by rw [Ub.bB_size]; omega) (by rw [Ub.bB_size]; omega) (by rw [bB_data, bB_data, bB_data, bB_data, hf]; decide))
            rw [bB_data, bB_data, bB_data, bB_data, hf] at HPR
            clear hf hck hgood
            refine HPR.out.mono ?_
            rintro e we ⟨rfl, hbe⟩
            have HBwe := hid (HBwc.out.trans (hbe.mono HBwc.out.size))
            clear hbe HPR C0wc C1wc C2wc C3wc
            go_wp2_with fail
            refine (num_errno 110 we (HY.out.below HBwe.out).err).mono ?_
            rintro e wf ⟨rfl, hbf⟩
            have HBwf := hid (HBwe.out.trans (hbf.mono HBwe.out.size))
            clear hbf
            go_wp2_with fail
            refine (HSU.out wf HBwf.out).mono ?_
            rintro e wg ⟨rfl, hbS⟩
            have HBwg := hid (HBwf.out.trans (hbS.mono HBwf.out.size))
            clear hbS
            go_wp2_with fail
            go_ret
            exact ⟨rfl, HBwg.out⟩
      · have k1 : (0 : Int) < (NL : Int) := by omega
        by_cases hlong : PT.size ≤ 4194304
        · have k2 : (PT.size : Int) ≤ 4194304 := by omega
          have hPB : Un.parse PT.data.toList = .ok (p1.data.toList, s1.data.toList) (p2.data.toList, s2.data.toList) l [] := by
            rw [HPT.out, bB_data]
            exact Un.print_back HFY.out.1 HFY.out.2.1 (fun e => by rw [HNL.out, e] at h0; exact absurd h0 (by decide)) HCH.out.1 HCH.out.2 (by rw [HPT.out, Ub.bB_size] at hlong; exact hlong)
          have HP1 := hid (pa_ok hPB (HY.out.below HBw3.out).lib (by unfold maxLen; omega))
          have e0 : bB ([] : Un.Bs) = ⟨#[]⟩ := rfl
          rw [e0, bB_eta, bB_eta, bB_eta, bB_eta, ← HNL.out] at HP1
          have y1 : (p1 == p1) = true := ba_sameU _
          have y2 : (s1 == s1) = true := ba_sameU _
          have y3 : (p2 == p2) = true := ba_sameU _
          have y4 : (s2 == s2) = true := ba_sameU _
          clear hPB hlong h0 e0
          go_wp2_with fail
          refine HP1.out.mono ?_
          rintro e w4 ⟨hb4, vb, vd, rfl, hO, _, _⟩
          have HBw4 := hid (HBw3.out.trans (hb4.mono HBw3.out.size))
          have HLw4 := hid (HLw3.out.below hb4)
          have HNw4 : Hid (RdH w4 (.slice vb NL vd) l) := hid hO.rd
          have HXw4 := hid ((hb4.block X (lt_of_heap HXw3.out)).trans HXw3.out)
          have HYw4 := hid ((hb4.block Y (lt_of_heap HYw3.out)).trans HYw3.out)
          clear hb4 hO HP1
          obtain ⟨hbN, n1, n2⟩ := twoF w4 (.cells #[.string ⟨#[]⟩, .string ⟨#[]⟩] 23) (.cells #[.string ⟨#[]⟩, .string ⟨#[]⟩] 23)
          have HBNw6 := hid hbN
          have P1w6 := hid n1
          have P2w6 := hid n2
          obtain ⟨A, hA⟩ : ∃ A, A = w4.heap.size := ⟨_, rfl⟩
          rw [← hA] at P1w6 P2w6
          have HAW := hid hA
          clear hbN n1 n2
          have HMF : Hid (∀ w', Below A w4 w' → w'.cell? ⟨X, 0, none⟩ = some (.string p1) ∧ w'.cell? ⟨X, 1, none⟩ = some (.string s1) ∧ w'.cell? ⟨Y, 0, none⟩ = some (.string p2) ∧ w'.cell? ⟨Y, 1, none⟩ = some (.string s2)) := hid (fun w' hb' => by
            have h7 := lt_of_heap HXw4.out
            have h8 := lt_of_heap HYw4.out
            have h9 := HAW.out
            have k1 := (hb'.block X (by omega)).trans HXw4.out
            have k2 := (hb'.block Y (by omega)).trans HYw4.out
            exact ⟨cell_of_blk k1 0, cell_of_blk k1 1, cell_of_blk k2 0, cell_of_blk k2 1⟩)
          go_wp2_with (first | (guard_target =~ wpList _ _ _ (_ :: _) _ _; rw [← hA]; refine wpList_stA 23 #[.string p1, .string s1] rfl rfl P1w6.out Tryz.sizeName rfl rfl rfl rfl ?_; intro w5 hk1 hkp1; have Q1w6 := hid hk1; have HPw5 := hid hkp1; have Q2w6 := hid ((hkp1.block (A + 1) (lt_of_heap P2w6.out) (by omega)).trans P2w6.out); clear hk1 hkp1 hA) | (guard_target =~ wpList _ _ _ (_ :: _) _ _; refine wpList_stA 23 #[.string p2, .string s2] rfl rfl Q2w6.out Tryz.sizeName rfl rfl rfl rfl ?_; intro w6 hk2 hkp2; have R2w6 := hid hk2; have R1w6 := hid ((hkp2.block A (lt_of_heap Q1w6.out) (by omega)).trans Q1w6.out); have HKw6 : Hid (Below A w4 w6) := hid (Kept.onto (Kept.onto (HAW.out ▸ HBNw6.out) HPw5.out (Nat.le_refl _) (Nat.le_of_eq HAW.out)) hkp2 (Nat.le_succ _) (Nat.le_of_eq HAW.out)); have HBw6 := hid (HBw4.out.trans (HKw6.out.mono (by rw [HAW.out]; exact HBw4.out.size))); have HLw6 : Hid (RdH w6 (.slice va0 NL vc0) l) := hid (HLw4.out.below (HAW.out ▸ HKw6.out)); have HNw6 : Hid (RdH w6 (.slice vb NL vd) l) := hid (HNw4.out.below (HAW.out ▸ HKw6.out)); obtain ⟨m0, m1, m2, m3⟩ := HMF.out w6 HKw6.out; have A0w6 : w6.cell? ⟨A, 0, none⟩ = some (.string p1) := cell_of_blk R1w6.out 0; have A1w6 : w6.cell? ⟨A, 1, none⟩ = some (.string s1) := cell_of_blk R1w6.out 1; have A2w6 : w6.cell? ⟨A + 1, 0, none⟩ = some (.string p2) := cell_of_blk R2w6.out 0; have A3w6 : w6.cell? ⟨A + 1, 1, none⟩ = some (.string s2) := cell_of_blk R2w6.out 1; clear hk2 hkp2))
          refine (sameHunks_yes HLw6.out HNw6.out (by rw [← HNL.out]; omega) (fun h hh => (HLZ.out h hh).rowsLe)).mono ?_
          rintro e w7 ⟨rfl, hb7⟩
          have HBw7 := hid (HBw6.out.trans (hb7.mono HBw6.out.size))
          clear hb7
          clear m0 m1 m2 m3 A0w6 A1w6 A2w6 A3w6 y1 y2 y3 y4
          cases hp : Un.parse t.data.toList with
          | bad c er =>
            have HPB := hid (pa_bad hp (HY.out.below HBw7.out).lib (by unfold maxLen; omega))
            clear hp
            go_wp2_with fail
            refine HPB.out.mono ?_
            rintro e wa ⟨hba, rfl⟩
            have HBwa := hid (HBw7.out.trans (hba.mono HBw7.out.size))
            clear hba
            obtain ⟨hbN, n1, n2⟩ := twoF wa (.cells #[.string ⟨#[]⟩, .string ⟨#[]⟩] 23) (.cells #[.string ⟨#[]⟩, .string ⟨#[]⟩] 23)
            have HBNwc := hid hbN
            have P1wc := hid n1
            have P2wc := hid n2
            obtain ⟨C, hC⟩ : ∃ C, C = wa.heap.size := ⟨_, rfl⟩
            rw [← hC] at P1wc P2wc
            have HCW := hid hC
            clear hbN n1 n2
            go_wp2_with (first | (guard_target =~ wpList _ _ _ (_ :: _) _ _; rw [← hC]; refine wpList_stA 23 #[.string ⟨#[]⟩, .string ⟨#[]⟩] rfl rfl P1wc.out Tryz.sizeName rfl rfl rfl rfl ?_; intro wb hk1 hkp1; have Q1wc := hid hk1; have HPwb := hid hkp1; have Q2wc := hid ((hkp1.block (C + 1) (lt_of_heap P2wc.out) (by omega)).trans P2wc.out); clear hk1 hkp1 hC) | (guard_target =~ wpList _ _ _ (_ :: _) _ _; refine wpList_stA 23 #[.string ⟨#[]⟩, .string ⟨#[]⟩] rfl rfl Q2wc.out Tryz.sizeName rfl rfl rfl rfl ?_; intro wc hk2 hkp2; have R2wc := hid hk2; have R1wc := hid ((hkp2.block C (lt_of_heap Q1wc.out) (by omega)).trans Q1wc.out); have HKwc : Hid (Below C wa wc) := hid (Kept.onto (Kept.onto (HCW.out ▸ HBNwc.out) HPwb.out (Nat.le_refl _) (Nat.le_of_eq HCW.out)) hkp2 (Nat.le_succ _) (Nat.le_of_eq HCW.out)); have HBwc := hid (HBwa.out.trans (HKwc.out.mono (by rw [HCW.out]; exact HBwa.out.size))); clear hk2 hkp2))
            refine (HSU.out wc HBwc.out).mono ?_
            rintro e wd ⟨rfl, hbS⟩
            have HBwd := hid (HBwc.out.trans (hbS.mono HBwc.out.size))
            clear hbS
            go_wp2_with fail
            go_ret
            exact ⟨rfl, HBwd.out⟩
          | ok o q hs rest =>
            have hgood := Ub.parse_good hp
            have hnames := Ub.parse_names hp
            rw [dsize] at hgood hnames
            have HPO := hid (pa_ok hp (HY.out.below HBw7.out).lib (by unfold maxLen; omega))
            have hfl := Ub.flt_read hp
            have hck := Ub.chk_good hgood.2.1 hgood.2.2.1
            have hlen2 := Ub.hunks_len hs hgood.2.1
            have hshort := Nat.le_trans (Ub.parse_few hp) (show 4194304 ≤ 5000000 by decide)
            have hszs := Ub.parse_sz hp
            have HGD := hid hgood
            obtain ⟨M, hM⟩ : ∃ M, M = hs.length := ⟨_, rfl⟩
            have HMM := hid hM
            rw [← hM] at HPO
            clear hp hM
            go_wp2_with fail
            refine HPO.out.mono ?_
            rintro e wa ⟨hba, va, vc, rfl, hO, _, _⟩
            have HBwa := hid (HBw7.out.trans (hba.mono HBw7.out.size))
            have HMwa : Hid (RdH wa (.slice va M vc) hs) := hid hO.rd
            clear hba hO HPO
            obtain ⟨hbN, n1, n2⟩ := twoF wa (.cells #[.string ⟨#[]⟩, .string ⟨#[]⟩] 23) (.cells #[.string ⟨#[]⟩, .string ⟨#[]⟩] 23)
            have HBNwc := hid hbN
            have P1wc := hid n1
            have P2wc := hid n2
            obtain ⟨C, hC⟩ : ∃ C, C = wa.heap.size := ⟨_, rfl⟩
            rw [← hC] at P1wc P2wc
            have HCW := hid hC
            clear hbN n1 n2
            go_wp2_with (first | (guard_target =~ wpList _ _ _ (_ :: _) _ _; rw [← hC]; refine wpList_stA 23 #[.string (bB o.1), .string (bB o.2)] rfl rfl P1wc.out Tryz.sizeName rfl rfl rfl rfl ?_; intro wb hk1 hkp1; have Q1wc := hid hk1; have HPwb := hid hkp1; have Q2wc := hid ((hkp1.block (C + 1) (lt_of_heap P2wc.out) (by omega)).trans P2wc.out); clear hk1 hkp1 hC) | (guard_target =~ wpList _ _ _ (_ :: _) _ _; refine wpList_stA 23 #[.string (bB q.1), .string (bB q.2)] rfl rfl Q2wc.out Tryz.sizeName rfl rfl rfl rfl ?_; intro wc hk2 hkp2; have R2wc := hid hk2; have R1wc := hid ((hkp2.block C (lt_of_heap Q1wc.out) (by omega)).trans Q1wc.out); have HKwc : Hid (Below C wa wc) := hid (Kept.onto (Kept.onto (HCW.out ▸ HBNwc.out) HPwb.out (Nat.le_refl _) (Nat.le_of_eq HCW.out)) hkp2 (Nat.le_succ _) (Nat.le_of_eq HCW.out)); have HBwc := hid (HBwa.out.trans (HKwc.out.mono (by rw [HCW.out]; exact HBwa.out.size))); have HMwc : Hid (RdH wc (.slice va M vc) hs) := hid (HMwa.out.below (HCW.out ▸ HKwc.out)); have R1Cwc := R1wc; have R2Cwc := R2wc; have C0wc : wc.cell? ⟨C, 0, none⟩ = some (.string (bB o.1)) := cell_of_blk R1wc.out 0; have C1wc : wc.cell? ⟨C, 1, none⟩ = some (.string (bB o.2)) := cell_of_blk R1wc.out 1; have C2wc : wc.cell? ⟨C + 1, 0, none⟩ = some (.string (bB q.1)) := cell_of_blk R2wc.out 0; have C3wc : wc.cell? ⟨C + 1, 1, none⟩ = some (.string (bB q.2)) := cell_of_blk R2wc.out 1; clear hk2 hkp2))
            rcases hfl with hf | hf
            · have HPR := hid (uprint_ok (w := wc) (v := .slice va M vc) (hs := hs) (bB o.1) (bB o.2) (bB q.1) (bB q.2) HMwc.out (HY.out.below HBwc.out).pow hck hszs hshort (by rw [Ub.bB_size]; omega) (by rw [Ub.bB_size]; omega) (by rw [Ub.bB_size]; omega) (by rw [Ub.bB_size]; omega) (Ub.flt_yes hf).1 (Ub.flt_yes hf).2.1 (by omega))
              rw [bB_data, bB_data, bB_data, bB_data] at HPR
              have HNK := hid (Ub.flt_yes hf)
              obtain ⟨PT, hPT⟩ : ∃ PT, PT = bB (Un.printT (o.1, o.2) (q.1, q.2) hs) := ⟨_, rfl⟩
              rw [← hPT] at HPR
              have HPT := hid hPT
              clear hf hPT hck hgood
              refine HPR.out.mono ?_
              rintro e we ⟨rfl, hbe⟩
              have HBwe := hid (HBwc.out.trans (hbe.mono HBwc.out.size))
              have R1Cwe := hid ((hbe.block C (lt_of_heap R1Cwc.out)).trans R1Cwc.out)
              have R2Cwe := hid ((hbe.block (C + 1) (lt_of_heap R2Cwc.out)).trans R2Cwc.out)
              have HMwe := hid (HMwc.out.below hbe)
              clear hbe HPR C0wc C1wc C2wc C3wc
              go_wp2_with fail
              refine (num_nil we).mono ?_
              rintro e wf ⟨rfl, hbf⟩
              have HBwf := hid (HBwe.out.trans (hbf.mono HBwe.out.size))
              have R1Cwf := hid ((hbf.block C (lt_of_heap R1Cwe.out)).trans R1Cwe.out)
              have R2Cwf := hid ((hbf.block (C + 1) (lt_of_heap R2Cwe.out)).trans R2Cwe.out)
              have HMwf := hid (HMwe.out.below hbf)
              clear hbf
              by_cases hlong : 4194304 < PT.size
              · have j1 : (4194304 : Int) < (PT.size : Int) := by omega
                clear hlong
                go_wp2_with fail
                refine (HSU.out wf HBwf.out).mono ?_
                rintro e wg ⟨rfl, hbS⟩
                have HBwg := hid (HBwf.out.trans (hbS.mono HBwf.out.size))
                clear hbS
                go_wp2_with fail
                go_ret
                exact ⟨rfl, HBwg.out⟩
              · have j1 : ¬ ((4194304 : Int) < (PT.size : Int)) := by omega
                have hPB : Un.parse PT.data.toList = .ok o q hs [] := by
                  rw [HPT.out, bB_data]
                  exact Un.print_back (o := o) (q := q) HNK.out.1 HNK.out.2.1 HGD.out.1 HGD.out.2.1 HGD.out.2.2.1 (by
                    have h9 : PT.size ≤ 4194304 := by omega
                    rw [HPT.out, Ub.bB_size] at h9
                    exact h9)
                have HP2 := hid (pa_ok hPB (HY.out.below HBwf.out).lib (by unfold maxLen; omega))
                have y1 : (bB o.1 == bB o.1) = true := ba_sameU _
                have y2 : (bB o.2 == bB o.2) = true := ba_sameU _
                have y3 : (bB q.1 == bB q.1) = true := ba_sameU _
                have y4 : (bB q.2 == bB q.2) = true := ba_sameU _
                have e0 : bB ([] : Un.Bs) = ⟨#[]⟩ := rfl
                rw [e0, ← HMM.out] at HP2
                clear hPB hlong e0
                go_wp2_with fail
                refine HP2.out.mono ?_
                rintro e wg ⟨hbg, vb, vd, rfl, hO2, _, _⟩
                have HBwg := hid (HBwf.out.trans (hbg.mono HBwf.out.size))
                have R1Cwg := hid ((hbg.block C (lt_of_heap R1Cwf.out)).trans R1Cwf.out)
                have R2Cwg := hid ((hbg.block (C + 1) (lt_of_heap R2Cwf.out)).trans R2Cwf.out)
                have HMwg := hid (HMwf.out.below hbg)
                have HNwg : Hid (RdH wg (.slice vb M vd) hs) := hid hO2.rd
                clear hbg hO2 HP2
                obtain ⟨hbN, n1, n2⟩ := twoF wg (.cells #[.string ⟨#[]⟩, .string ⟨#[]⟩] 23) (.cells #[.string ⟨#[]⟩, .string ⟨#[]⟩] 23)
                have HBNwi := hid hbN
                have P1wi := hid n1
                have P2wi := hid n2
                obtain ⟨D, hD⟩ : ∃ D, D = wg.heap.size := ⟨_, rfl⟩
                rw [← hD] at P1wi P2wi
                have HDW := hid hD
                clear hbN n1 n2
                have HMF : Hid (∀ w', Below D wg w' → w'.cell? ⟨C, 0, none⟩ = some (.string (bB o.1)) ∧ w'.cell? ⟨C, 1, none⟩ = some (.string (bB o.2)) ∧ w'.cell? ⟨C + 1, 0, none⟩ = some (.string (bB q.1)) ∧ w'.cell? ⟨C + 1, 1, none⟩ = some (.string (bB q.2))) := hid (fun w' hb' => by
                  have h8 := lt_of_heap R2Cwg.out
                  have h9 := HDW.out
                  have k1 := (hb'.block C (by omega)).trans R1Cwg.out
                  have k2 := (hb'.block (C + 1) (by omega)).trans R2Cwg.out
                  exact ⟨cell_of_blk k1 0, cell_of_blk k1 1, cell_of_blk k2 0, cell_of_blk k2 1⟩)
                go_wp2_with (first | (guard_target =~ wpList _ _ _ (_ :: _) _ _; rw [← hD]; refine wpList_stA 23 #[.string (bB o.1), .string (bB o.2)] rfl rfl P1wi.out Tryz.sizeName rfl rfl rfl rfl ?_; intro wh hk1 hkp1; have Q1wi := hid hk1; have HPwh := hid hkp1; have Q2wi := hid ((hkp1.block (D + 1) (lt_of_heap P2wi.out) (by omega)).trans P2wi.out); clear hk1 hkp1 hD) | (guard_target =~ wpList _ _ _ (_ :: _) _ _; refine wpList_stA 23 #[.string (bB q.1), .string (bB q.2)] rfl rfl Q2wi.out Tryz.sizeName rfl rfl rfl rfl ?_; intro wi hk2 hkp2; have R2wi := hid hk2; have R1wi := hid ((hkp2.block D (lt_of_heap Q1wi.out) (by omega)).trans Q1wi.out); have HKwi : Hid (Below D wg wi) := hid (Kept.onto (Kept.onto (HDW.out ▸ HBNwi.out) HPwh.out (Nat.le_refl _) (Nat.le_of_eq HDW.out)) hkp2 (Nat.le_succ _) (Nat.le_of_eq HDW.out)); have HBwi := hid (HBwg.out.trans (HKwi.out.mono (by rw [HDW.out]; exact HBwg.out.size))); have HMwi : Hid (RdH wi (.slice va M vc) hs) := hid (HMwg.out.below (HDW.out ▸ HKwi.out)); have HNwi : Hid (RdH wi (.slice vb M vd) hs) := hid (HNwg.out.below (HDW.out ▸ HKwi.out)); obtain ⟨m0, m1, m2, m3⟩ := HMF.out wi HKwi.out; have D0wi : wi.cell? ⟨D, 0, none⟩ = some (.string (bB o.1)) := cell_of_blk R1wi.out 0; have D1wi : wi.cell? ⟨D, 1, none⟩ = some (.string (bB o.2)) := cell_of_blk R1wi.out 1; have D2wi : wi.cell? ⟨D + 1, 0, none⟩ = some (.string (bB q.1)) := cell_of_blk R2wi.out 0; have D3wi : wi.cell? ⟨D + 1, 1, none⟩ = some (.string (bB q.2)) := cell_of_blk R2wi.out 1; clear hk2 hkp2))
                refine (sameHunks_yes HNwi.out HMwi.out hshort (fun h hh => (hszs h hh).rowsLe)).mono ?_
                rintro e wj ⟨rfl, hbj⟩
                have HBwj := hid (HBwi.out.trans (hbj.mono HBwi.out.size))
                clear hbj
                go_wp2_with fail
                refine (HSU.out wj HBwj.out).mono ?_
                rintro e wk ⟨rfl, hbS⟩
                have HBwk := hid (HBwj.out.trans (hbS.mono HBwj.out.size))
                clear hbS
                go_wp2_with fail
                go_ret
                exact ⟨rfl, HBwk.out⟩
            · have HPR := hid (uprint_bad (w := wc) (v := .slice va M vc) (hs := hs) (bB o.1) (bB o.2) (bB q.1) (bB q.2) HMwc.out hszs hshort (by rw [Ub.bB_size]; omega) (by rw [Ub.bB_size]; omega) (by rw [bB_data, bB_data, bB_data, bB_data, hf]; decide))
              rw [bB_data, bB_data, bB_data, bB_data, hf] at HPR
              clear hf hck hgood
              refine HPR.out.mono ?_
              rintro e we ⟨rfl, hbe⟩
              have HBwe := hid (HBwc.out.trans (hbe.mono HBwc.out.size))
              clear hbe HPR C0wc C1wc C2wc C3wc
              go_wp2_with fail
              refine (num_errno 110 we (HY.out.below HBwe.out).err).mono ?_
              rintro e wf ⟨rfl, hbf⟩
              have HBwf := hid (HBwe.out.trans (hbf.mono HBwe.out.size))
              clear hbf
              go_wp2_with fail
              refine (HSU.out wf HBwf.out).mono ?_
              rintro e wg ⟨rfl, hbS⟩
              have HBwg := hid (HBwf.out.trans (hbS.mono HBwf.out.size))
              clear hbS
              go_wp2_with fail
              go_ret
              exact ⟨rfl, HBwg.out⟩
        · have k2 : ¬ ((PT.size : Int) ≤ 4194304) := by omega
          clear hlong h0
          cases hp : Un.parse t.data.toList with
          | bad c er =>
            have HPB := hid (pa_bad hp (HY.out.below HBw3.out).lib (by unfold maxLen; omega))
            clear hp
            go_wp2_with fail
            refine HPB.out.mono ?_
            rintro e wa ⟨hba, rfl⟩
            have HBwa := hid (HBw3.out.trans (hba.mono HBw3.out.size))
            clear hba
            obtain ⟨hbN, n1, n2⟩ := twoF wa (.cells #[.string ⟨#[]⟩, .string ⟨#[]⟩] 23) (.cells #[.string ⟨#[]⟩, .string ⟨#[]⟩] 23)
            have HBNwc := hid hbN
            have P1wc := hid n1
            have P2wc := hid n2
            obtain ⟨C, hC⟩ : ∃ C, C = wa.heap.size := ⟨_, rfl⟩
            rw [← hC] at P1wc P2wc
            have HCW := hid hC
            clear hbN n1 n2
            go_wp2_with (first | (guard_target =~ wpList _ _ _ (_ :: _) _ _; rw [← hC]; refine wpList_stA 23 #[.string ⟨#[]⟩, .string ⟨#[]⟩] rfl rfl P1wc.out Tryz.sizeName rfl rfl rfl rfl ?_; intro wb hk1 hkp1; have Q1wc := hid hk1; have HPwb := hid hkp1; have Q2wc := hid ((hkp1.block (C + 1) (lt_of_heap P2wc.out) (by omega)).trans P2wc.out); clear hk1 hkp1 hC) | (guard_target =~ wpList _ _ _ (_ :: _) _ _; refine wpList_stA 23 #[.string ⟨#[]⟩, .string ⟨#[]⟩] rfl rfl Q2wc.out Tryz.sizeName rfl rfl rfl rfl ?_; intro wc hk2 hkp2; have R2wc := hid hk2; have R1wc := hid ((hkp2.block C (lt_of_heap Q1wc.out) (by omega)).trans Q1wc.out); have HKwc : Hid (Below C wa wc) := hid (Kept.onto (Kept.onto (HCW.out ▸ HBNwc.out) HPwb.out (Nat.le_refl _) (Nat.le_of_eq HCW.out)) hkp2 (Nat.le_succ _) (Nat.le_of_eq HCW.out)); have HBwc := hid (HBwa.out.trans (HKwc.out.mono (by rw [HCW.out]; exact HBwa.out.size))); clear hk2 hkp2))
            refine (HSU.out wc HBwc.out).mono ?_
            rintro e wd ⟨rfl, hbS⟩
            have HBwd := hid (HBwc.out.trans (hbS.mono HBwc.out.size))
            clear hbS
            go_wp2_with fail
            go_ret
            exact ⟨rfl, HBwd.out⟩
          | ok o q hs rest =>
            have hgood := Ub.parse_good hp
            have hnames := Ub.parse_names hp
            rw [dsize] at hgood hnames
            have HPO := hid (pa_ok hp (HY.out.below HBw3.out).lib (by unfold maxLen; omega))
            have hfl := Ub.flt_read hp
            have hck := Ub.chk_good hgood.2.1 hgood.2.2.1
            have hlen2 := Ub.hunks_len hs hgood.2.1
            have hshort := Nat.le_trans (Ub.parse_few hp) (show 4194304 ≤ 5000000 by decide)
            have hszs := Ub.parse_sz hp
            have HGD := hid hgood
            obtain ⟨M, hM⟩ : ∃ M, M = hs.length := ⟨_, rfl⟩
            have HMM := hid hM
            rw [← hM] at HPO
            clear hp hM
            go_wp2_with fail
            refine HPO.out.mono ?_
            rintro e wa ⟨hba, va, vc, rfl, hO, _, _⟩
            have HBwa := hid (HBw3.out.trans (hba.mono HBw3.out.size))
            have HMwa : Hid (RdH wa (.slice va M vc) hs) := hid hO.rd
            clear hba hO HPO
            obtain ⟨hbN, n1, n2⟩ := twoF wa (.cells #[.string ⟨#[]⟩, .string ⟨#[]⟩] 23) (.cells #[.string ⟨#[]⟩, .string ⟨#[]⟩] 23)
            have HBNwc := hid hbN
            have P1wc := hid n1
            have P2wc := hid n2
            obtain ⟨C, hC⟩ : ∃ C, C = wa.heap.size := ⟨_, rfl⟩
            rw [← hC] at P1wc P2wc
            have HCW := hid hC
            clear hbN n1 n2
            go_wp2_with (first | (guard_target =~ wpList _ _ _ (_ :: _) _ _; rw [← hC]; refine wpList_stA 23 #[.string (bB o.1), .string (bB o.2)] rfl rfl P1wc.out Tryz.sizeName rfl rfl rfl rfl ?_; intro wb hk1 hkp1; have Q1wc := hid hk1; have HPwb := hid hkp1; have Q2wc := hid ((hkp1.block (C + 1) (lt_of_heap P2wc.out) (by omega)).trans P2wc.out); clear hk1 hkp1 hC) | (guard_target =~ wpList _ _ _ (_ :: _) _ _; refine wpList_stA 23 #[.string (bB q.1), .string (bB q.2)] rfl rfl Q2wc.out Tryz.sizeName rfl rfl rfl rfl ?_; intro wc hk2 hkp2; have R2wc := hid hk2; have R1wc := hid ((hkp2.block C (lt_of_heap Q1wc.out) (by omega)).trans Q1wc.out); have HKwc : Hid (Below C wa wc) := hid (Kept.onto (Kept.onto (HCW.out ▸ HBNwc.out) HPwb.out (Nat.le_refl _) (Nat.le_of_eq HCW.out)) hkp2 (Nat.le_succ _) (Nat.le_of_eq HCW.out)); have HBwc := hid (HBwa.out.trans (HKwc.out.mono (by rw [HCW.out]; exact HBwa.out.size))); have HMwc : Hid (RdH wc (.slice va M vc) hs) := hid (HMwa.out.below (HCW.out ▸ HKwc.out)); have R1Cwc := R1wc; have R2Cwc := R2wc; have C0wc : wc.cell? ⟨C, 0, none⟩ = some (.string (bB o.1)) := cell_of_blk R1wc.out 0; have C1wc : wc.cell? ⟨C, 1, none⟩ = some (.string (bB o.2)) := cell_of_blk R1wc.out 1; have C2wc : wc.cell? ⟨C + 1, 0, none⟩ = some (.string (bB q.1)) := cell_of_blk R2wc.out 0; have C3wc : wc.cell? ⟨C + 1, 1, none⟩ = some (.string (bB q.2)) := cell_of_blk R2wc.out 1; clear hk2 hkp2))
            rcases hfl with hf | hf
            · have HPR := hid (uprint_ok (w := wc) (v := .slice va M vc) (hs := hs) (bB o.1) (bB o.2) (bB q.1) (bB q.2) HMwc.out (HY.out.below HBwc.out).pow hck hszs hshort (by rw [Ub.bB_size]; omega) (by rw [Ub.bB_size]; omega) (by rw [Ub.bB_size]; omega) (by rw [Ub.bB_size]; omega) (Ub.flt_yes hf).1 (Ub.flt_yes hf).2.1 (by omega))
              rw [bB_data, bB_data, bB_data, bB_data] at HPR
              have HNK := hid (Ub.flt_yes hf)
              obtain ⟨PT, hPT⟩ : ∃ PT, PT = bB (Un.printT (o.1, o.2) (q.1, q.2) hs) := ⟨_, rfl⟩
              rw [← hPT] at HPR
              have HPT := hid hPT
              clear hf hPT hck hgood
              refine HPR.out.mono ?_
              rintro e we ⟨rfl, hbe⟩
              have HBwe := hid (HBwc.out.trans (hbe.mono HBwc.out.size))
              have R1Cwe := hid ((hbe.block C (lt_of_heap R1Cwc.out)).trans R1Cwc.out)
              have R2Cwe := hid ((hbe.block (C + 1) (lt_of_heap R2Cwc.out)).trans R2Cwc.out)
              have HMwe := hid (HMwc.out.below hbe)
              clear hbe HPR C0wc C1wc C2wc C3wc
              go_wp2_with fail
              refine (num_nil we).mono ?_
              rintro e wf ⟨rfl, hbf⟩
              have HBwf := hid (HBwe.out.trans (hbf.mono HBwe.out.size))
              have R1Cwf := hid ((hbf.block C (lt_of_heap R1Cwe.out)).trans R1Cwe.out)
              have R2Cwf := hid ((hbf.block (C + 1) (lt_of_heap R2Cwe.out)).trans R2Cwe.out)
              have HMwf := hid (HMwe.out.below hbf)
              clear hbf
              by_cases hlong : 4194304 < PT.size
              · have j1 : (4194304 : Int) < (PT.size : Int) := by omega
                clear hlong
                go_wp2_with fail
                refine (HSU.out wf HBwf.out).mono ?_
                rintro e wg ⟨rfl, hbS⟩
                have HBwg := hid (HBwf.out.trans (hbS.mono HBwf.out.size))
                clear hbS
                go_wp2_with fail
                go_ret
                exact ⟨rfl, HBwg.out⟩
              · have j1 : ¬ ((4194304 : Int) < (PT.size : Int)) := by omega
                have hPB : Un.parse PT.data.toList = .ok o q hs [] := by
                  rw [HPT.out, bB_data]
                  exact Un.print_back (o := o) (q := q) HNK.out.1 HNK.out.2.1 HGD.out.1 HGD.out.2.1 HGD.out.2.2.1 (by
                    have h9 : PT.size ≤ 4194304 := by omega
                    rw [HPT.out, Ub.bB_size] at h9
                    exact h9)
                have HP2 := hid (pa_ok hPB (HY.out.below HBwf.out).lib (by unfold maxLen; omega))
                have y1 : (bB o.1 == bB o.1) = true := ba_sameU _
                have y2 : (bB o.2 == bB o.2) = true := ba_sameU _
                have y3 : (bB q.1 == bB q.1) = true := ba_sameU _
                have y4 : (bB q.2 == bB q.2) = true := ba_sameU _
                have e0 : bB ([] : Un.Bs) = ⟨#[]⟩ := rfl
                rw [e0, ← HMM.out] at HP2
                clear hPB hlong e0
                go_wp2_with fail
                refine HP2.out.mono ?_
                rintro e wg ⟨hbg, vb, vd, rfl, hO2, _, _⟩
                have HBwg := hid (HBwf.out.trans (hbg.mono HBwf.out.size))
                have R1Cwg := hid ((hbg.block C (lt_of_heap R1Cwf.out)).trans R1Cwf.out)
                have R2Cwg := hid ((hbg.block (C + 1) (lt_of_heap R2Cwf.out)).trans R2Cwf.out)
                have HMwg := hid (HMwf.out.below hbg)
                have HNwg : Hid (RdH wg (.slice vb M vd) hs) := hid hO2.rd
                clear hbg hO2 HP2
                obtain ⟨hbN, n1, n2⟩ := twoF wg (.cells #[.string ⟨#[]⟩, .string ⟨#[]⟩] 23) (.cells #[.string ⟨#[]⟩, .string ⟨#[]⟩] 23)
                have HBNwi := hid hbN
                have P1wi := hid n1
                have P2wi := hid n2
                obtain ⟨D, hD⟩ : ∃ D, D = wg.heap.size := ⟨_, rfl⟩
                rw [← hD] at P1wi P2wi
                have HDW := hid hD
                clear hbN n1 n2
                have HMF : Hid (∀ w', Below D wg w' → w'.cell? ⟨C, 0, none⟩ = some (.string (bB o.1)) ∧ w'.cell? ⟨C, 1, none⟩ = some (.string (bB o.2)) ∧ w'.cell? ⟨C + 1, 0, none⟩ = some (.string (bB q.1)) ∧ w'.cell? ⟨C + 1, 1, none⟩ = some (.string (bB q.2))) := hid (fun w' hb' => by
                  have h8 := lt_of_heap R2Cwg.out
                  have h9 := HDW.out
                  have k1 := (hb'.block C (by omega)).trans R1Cwg.out
                  have k2 := (hb'.block (C + 1) (by omega)).trans R2Cwg.out
                  exact ⟨cell_of_blk k1 0, cell_of_blk k1 1, cell_of_blk k2 0, cell_of_blk k2 1⟩)
                go_wp2_with (first | (guard_target =~ wpList _ _ _ (_ :: _) _ _; rw [← hD]; refine wpList_stA 23 #[.string (bB o.1), .string (bB o.2)] rfl rfl P1wi.out Tryz.sizeName rfl rfl rfl rfl ?_; intro wh hk1 hkp1; have Q1wi := hid hk1; have HPwh := hid hkp1; have Q2wi := hid ((hkp1.block (D + 1) (lt_of_heap P2wi.out) (by omega)).trans P2wi.out); clear hk1 hkp1 hD) | (guard_target =~ wpList _ _ _ (_ :: _) _ _; refine wpList_stA 23 #[.string (bB q.1), .string (bB q.2)] rfl rfl Q2wi.out Tryz.sizeName rfl rfl rfl rfl ?_; intro wi hk2 hkp2; have R2wi := hid hk2; have R1wi := hid ((hkp2.block D (lt_of_heap Q1wi.out) (by omega)).trans Q1wi.out); have HKwi : Hid (Below D wg wi) := hid (Kept.onto (Kept.onto (HDW.out ▸ HBNwi.out) HPwh.out (Nat.le_refl _) (Nat.le_of_eq HDW.out)) hkp2 (Nat.le_succ _) (Nat.le_of_eq HDW.out)); have HBwi := hid (HBwg.out.trans (HKwi.out.mono (by rw [HDW.out]; exact HBwg.out.size))); have HMwi : Hid (RdH wi (.slice va M vc) hs) := hid (HMwg.out.below (HDW.out ▸ HKwi.out)); have HNwi : Hid (RdH wi (.slice vb M vd) hs) := hid (HNwg.out.below (HDW.out ▸ HKwi.out)); obtain ⟨m0, m1, m2, m3⟩ := HMF.out wi HKwi.out; have D0wi : wi.cell? ⟨D, 0, none⟩ = some (.string (bB o.1)) := cell_of_blk R1wi.out 0; have D1wi : wi.cell? ⟨D, 1, none⟩ = some (.string (bB o.2)) := cell_of_blk R1wi.out 1; have D2wi : wi.cell? ⟨D + 1, 0, none⟩ = some (.string (bB q.1)) := cell_of_blk R2wi.out 0; have D3wi : wi.cell? ⟨D + 1, 1, none⟩ = some (.string (bB q.2)) := cell_of_blk R2wi.out 1; clear hk2 hkp2))
                refine (sameHunks_yes HNwi.out HMwi.out hshort (fun h hh => (hszs h hh).rowsLe)).mono ?_
                rintro e wj ⟨rfl, hbj⟩
                have HBwj := hid (HBwi.out.trans (hbj.mono HBwi.out.size))
                clear hbj
                go_wp2_with fail
                refine (HSU.out wj HBwj.out).mono ?_
                rintro e wk ⟨rfl, hbS⟩
                have HBwk := hid (HBwj.out.trans (hbS.mono HBwj.out.size))
                clear hbS
                go_wp2_with fail
                go_ret
                exact ⟨rfl, HBwk.out⟩
            · have HPR := hid (uprint_bad (w := wc) (v := .slice va M vc) (hs := hs) (bB o.1) (bB o.2) (bB q.1) (bB q.2) HMwc.out hszs hshort (by rw [Ub.bB_size]; omega) (by rw [Ub.bB_size]; omega) (by rw [bB_data, bB_data, bB_data, bB_data, hf]; decide))
              rw [bB_data, bB_data, bB_data, bB_data, hf] at HPR
              clear hf hck hgood
              refine HPR.out.mono ?_
              rintro e we ⟨rfl, hbe⟩
              have HBwe := hid (HBwc.out.trans (hbe.mono HBwc.out.size))
              clear hbe HPR C0wc C1wc C2wc C3wc
              go_wp2_with fail
              refine (num_errno 110 we (HY.out.below HBwe.out).err).mono ?_
              rintro e wf ⟨rfl, hbf⟩
              have HBwf := hid (HBwe.out.trans (hbf.mono HBwe.out.size))
              clear hbf
              go_wp2_with fail
              refine (HSU.out wf HBwf.out).mono ?_
              rintro e wg ⟨rfl, hbS⟩
              have HBwg := hid (HBwf.out.trans (hbS.mono HBwf.out.size))
              clear hbS
              go_wp2_with fail
              go_ret
              exact ⟨rfl, HBwg.out⟩
    · have HPR := hid (uprint_bad (w := w2) (v := .slice va0 NL vc0) (hs := l) p1 s1 p2 s2 HLw2.out HLZ.out (by rw [← HNL.out]; omega) (by omega) (by omega) hF)
      generalize fltN (p1.data.toList, s1.data.toList) (p2.data.toList, s2.data.toList) l = FN at HPR hF
      clear hF
      go_wp2_with fail
      refine HPR.out.mono ?_
      rintro e w3 ⟨rfl, hb3⟩
      have HBw3 := hid (HBw2.out.trans (hb3.mono HBw2.out.size))
      clear hb3 x0 x1 z0 z1 HPR
      cases hp : Un.parse t.data.toList with
      | bad c er =>
        have HPB := hid (pa_bad hp (HY.out.below HBw3.out).lib (by unfold maxLen; omega))
        clear hp
        go_wp2_with fail
        refine HPB.out.mono ?_
        rintro e wa ⟨hba, rfl⟩
        have HBwa := hid (HBw3.out.trans (hba.mono HBw3.out.size))
        clear hba
        obtain ⟨hbN, n1, n2⟩ := twoF wa (.cells #[.string ⟨#[]⟩, .string ⟨#[]⟩] 23) (.cells #[.string ⟨#[]⟩, .string ⟨#[]⟩] 23)
        have HBNwc := hid hbN
        have P1wc := hid n1
        have P2wc := hid n2
        obtain ⟨C, hC⟩ : ∃ C, C = wa.heap.size := ⟨_, rfl⟩
        rw [← hC] at P1wc P2wc
        have HCW := hid hC
        clear hbN n1 n2
        go_wp2_with (first | (guard_target =~ wpList _ _ _ (_ :: _) _ _; rw [← hC]; refine wpList_stA 23 #[.string ⟨#[]⟩, .string ⟨#[]⟩] rfl rfl P1wc.out Tryz.sizeName rfl rfl rfl rfl ?_; intro wb hk1 hkp1; have Q1wc := hid hk1; have HPwb := hid hkp1; have Q2wc := hid ((hkp1.block (C + 1) (lt_of_heap P2wc.out) (by omega)).trans P2wc.out); clear hk1 hkp1 hC) | (guard_target =~ wpList _ _ _ (_ :: _) _ _; refine wpList_stA 23 #[.string ⟨#[]⟩, .string ⟨#[]⟩] rfl rfl Q2wc.out Tryz.sizeName rfl rfl rfl rfl ?_; intro wc hk2 hkp2; have R2wc := hid hk2; have R1wc := hid ((hkp2.block C (lt_of_heap Q1wc.out) (by omega)).trans Q1wc.out); have HKwc : Hid (Below C wa wc) := hid (Kept.onto (Kept.onto (HCW.out ▸ HBNwc.out) HPwb.out (Nat.le_refl _) (Nat.le_of_eq HCW.out)) hkp2 (Nat.le_succ _) (Nat.le_of_eq HCW.out)); have HBwc := hid (HBwa.out.trans (HKwc.out.mono (by rw [HCW.out]; exact HBwa.out.size))); clear hk2 hkp2))
        refine (HSU.out wc HBwc.out).mono ?_
        rintro e wd ⟨rfl, hbS⟩
        have HBwd := hid (HBwc.out.trans (hbS.mono HBwc.out.size))
        clear hbS
        go_wp2_with fail
        go_ret
        exact ⟨rfl, HBwd.out⟩
      | ok o q hs rest =>
        have hgood := Ub.parse_good hp
        have hnames := Ub.parse_names hp
        rw [dsize] at hgood hnames
        have HPO := hid (pa_ok hp (HY.out.below HBw3.out).lib (by unfold maxLen; omega))
        have hfl := Ub.flt_read hp
        have hck := Ub.chk_good hgood.2.1 hgood.2.2.1
        have hlen2 := Ub.hunks_len hs hgood.2.1
        have hshort := Nat.le_trans (Ub.parse_few hp) (show 4194304 ≤ 5000000 by decide)
        have hszs := Ub.parse_sz hp
        have HGD := hid hgood
        obtain ⟨M, hM⟩ : ∃ M, M = hs.length := ⟨_, rfl⟩
        have HMM := hid hM
        rw [← hM] at HPO
        clear hp hM
        go_wp2_with fail
        refine HPO.out.mono ?_
        rintro e wa ⟨hba, va, vc, rfl, hO, _, _⟩
        have HBwa := hid (HBw3.out.trans (hba.mono HBw3.out.size))
        have HMwa : Hid (RdH wa (.slice va M vc) hs) := hid hO.rd
        clear hba hO HPO
        obtain ⟨hbN, n1, n2⟩ := twoF wa (.cells #[.string ⟨#[]⟩, .string ⟨#[]⟩] 23) (.cells #[.string ⟨#[]⟩, .string ⟨#[]⟩] 23)
        have HBNwc := hid hbN
        have P1wc := hid n1
        have P2wc := hid n2
        obtain ⟨C, hC⟩ : ∃ C, C = wa.heap.size := ⟨_, rfl⟩
        rw [← hC] at P1wc P2wc
        have HCW := hid hC
        clear hbN n1 n2
        go_wp2_with (first | (guard_target =~ wpList _ _ _ (_ :: _) _ _; rw [← hC]; refine wpList_stA 23 #[.string (bB o.1), .string (bB o.2)] rfl rfl P1wc.out Tryz.sizeName rfl rfl rfl rfl ?_; intro wb hk1 hkp1; have Q1wc := hid hk1; have HPwb := hid hkp1; have Q2wc := hid ((hkp1.block (C + 1) (lt_of_heap P2wc.out) (by omega)).trans P2wc.out); clear hk1 hkp1 hC) | (guard_target =~ wpList _ _ _ (_ :: _) _ _; refine wpList_stA 23 #[.string (bB q.1), .string (bB q.2)] rfl rfl Q2wc.out Tryz.sizeName rfl rfl rfl rfl ?_; intro wc hk2 hkp2; have R2wc := hid hk2; have R1wc := hid ((hkp2.block C (lt_of_heap Q1wc.out) (by omega)).trans Q1wc.out); have HKwc : Hid (Below C wa wc) := hid (Kept.onto (Kept.onto (HCW.out ▸ HBNwc.out) HPwb.out (Nat.le_refl _) (Nat.le_of_eq HCW.out)) hkp2 (Nat.le_succ _) (Nat.le_of_eq HCW.out)); have HBwc := hid (HBwa.out.trans (HKwc.out.mono (by rw [HCW.out]; exact HBwa.out.size))); have HMwc : Hid (RdH wc (.slice va M vc) hs) := hid (HMwa.out.below (HCW.out ▸ HKwc.out)); have R1Cwc := R1wc; have R2Cwc := R2wc; have C0wc : wc.cell? ⟨C, 0, none⟩ = some (.string (bB o.1)) := cell_of_blk R1wc.out 0; have C1wc : wc.cell? ⟨C, 1, none⟩ = some (.string (bB o.2)) := cell_of_blk R1wc.out 1; have C2wc : wc.cell? ⟨C + 1, 0, none⟩ = some (.string (bB q.1)) := cell_of_blk R2wc.out 0; have C3wc : wc.cell? ⟨C + 1, 1, none⟩ = some (.string (bB q.2)) := cell_of_blk R2wc.out 1; clear hk2 hkp2))
        rcases hfl with hf | hf
        · have HPR := hid (uprint_ok (w := wc) (v := .slice va M vc) (hs := hs) (bB o.1) (bB o.2) (bB q.1) (bB q.2) HMwc.out (HY.out.below HBwc.out).pow hck hszs hshort (by rw [Ub.bB_size]; omega) (by rw [Ub.bB_size]; omega) (by rw [Ub.bB_size]; omega) (by rw [Ub.bB_size]; omega) (Ub.flt_yes hf).1 (Ub.flt_yes hf).2.1 (by omega))
          rw [bB_data, bB_data, bB_data, bB_data] at HPR
          have HNK := hid (Ub.flt_yes hf)
          obtain ⟨PT, hPT⟩ : ∃ PT, PT = bB (Un.printT (o.1, o.2) (q.1, q.2) hs) := ⟨_, rfl⟩
          rw [← hPT] at HPR
          have HPT := hid hPT
          clear hf hPT hck hgood
          refine HPR.out.mono ?_
          rintro e we ⟨rfl, hbe⟩
          have HBwe := hid (HBwc.out.trans (hbe.mono HBwc.out.size))
          have R1Cwe := hid ((hbe.block C (lt_of_heap R1Cwc.out)).trans R1Cwc.out)
          have R2Cwe := hid ((hbe.block (C + 1) (lt_of_heap R2Cwc.out)).trans R2Cwc.out)
          have HMwe := hid (HMwc.out.below hbe)
          clear hbe HPR C0wc C1wc C2wc C3wc
          go_wp2_with fail
          refine (num_nil we).mono ?_
          rintro e wf ⟨rfl, hbf⟩
          have HBwf := hid (HBwe.out.trans (hbf.mono HBwe.out.size))
          have R1Cwf := hid ((hbf.block C (lt_of_heap R1Cwe.out)).trans R1Cwe.out)
          have R2Cwf := hid ((hbf.block (C + 1) (lt_of_heap R2Cwe.out)).trans R2Cwe.out)
          have HMwf := hid (HMwe.out.below hbf)
          clear hbf
          by_cases hlong : 4194304 < PT.size
          · have j1 : (4194304 : Int) < (PT.size : Int) := by omega
            clear hlong
            go_wp2_with fail
            refine (HSU.out wf HBwf.out).mono ?_
            rintro e wg ⟨rfl, hbS⟩
            have HBwg := hid (HBwf.out.trans (hbS.mono HBwf.out.size))
            clear hbS
            go_wp2_with fail
            go_ret
            exact ⟨rfl, HBwg.out⟩
          · have j1 : ¬ ((4194304 : Int) < (PT.size : Int)) := by omega
            have hPB : Un.parse PT.data.toList = .ok o q hs [] := by
              rw [HPT.out, bB_data]
              exact Un.print_back (o := o) (q := q) HNK.out.1 HNK.out.2.1 HGD.out.1 HGD.out.2.1 HGD.out.2.2.1 (by
                have h9 : PT.size ≤ 4194304 := by omega
                rw [HPT.out, Ub.bB_size] at h9
                exact h9)
            have HP2 := hid (pa_ok hPB (HY.out.below HBwf.out).lib (by unfold maxLen; omega))
            have y1 : (bB o.1 == bB o.1) = true := ba_sameU _
            have y2 : (bB o.2 == bB o.2) = true := ba_sameU _
            have y3 : (bB q.1 == bB q.1) = true := ba_sameU _
            have y4 : (bB q.2 == bB q.2) = true := ba_sameU _
            have e0 : bB ([] : Un.Bs) = ⟨#[]⟩ := rfl
            rw [e0, ← HMM.out] at HP2
            clear hPB hlong e0
            go_wp2_with fail
            refine HP2.out.mono ?_
            rintro e wg ⟨hbg, vb, vd, rfl, hO2, _, _⟩
            have HBwg := hid (HBwf.out.trans (hbg.mono HBwf.out.size))
            have R1Cwg := hid ((hbg.block C (lt_of_heap R1Cwf.out)).trans R1Cwf.out)
            have R2Cwg := hid ((hbg.block (C + 1) (lt_of_heap R2Cwf.out)).trans R2Cwf.out)
            have HMwg := hid (HMwf.out.below hbg)
            have HNwg : Hid (RdH wg (.slice vb M vd) hs) := hid hO2.rd
            clear hbg hO2 HP2
            obtain ⟨hbN, n1, n2⟩ := twoF wg (.cells #[.string ⟨#[]⟩, .string ⟨#[]⟩] 23) (.cells #[.string ⟨#[]⟩, .string ⟨#[]⟩] 23)
            have HBNwi := hid hbN
            have P1wi := hid n1
            have P2wi := hid n2
            obtain ⟨D, hD⟩ : ∃ D, D = wg.heap.size := ⟨_, rfl⟩
            rw [← hD] at P1wi P2wi
            have HDW := hid hD
            clear hbN n1 n2
            have HMF : Hid (∀ w', Below D wg w' → w'.cell? ⟨C, 0, none⟩ = some (.string (bB o.1)) ∧ w'.cell? ⟨C, 1, none⟩ = some (.string (bB o.2)) ∧ w'.cell? ⟨C + 1, 0, none⟩ = some (.string (bB q.1)) ∧ w'.cell? ⟨C + 1, 1, none⟩ = some (.string (bB q.2))) := hid (fun w' hb' => by
              have h8 := lt_of_heap R2Cwg.out
              have h9 := HDW.out
              have k1 := (hb'.block C (by omega)).trans R1Cwg.out
              have k2 := (hb'.block (C + 1) (by omega)).trans R2Cwg.out
              exact ⟨cell_of_blk k1 0, cell_of_blk k1 1, cell_of_blk k2 0, cell_of_blk k2 1⟩)
            go_wp2_with (first | (guard_target =~ wpList _ _ _ (_ :: _) _ _; rw [← hD]; refine wpList_stA 23 #[.string (bB o.1), .string (bB o.2)] rfl rfl P1wi.out Tryz.sizeName rfl rfl rfl rfl ?_; intro wh hk1 hkp1; have Q1wi := hid hk1; have HPwh := hid hkp1; have Q2wi := hid ((hkp1.block (D + 1) (lt_of_heap P2wi.out) (by omega)).trans P2wi.out); clear hk1 hkp1 hD) | (guard_target =~ wpList _ _ _ (_ :: _) _ _; refine wpList_stA 23 #[.string (bB q.1), .string (bB q.2)] rfl rfl Q2wi.out Tryz.sizeName rfl rfl rfl rfl ?_; intro wi hk2 hkp2; have R2wi := hid hk2; have R1wi := hid ((hkp2.block D (lt_of_heap Q1wi.out) (by omega)).trans Q1wi.out); have HKwi : Hid (Below D wg wi) := hid (Kept.onto (Kept.onto (HDW.out ▸ HBNwi.out) HPwh.out (Nat.le_refl _) (Nat.le_of_eq HDW.out)) hkp2 (Nat.le_succ _) (Nat.le_of_eq HDW.out)); have HBwi := hid (HBwg.out.trans (HKwi.out.mono (by rw [HDW.out]; exact HBwg.out.size))); have HMwi : Hid (RdH wi (.slice va M vc) hs) := hid (HMwg.out.below (HDW.out ▸ HKwi.out)); have HNwi : Hid (RdH wi (.slice vb M vd) hs) := hid (HNwg.out.below (HDW.out ▸ HKwi.out)); obtain ⟨m0, m1, m2, m3⟩ := HMF.out wi HKwi.out; have D0wi : wi.cell? ⟨D, 0, none⟩ = some (.string (bB o.1)) := cell_of_blk R1wi.out 0; have D1wi : wi.cell? ⟨D, 1, none⟩ = some (.string (bB o.2)) := cell_of_blk R1wi.out 1; have D2wi : wi.cell? ⟨D + 1, 0, none⟩ = some (.string (bB q.1)) := cell_of_blk R2wi.out 0; have D3wi : wi.cell? ⟨D + 1, 1, none⟩ = some (.string (bB q.2)) := cell_of_blk R2wi.out 1; clear hk2 hkp2))
            refine (sameHunks_yes HNwi.out HMwi.out hshort (fun h hh => (hszs h hh).rowsLe)).mono ?_
            rintro e wj ⟨rfl, hbj⟩
            have HBwj := hid (HBwi.out.trans (hbj.mono HBwi.out.size))
            clear hbj
            go_wp2_with fail
            refine (HSU.out wj HBwj.out).mono ?_
            rintro e wk ⟨rfl, hbS⟩
            have HBwk := hid (HBwj.out.trans (hbS.mono HBwj.out.size))
            clear hbS
            go_wp2_with fail
            go_ret
            exact ⟨rfl, HBwk.out⟩
        · have HPR := hid (uprint_bad (w := wc) (v := .slice va M vc) (hs := hs) (bB o.1) (bB o.2) (bB q.1) (bB q.2) HMwc.out hszs hshort (by rw [Ub.bB_size]; omega) (by rw [Ub.bB_size]; omega) (by rw [bB_data, bB_data, bB_data, bB_data, hf]; decide))
          rw [bB_data, bB_data, bB_data, bB_data, hf] at HPR
          clear hf hck hgood
          refine HPR.out.mono ?_
          rintro e we ⟨rfl, hbe⟩
          have HBwe := hid (HBwc.out.trans (hbe.mono HBwc.out.size))
          clear hbe HPR C0wc C1wc C2wc C3wc
          go_wp2_with fail
          refine (num_errno 110 we (HY.out.below HBwe.out).err).mono ?_
          rintro e wf ⟨rfl, hbf⟩
          have HBwf := hid (HBwe.out.trans (hbf.mono HBwe.out.size))
          clear hbf
          go_wp2_with fail
          refine (HSU.out wf HBwf.out).mono ?_
          rintro e wg ⟨rfl, hbS⟩
          have HBwg := hid (HBwf.out.trans (hbS.mono HBwf.out.size))
          clear hbS
          go_wp2_with fail
          go_ret
          exact ⟨rfl, HBwg.out⟩
theorem own : ownKnob Tryz.prog.godebug = none := by kernel_rfl

set_option maxRecDepth 100000 in
theorem contract (H : Type) (enc : TypeId × Value → H) (W : World) (base : Nat) (args : Array Value) (ds gs : List (DataW H)) (before : List MemPlace)
    (hval : ∀ (j : Nat) t v, Tryz.f5.params[j]? = some t → args[j]? = some v → Value.okWide Tryz.prog W .any base t v)
    (hW : DataW.Whole enc Tryz.prog Tryz.f5.params.toList Rows.unifiedBackSpec.vars false W args.toList ds gs before)
    (hk : Rows.uptoSmall H (ds ++ gs) = true)
    (hL : laidMetH Tryz.prog Rows.unifiedBackUptoRow.laid W)
    (hSh : W.ShapedOpen Tryz.prog)
    : Calls Tryz.prog 5 args W fun e W' => ∃ v, e = .returned v ∧ Rows.unifiedBackSpec.post enc Tryz.prog Tryz.f5 false true false false W args v W' := by
  have hW' := hW
  obtain ⟨p, q, hA0, hV, rfl, hfz, hnd⟩ := hW
  have hA : DataW.TrodAll enc Tryz.prog W 0 (fun _ => true) true Tryz.f5.params.toList args.toList ds p := hA0
  rw [Tryz.params5] at hA hval
  obtain ⟨v0, vs0, d0, ds0, p0, q0, hargs0, rfl, rfl, h0, r0⟩ := trodAll_cons hA
  obtain ⟨rfl, rfl, rfl⟩ := trodAll_nil r0
  obtain rfl : args = #[v0] := by cases args; simp_all
  obtain ⟨rfl, rfl⟩ := trodVars_none hV
  obtain ⟨x0a, x0b, x0c, x0d, v0, x0, x0t, rfl, hr0, hw0, hs0, hq0⟩ := Ub.open_case11 h0
  clear hA0
  simp only [List.append_nil] at hW' hk
  have hk' : Rows.uptoBulkAll (H := H) [d0] ≤ 1048576 := of_decide_eq_true hk
  simp only [Rows.uptoBulkAll] at hk'
  have hlen0 := hq0 (by omega)
  have hlt0 : ∀ x ∈ p0, x.block < W.heap.size := fun x hx => by simpa using hW'.lt x (by simp [hx])
  refine (walk x0a x0b x0c x0d v0 x0 x0t W hr0 hw0 hs0 hlen0 (ready_of hL hSh)).mono fun e W' ⟨he, hb⟩ => ?_
  subst he
  exact ⟨_, rfl, _, _, _, [], (p0 ++ []), [], hW', trodAll_cons_mk (shut_bool Tryz.underlying4 _) trodAll_mk0, trodAll_cons_mk (Below.trod laidOut (by kernel_rfl) (of_decide_eq_true (by kernel_rfl)) h0 hb hlt0) trodAll_mk0, rfl, hb.frame _, fun h => by cases h⟩

set_option maxRecDepth 100000 in
theorem lifted (os : Os) (started : os.Started) (H : Type) (enc : TypeId × Value → H) (F : Stop.Interp) :
    ReturnsInHanded {} Tryz.checked os 5 .any ((Rows.OpenSpec.upto Rows.unifiedBackSpec).preRow enc Tryz.prog Tryz.f5 Rows.unifiedBackUptoRow.domain false Rows.unifiedBackUptoRow.laid) (((Rows.OpenSpec.upto Rows.unifiedBackSpec).at F).post enc Tryz.prog Tryz.f5 false true false false) := by
  refine returnsInHanded_of_row (C := Tryz.checked) (s := Rows.OpenSpec.upto Rows.unifiedBackSpec) own started (by kernel_rfl) Tryz.func5
    (witness_row_at (enc := enc) (C := Tryz.checked) false
      (laidWorld os)
      #[.agg #[.string .empty, .string .empty, .string .empty, .string .empty, .slice none 0 0, .string .empty]] rfl (by kernel_rfl) (by kernel_rfl) (by kernel_rfl)
      (OpenSpec.preRow_of_cond 8 (x := ([.agg [.agg [.lit (.string []), .lit (.string [])], .agg [.lit (.string []), .lit (.string [])], .nil, .lit (.string [])]], [], [])) (by kernel_rfl) (by kernel_rfl) (fun k hk => by cases hk; kernel_rfl) (by kernel_rfl) (laidWorld_met os _))) ?_
  intro W base args ds gs before hval hW _ hcond hsz hL hSh _
  exact contract H enc W base args ds gs before hval hW (hcond _ rfl) hL hSh

theorem said : Rows.UnifiedBackUptoSaid :=
  OpenClaim.holds_of_cond 5 Tryz.f5 rfl rfl rfl rfl rfl rfl rfl ⟨rfl, rfl, rfl, rfl, rfl⟩ rfl rfl rfl rfl rfl (by kernel_rfl) Tryz.func5 (by kernel_rfl)
    (of_decide_eq_true (by kernel_rfl)) (by unfold Func.isWrapper; first | (rw [if_pos (by decide +kernel)]; kernel_rfl) | (rw [if_neg (by decide +kernel)]; exact ⟨rfl, rfl⟩))
    (fun os started H enc _ F => by rw [OpenClaim.pre_eq_preRow]; exact lifted os started H enc F)

theorem plain (f : FuncId) (fn : Func) (hf : Tryz.pinned.checked.prog.funcNamed Rows.unifiedBackUptoRow.func = some f) (hfn : Tryz.pinned.checked.prog.funcs[f]? = some fn) :
    true = Tryz.pinned.checked.prog.looks [] ∧ ∀ (j : Nat) t, fn.params[j]? = some t → Tryz.pinned.checked.prog.wantsStandIn t = false := by
  obtain rfl : f = 5 := Option.some.inj ((show Tryz.prog.funcNamed Rows.unifiedBackUptoRow.func = some 5 by kernel_rfl).symm.trans hf) |>.symm
  obtain rfl : fn = Tryz.f5 := (Option.some.inj (Tryz.func5.symm.trans hfn)).symm
  refine ⟨by kernel_rfl, fun j t ht => ?_⟩
  rw [Tryz.params5] at ht
  have hm : t = 47 := by simpa using Array.mem_of_getElem? ht
  rcases hm with rfl
  · exact (show Tryz.prog.wantsStandIn 47 = false by kernel_rfl)

theorem card : Rows.UnifiedBackUptoCardSaid :=
  Claim7.holds_tied_plain_at .later [] _ _ _ _ said (fun _ h => by cases h) (by kernel_rfl) (fun _ h => by cases h) unifiedBackUpto_row_tie rfl ⟨rfl, rfl⟩ (by kernel_rfl) rfl plain (by kernel_rfl)
end Go.Proofs.YtobocdbehjcpjaaGreatDoor.unifiedBack
