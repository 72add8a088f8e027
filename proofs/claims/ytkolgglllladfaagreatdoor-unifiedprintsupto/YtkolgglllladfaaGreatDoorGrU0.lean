/-
  Several texts in one: U0, U1.
-/
import Derived.Test.YtkolgglllladfaaGreatDoorFt
import Derived.Deep.DeepCutAuto
import Derived.Deep.Cut
import Derived.Deep.CutRange
import Derived.Test.YtkolgglllladfaaGreatDoorFy
/-
  Unified diffs: the law's sameHunks, where the hunks are the same (made by wip/genu0.py).
-/
namespace Go.Proofs.YtkolgglllladfaaGreatDoor
open Go.RowKit
open Hu (Rw Hk)

theorem ba_sameU (x : ByteArray) : (x == x) = true := by
  cases x
  exact beq_self_eq_true (α := Array UInt8) _
/-- two hunks side by side -/
def TwI (w wc : World) (X Y : Nat) (cx cy : Array Value) : Prop := Below w.heap.size w wc ∧ wc.heap[X]? = some (.cells cx 37) ∧ wc.heap[Y]? = some (.cells cy 37)
set_option maxHeartbeats 8000000 in
set_option maxRecDepth 100000 in
theorem sameHunks_yes {w : World} {v1 v2 : Value} {l : List Hk} (h1 : RdH w v1 l) (h2 : RdH w v2 l) (hl : l.length ≤ 5000000) (hz : ∀ h ∈ l, h.rows.length ≤ 5864062014800) :
    Calls Tryz.prog 8 #[v1, v2] w fun e w' => e = .returned (.bool true) ∧ Below w.heap.size w w' := by
  obtain ⟨a1, c1, rfl⟩ := h1.shape
  obtain ⟨a2, c2, rfl⟩ := h2.shape
  obtain ⟨n, hn⟩ : ∃ n, n = l.length := ⟨_, rfl⟩
  have HN := hid hn
  have HR1 : Hid (RdH w (.slice a1 n c1) l) := hid (by rw [hn]; exact h1)
  have HR2 : Hid (RdH w (.slice a2 n c2) l) := hid (by rw [hn]; exact h2)
  have HZ := hid hz
  rw [← hn] at hl ⊢
  clear h1 h2 hn hz
  have z0 : ((n : Int) == (n : Int)) = true := zeq rfl
  go_enter Tryz.func8, Tryz.ntmps8
  go_wp2_with fail
  go_loopw [5] (fun ii wr => ∃ k : Nat, k ≤ n ∧ ii = .int .i64 k ∧ Hid (Below w.heap.size w wr)) (fun ii _ => n - (intOf ii).toNat)
  case atStart => exact ⟨0, Nat.zero_le _, rfl, hid (Below.refl _ _)⟩
  case round =>
    obtain ⟨k, hk, rfl, HB⟩ := hrel
    by_cases hlt : k < n
    · obtain ⟨x, hx⟩ : ∃ x, l[k]? = some x := ⟨_, List.getElem?_eq_getElem (by have := HN.out; omega)⟩
      obtain ⟨b1, o1, u1, rfl, hb1, d0, d1, d2, d3, d4, d5, hu1⟩ := rdH_at HR1.out hx
      obtain ⟨qa, qc, rfl⟩ := hu1.shape
      obtain ⟨b2, o2, u2, rfl, hb2, e0, e1, e2, e3, e4, e5, hu2⟩ := rdH_at HR2.out hx
      obtain ⟨ra, rc, rfl⟩ := hu2.shape
      have hrl := HZ.out x (List.mem_of_getElem? hx)
      obtain ⟨xa, xn, xb, xm, xh, xr⟩ := x
      dsimp only at d0 d1 d2 d3 d4 d5 hu1 e0 e1 e2 e3 e4 e5 hu2 hrl
      obtain ⟨N, hN⟩ : ∃ N, N = xr.length := ⟨_, rfl⟩
      have HNN := hid hN
      have HU1 : Hid (RdW w (.slice qa N qc) xr) := hid (by rw [hN]; exact hu1)
      have HU2 : Hid (RdW w (.slice ra N rc) xr) := hid (by rw [hN]; exact hu2)
      rw [← hN] at d5 e5 hrl
      have dl : b1 < wr.heap.size := Nat.lt_of_lt_of_le hb1 HB.out.size
      have el : b2 < wr.heap.size := Nat.lt_of_lt_of_le hb2 HB.out.size
      replace d0 := (HB.out.cell (p := ⟨b1, o1 + k * 6, none⟩) hb1).trans d0
      replace d1 := (HB.out.cell (p := ⟨b1, o1 + k * 6 + 1, none⟩) hb1).trans d1
      replace d2 := (HB.out.cell (p := ⟨b1, o1 + k * 6 + 2, none⟩) hb1).trans d2
      replace d3 := (HB.out.cell (p := ⟨b1, o1 + k * 6 + 3, none⟩) hb1).trans d3
      replace d4 := (HB.out.cell (p := ⟨b1, o1 + k * 6 + 4, none⟩) hb1).trans d4
      replace d5 := (HB.out.cell (p := ⟨b1, o1 + k * 6 + 5, none⟩) hb1).trans d5
      replace e0 := (HB.out.cell (p := ⟨b2, o2 + k * 6, none⟩) hb2).trans e0
      replace e1 := (HB.out.cell (p := ⟨b2, o2 + k * 6 + 1, none⟩) hb2).trans e1
      replace e2 := (HB.out.cell (p := ⟨b2, o2 + k * 6 + 2, none⟩) hb2).trans e2
      replace e3 := (HB.out.cell (p := ⟨b2, o2 + k * 6 + 3, none⟩) hb2).trans e3
      replace e4 := (HB.out.cell (p := ⟨b2, o2 + k * 6 + 4, none⟩) hb2).trans e4
      replace e5 := (HB.out.cell (p := ⟨b2, o2 + k * 6 + 5, none⟩) hb2).trans e5
      have i1 : (0 : Int) ≤ (k : Int) := by omega
      have i2 : (k : Int) < (n : Int) := by omega
      have i3 : IntKind.i64.wrap ((k : Int) + 1) = (k : Int) + 1 := wrapOk (by omega) (by omega)
      have z1 : (xa == xa) = true := zeq rfl
      have z2 : (xn == xn) = true := zeq rfl
      have z3 : (xb == xb) = true := zeq rfl
      have z4 : (xm == xm) = true := zeq rfl
      have z5 : (xh == xh) = true := ba_sameU xh
      have z6 : ((N : Int) == (N : Int)) = true := zeq rfl
      clear hx hu1 hu2 hN hb1 hb2
      obtain ⟨w1, hw1⟩ : ∃ w1, w1 = wr := ⟨_, rfl⟩
      rw [← hw1] at HB dl el d0 d1 d2 d3 d4 d5 e0 e1 e2 e3 e4 e5 ⊢
      clear hw1 wr
      go_wp2_with fail
      go_cut [6, 7] (fun x y wc => ∃ X Y : Nat, x = .pointer (some ⟨X, 0, none⟩) ∧ y = .pointer (some ⟨Y, 0, none⟩) ∧ Hid (TwI w1 wc X Y #[.int .i64 xa, .int .i64 xn, .int .i64 xb, .int .i64 xm, .string xh, .slice qa N qc] #[.int .i64 xa, .int .i64 xn, .int .i64 xb, .int .i64 xm, .string xh, .slice ra N rc]))
      case first =>
        refine wp_region_noPanic ?_
        refine wp_region_held_drew (S := fun w' => Below w1.heap.size w1 w') (by kernel_rfl) ?S (fun hHeld => ?M)
        case S => exact (Below.refl _ _).drew
        have HDR : Hid (Below w1.heap.size w1 w1.drew) := hid ((Below.refl _ _).drew)
        generalize w1.drew = wd at HDR hHeld ⊢
        refine wpAnyH_take (i := 0) (v := ?v0) rfl (by kernel_rfl) (by kernel_rfl) (by kernel_rfl) (fun _ _ _ h => h) (Or.inl ⟨by rfl, fun ww hSw => ?y0⟩) hHeld ?r0
        case y0 => (go_simp; all_goals with_reducible rfl)
        try simp only [Act.put]
        try simp only [List.setIfInBounds_toArray]
        try simp only [List.set]
        refine wpAnyH_take (i := 1) (v := ?v1) rfl (by kernel_rfl) (by kernel_rfl) (by kernel_rfl) (fun _ _ _ h => h) (Or.inl ⟨by rfl, fun ww hSw => ?y1⟩) hHeld ?r1
        case y1 => (go_simp; all_goals with_reducible rfl)
        try simp only [Act.put]
        try simp only [List.setIfInBounds_toArray]
        try simp only [List.set]
        refine wpAnyH_take (i := 2) (v := ?v2) rfl (by kernel_rfl) (by kernel_rfl) (by kernel_rfl) (fun _ _ _ h => h) (Or.inl ⟨by rfl, fun ww hSw => ?y2⟩) hHeld ?r2
        case y2 => (go_simp; all_goals with_reducible rfl)
        try simp only [Act.put]
        try simp only [List.setIfInBounds_toArray]
        try simp only [List.set]
        refine wpAnyH_take (i := 3) (v := ?v3) rfl (by kernel_rfl) (by kernel_rfl) (by kernel_rfl) (fun _ _ _ h => h) (Or.inl ⟨by rfl, fun ww hSw => ?y3⟩) hHeld ?r3
        case y3 => (have t0 := (hSw.cell (p := ⟨b1, o1 + k * 6, none⟩) dl).trans d0; have t1 := (hSw.cell (p := ⟨b1, o1 + k * 6 + 1, none⟩) dl).trans d1; have t2 := (hSw.cell (p := ⟨b1, o1 + k * 6 + 2, none⟩) dl).trans d2; have t3 := (hSw.cell (p := ⟨b1, o1 + k * 6 + 3, none⟩) dl).trans d3; have t4 := (hSw.cell (p := ⟨b1, o1 + k * 6 + 4, none⟩) dl).trans d4; have t5 := (hSw.cell (p := ⟨b1, o1 + k * 6 + 5, none⟩) dl).trans d5; go_simp; all_goals with_reducible rfl)
        try simp only [Act.put]
        try simp only [List.setIfInBounds_toArray]
        try simp only [List.set]
        refine wpAnyH_take (i := 4) (v := ?v4) rfl (by kernel_rfl) (by kernel_rfl) (by kernel_rfl) (fun _ _ _ h => h) (Or.inl ⟨by rfl, fun ww hSw => ?y4⟩) hHeld ?r4
        case y4 => (go_simp; all_goals with_reducible rfl)
        try simp only [Act.put]
        try simp only [List.setIfInBounds_toArray]
        try simp only [List.set]
        refine wpAnyH_take (i := 5) (v := ?v5) rfl (by kernel_rfl) (by kernel_rfl) (by kernel_rfl) (fun _ _ _ h => h) (Or.inl ⟨by rfl, fun ww hSw => ?y5⟩) hHeld ?r5
        case y5 => (go_simp; all_goals with_reducible rfl)
        try simp only [Act.put]
        try simp only [List.setIfInBounds_toArray]
        try simp only [List.set]
        refine wpAnyH_take (i := 6) (v := ?v6) rfl (by kernel_rfl) (by kernel_rfl) (by kernel_rfl) (fun _ _ _ h => h) (Or.inl ⟨by rfl, fun ww hSw => ?y6⟩) hHeld ?r6
        case y6 => (go_simp; all_goals with_reducible rfl)
        try simp only [Act.put]
        try simp only [List.setIfInBounds_toArray]
        try simp only [List.set]
        refine wpAnyH_take (i := 7) (v := ?v7) rfl (by kernel_rfl) (by kernel_rfl) (by kernel_rfl) (fun _ _ _ h => h) (Or.inl ⟨by rfl, fun ww hSw => ?y7⟩) hHeld ?r7
        case y7 => (have t0 := (hSw.cell (p := ⟨b2, o2 + k * 6, none⟩) el).trans e0; have t1 := (hSw.cell (p := ⟨b2, o2 + k * 6 + 1, none⟩) el).trans e1; have t2 := (hSw.cell (p := ⟨b2, o2 + k * 6 + 2, none⟩) el).trans e2; have t3 := (hSw.cell (p := ⟨b2, o2 + k * 6 + 3, none⟩) el).trans e3; have t4 := (hSw.cell (p := ⟨b2, o2 + k * 6 + 4, none⟩) el).trans e4; have t5 := (hSw.cell (p := ⟨b2, o2 + k * 6 + 5, none⟩) el).trans e5; go_simp; all_goals with_reducible rfl)
        try simp only [Act.put]
        try simp only [List.setIfInBounds_toArray]
        try simp only [List.set]
        refine wpAnyH_ready (rs := [8, 9]) (by kernel_rfl) (by simp) ?pA
        refine AllReadyH.cons rfl (fun K hK => ?_) (AllReadyH.cons rfl (fun K hK => ?_) AllReadyH.nil)
        · skip
          go_simp
          have HA := hid ((Below.refl wd.heap.size wd).alloc (Nat.le_refl _) (.cells #[.int .i64 0, .int .i64 0, .int .i64 0, .int .i64 0, .string ⟨#[]⟩, .slice none 0 0] 37))
          have HAk := hid (heap_alloc_new wd (.cells #[.int .i64 0, .int .i64 0, .int .i64 0, .int .i64 0, .string ⟨#[]⟩, .slice none 0 0] 37))
          refine hK.out _ _ ?Sa810o8 (fun hHeld => ?Ma810o8)
          case Sa810o8 => exact hHeld.trans (HA.out.mono hHeld.size)
          clear hK K
          try simp only [Act.put]
          try simp only [List.setIfInBounds_toArray]
          try simp only [List.set]
          obtain ⟨wpb, hwpb⟩ : ∃ wpb, wpb = wd.heap.size := ⟨_, rfl⟩
          rw [← hwpb] at HAk ⊢
          have Hwpb : Hid (wpb = wd.heap.size) := hid hwpb
          generalize wd.alloc (.cells #[.int .i64 0, .int .i64 0, .int .i64 0, .int .i64 0, .string ⟨#[]⟩, .slice none 0 0] 37) = wp at hHeld HA HAk ⊢
          clear hwpb
          refine wpAnyH_ready (rs := [9]) (by kernel_rfl) (by simp) ?pz108
          refine AllReadyH.cons rfl (fun K hK => ?_) AllReadyH.nil
          go_simp
          have HC := hid ((Below.refl wp.heap.size wp).alloc (Nat.le_refl _) (.cells #[.int .i64 0, .int .i64 0, .int .i64 0, .int .i64 0, .string ⟨#[]⟩, .slice none 0 0] 37))
          have HCk := hid (heap_alloc_new wp (.cells #[.int .i64 0, .int .i64 0, .int .i64 0, .int .i64 0, .string ⟨#[]⟩, .slice none 0 0] 37))
          refine hK.out _ _ ?Sa910o8 (fun hHeld => ?Ma910o8)
          case Sa910o8 => exact hHeld.trans (HC.out.mono hHeld.size)
          clear hK K
          try simp only [Act.put]
          try simp only [List.setIfInBounds_toArray]
          try simp only [List.set]
          obtain ⟨wqb, hwqb⟩ : ∃ wqb, wqb = wp.heap.size := ⟨_, rfl⟩
          rw [← hwqb] at HCk ⊢
          have Hwqb : Hid (wqb = wp.heap.size) := hid hwqb
          generalize wp.alloc (.cells #[.int .i64 0, .int .i64 0, .int .i64 0, .int .i64 0, .string ⟨#[]⟩, .slice none 0 0] 37) = wq at hHeld HC HCk ⊢
          clear hwqb
          have HP1 := hid ((HC.out.block wpb (lt_of_heap HAk.out)).trans HAk.out)
          have hne : wpb ≠ wqb := by have := lt_of_heap HAk.out; have := Hwqb.out; omega
          have hgp : w1.heap.size ≤ wpb := by have := HDR.out.size; have := Hwpb.out; omega
          have hgq : w1.heap.size ≤ wqb := by have := HDR.out.size; have := HA.out.size; have := Hwqb.out; omega
          refine wpAnyH_ready (rs := [10]) (by kernel_rfl) (by simp) ?py108
          refine AllReadyH.cons rfl (fun K hK => ?_) AllReadyH.nil
          rw [if_pos (by rfl)]
          refine wpOp_stA 37 #[.int .i64 xa, .int .i64 xn, .int .i64 xb, .int .i64 xm, .string xh, .slice qa N qc] rfl HP1.out Tryz.sizeHk rfl rfl rfl rfl ?_
          intro ws hks hkps
          have HS1 := hid hks
          have HS2 := hid ((hkps.block wqb (lt_of_heap HCk.out) (by omega)).trans HCk.out)
          refine hK.out _ _ ?Ss108 (fun hHeld => ?Ms108)
          case Ss108 => exact Kept.onto hHeld hkps (by omega) (Nat.le_refl _)
          clear hK K hks hkps
          try simp only [Act.put]
          try simp only [List.setIfInBounds_toArray]
          try simp only [List.set]
          refine wpAnyH_ready (rs := [11]) (by kernel_rfl) (by simp) ?px108
          refine AllReadyH.cons rfl (fun K hK => ?_) AllReadyH.nil
          rw [if_pos (by rfl)]
          refine wpOp_stA 37 #[.int .i64 xa, .int .i64 xn, .int .i64 xb, .int .i64 xm, .string xh, .slice ra N rc] rfl HS2.out Tryz.sizeHk rfl rfl rfl rfl ?_
          intro wt hkt hkpt
          have HT2 := hid hkt
          have HT1 := hid ((hkpt.block wpb (lt_of_heap HS1.out) (by omega)).trans HS1.out)
          refine hK.out _ _ ?St108 (fun hHeld => ?Mt108)
          case St108 => exact Kept.onto hHeld hkpt (by omega) (Nat.le_refl _)
          clear hK K hkt hkpt
          try simp only [Act.put]
          try simp only [List.setIfInBounds_toArray]
          try simp only [List.set]
          refine wpAnyH_done (by kernel_rfl) ?_ _
          refine NoPanic.normal ?_
          go_wp2_with fail
          go_meet
          exact ⟨_, _, rfl, rfl, hid ⟨hHeld, HT1.out, HT2.out⟩⟩
        · skip
          go_simp
          have HA := hid ((Below.refl wd.heap.size wd).alloc (Nat.le_refl _) (.cells #[.int .i64 0, .int .i64 0, .int .i64 0, .int .i64 0, .string ⟨#[]⟩, .slice none 0 0] 37))
          have HAk := hid (heap_alloc_new wd (.cells #[.int .i64 0, .int .i64 0, .int .i64 0, .int .i64 0, .string ⟨#[]⟩, .slice none 0 0] 37))
          refine hK.out _ _ ?Sa910o9 (fun hHeld => ?Ma910o9)
          case Sa910o9 => exact hHeld.trans (HA.out.mono hHeld.size)
          clear hK K
          try simp only [Act.put]
          try simp only [List.setIfInBounds_toArray]
          try simp only [List.set]
          obtain ⟨wpb, hwpb⟩ : ∃ wpb, wpb = wd.heap.size := ⟨_, rfl⟩
          rw [← hwpb] at HAk ⊢
          have Hwpb : Hid (wpb = wd.heap.size) := hid hwpb
          generalize wd.alloc (.cells #[.int .i64 0, .int .i64 0, .int .i64 0, .int .i64 0, .string ⟨#[]⟩, .slice none 0 0] 37) = wp at hHeld HA HAk ⊢
          clear hwpb
          refine wpAnyH_ready (rs := [8]) (by kernel_rfl) (by simp) ?pz109
          refine AllReadyH.cons rfl (fun K hK => ?_) AllReadyH.nil
          go_simp
          have HC := hid ((Below.refl wp.heap.size wp).alloc (Nat.le_refl _) (.cells #[.int .i64 0, .int .i64 0, .int .i64 0, .int .i64 0, .string ⟨#[]⟩, .slice none 0 0] 37))
          have HCk := hid (heap_alloc_new wp (.cells #[.int .i64 0, .int .i64 0, .int .i64 0, .int .i64 0, .string ⟨#[]⟩, .slice none 0 0] 37))
          refine hK.out _ _ ?Sa810o9 (fun hHeld => ?Ma810o9)
          case Sa810o9 => exact hHeld.trans (HC.out.mono hHeld.size)
          clear hK K
          try simp only [Act.put]
          try simp only [List.setIfInBounds_toArray]
          try simp only [List.set]
          obtain ⟨wqb, hwqb⟩ : ∃ wqb, wqb = wp.heap.size := ⟨_, rfl⟩
          rw [← hwqb] at HCk ⊢
          have Hwqb : Hid (wqb = wp.heap.size) := hid hwqb
          generalize wp.alloc (.cells #[.int .i64 0, .int .i64 0, .int .i64 0, .int .i64 0, .string ⟨#[]⟩, .slice none 0 0] 37) = wq at hHeld HC HCk ⊢
          clear hwqb
          have HP1 := hid ((HC.out.block wpb (lt_of_heap HAk.out)).trans HAk.out)
          have hne : wpb ≠ wqb := by have := lt_of_heap HAk.out; have := Hwqb.out; omega
          have hgp : w1.heap.size ≤ wpb := by have := HDR.out.size; have := Hwpb.out; omega
          have hgq : w1.heap.size ≤ wqb := by have := HDR.out.size; have := HA.out.size; have := Hwqb.out; omega
          refine wpAnyH_ready (rs := [10]) (by kernel_rfl) (by simp) ?py109
          refine AllReadyH.cons rfl (fun K hK => ?_) AllReadyH.nil
          rw [if_pos (by rfl)]
          refine wpOp_stA 37 #[.int .i64 xa, .int .i64 xn, .int .i64 xb, .int .i64 xm, .string xh, .slice qa N qc] rfl HCk.out Tryz.sizeHk rfl rfl rfl rfl ?_
          intro ws hks hkps
          have HS1 := hid hks
          have HS2 := hid ((hkps.block wpb (lt_of_heap HP1.out) (by omega)).trans HP1.out)
          refine hK.out _ _ ?Ss109 (fun hHeld => ?Ms109)
          case Ss109 => exact Kept.onto hHeld hkps (by omega) (Nat.le_refl _)
          clear hK K hks hkps
          try simp only [Act.put]
          try simp only [List.setIfInBounds_toArray]
          try simp only [List.set]
          refine wpAnyH_ready (rs := [11]) (by kernel_rfl) (by simp) ?px109
          refine AllReadyH.cons rfl (fun K hK => ?_) AllReadyH.nil
          rw [if_pos (by rfl)]
          refine wpOp_stA 37 #[.int .i64 xa, .int .i64 xn, .int .i64 xb, .int .i64 xm, .string xh, .slice ra N rc] rfl HS2.out Tryz.sizeHk rfl rfl rfl rfl ?_
          intro wt hkt hkpt
          have HT2 := hid hkt
          have HT1 := hid ((hkpt.block wqb (lt_of_heap HS1.out) (by omega)).trans HS1.out)
          refine hK.out _ _ ?St109 (fun hHeld => ?Mt109)
          case St109 => exact Kept.onto hHeld hkpt (by omega) (Nat.le_refl _)
          clear hK K hkt hkpt
          try simp only [Act.put]
          try simp only [List.setIfInBounds_toArray]
          try simp only [List.set]
          refine wpAnyH_done (by kernel_rfl) ?_ _
          refine NoPanic.normal ?_
          go_wp2_with fail
          go_meet
          exact ⟨_, _, rfl, rfl, hid ⟨hHeld, HT1.out, HT2.out⟩⟩
      case rest =>
        obtain ⟨X, Y, rfl, rfl, HT⟩ := hcut
        obtain ⟨w2, hw2⟩ : ∃ z, z = wc := ⟨_, rfl⟩
        subst hw2
        obtain ⟨hb3, hX, hY⟩ := HT.out
        have HB3 := hid (HB.out.trans (hb3.mono HB.out.size))
        have HX := hid hX
        have HY := hid hY
        clear hb3 hX hY HT d0 d1 d2 d3 d4 d5 e0 e1 e2 e3 e4 e5 dl el HB
        have x0 : w2.cell? ⟨X, 0, none⟩ = some (.int .i64 xa) := cell_of_blk HX.out 0
        have x1 : w2.cell? ⟨X, 1, none⟩ = some (.int .i64 xn) := cell_of_blk HX.out 1
        have x2 : w2.cell? ⟨X, 2, none⟩ = some (.int .i64 xb) := cell_of_blk HX.out 2
        have x3 : w2.cell? ⟨X, 3, none⟩ = some (.int .i64 xm) := cell_of_blk HX.out 3
        have x4 : w2.cell? ⟨X, 4, none⟩ = some (.string xh) := cell_of_blk HX.out 4
        have x5 : w2.cell? ⟨X, 5, none⟩ = some (.slice qa N qc) := cell_of_blk HX.out 5
        have y0 : w2.cell? ⟨Y, 0, none⟩ = some (.int .i64 xa) := cell_of_blk HY.out 0
        have y1 : w2.cell? ⟨Y, 1, none⟩ = some (.int .i64 xn) := cell_of_blk HY.out 1
        have y2 : w2.cell? ⟨Y, 2, none⟩ = some (.int .i64 xb) := cell_of_blk HY.out 2
        have y3 : w2.cell? ⟨Y, 3, none⟩ = some (.int .i64 xm) := cell_of_blk HY.out 3
        have y4 : w2.cell? ⟨Y, 4, none⟩ = some (.string xh) := cell_of_blk HY.out 4
        have y5 : w2.cell? ⟨Y, 5, none⟩ = some (.slice ra N rc) := cell_of_blk HY.out 5
        go_wp2_with fail
        clear x0 x1 x2 x3 x4 x5 y0 y1 y2 y3 y4 y5
        go_loopw [8] (fun ii wr => ∃ j : Nat, j ≤ N ∧ ii = .int .i64 j ∧ Hid (Below w.heap.size w wr) ∧ Hid (wr.heap[X]? = some (.cells #[.int .i64 xa, .int .i64 xn, .int .i64 xb, .int .i64 xm, .string xh, .slice qa N qc] 37)) ∧ Hid (wr.heap[Y]? = some (.cells #[.int .i64 xa, .int .i64 xn, .int .i64 xb, .int .i64 xm, .string xh, .slice ra N rc] 37))) (fun ii _ => N - (intOf ii).toNat)
        case atStart => exact ⟨0, Nat.zero_le _, rfl, HB3, HX, HY⟩
        case round =>
          obtain ⟨j, hj, rfl, HB4, HX4, HY4⟩ := hrel
          have x5 : wr.cell? ⟨X, 5, none⟩ = some (.slice qa N qc) := cell_of_blk HX4.out 5
          have y5 : wr.cell? ⟨Y, 5, none⟩ = some (.slice ra N rc) := cell_of_blk HY4.out 5
          by_cases hjl : j < N
          · obtain ⟨z, hz⟩ : ∃ z, xr[j]? = some z := ⟨_, List.getElem?_eq_getElem (by have := HNN.out; omega)⟩
            obtain ⟨b3, o3, g1, hb3, d0, d1⟩ := rdW_at HU1.out hz
            subst g1
            obtain ⟨b4, o4, g2, hb4, g0, g1⟩ := rdW_at HU2.out hz
            subst g2
            replace d0 := (HB4.out.cell (p := ⟨b3, _, none⟩) hb3).trans d0
            replace d1 := (HB4.out.cell (p := ⟨b3, _, none⟩) hb3).trans d1
            replace g0 := (HB4.out.cell (p := ⟨b4, _, none⟩) hb4).trans g0
            replace g1 := (HB4.out.cell (p := ⟨b4, _, none⟩) hb4).trans g1
            have j1 : (0 : Int) ≤ (j : Int) := by omega
            have j2 : (j : Int) < (N : Int) := by omega
            have j3 : IntKind.i64.wrap ((j : Int) + 1) = (j : Int) + 1 := wrapOk (by omega) (by omega)
            have z7 : (z.k == z.k) = true := zeq rfl
            have z8 : (z.t == z.t) = true := ba_sameU z.t
            clear hz hb3 hb4
            go_wp2_with fail
            go_quiet (fail)
            go_wp2_with fail
            go_roundw
            case rel => exact ⟨j + 1, by omega, by go_num, hid (below_drewN HB4.out _), hid HX4.out, hid HY4.out⟩
            case measure => simp [intOf]; omega
          · obtain rfl : j = N := by omega
            go_wp2_with fail
            go_roundw
            case rel => exact ⟨k + 1, by omega, by go_num, HB4⟩
            case measure => simp [intOf]; omega
    · obtain rfl : k = n := by omega
      go_wp2_with fail
      go_ret
      exact ⟨rfl, HB.out⟩
end Go.Proofs.YtkolgglllladfaaGreatDoor
/-
  Unified diffs: the program's Print of names without a stamp (made by wip/genu1.py).
-/
namespace Go.Proofs.YtkolgglllladfaaGreatDoor
open Go.RowKit
open Hu (Rw Hk)

set_option maxHeartbeats 4000000 in
set_option maxRecDepth 100000 in
theorem print_bare {w : World} {v : Value} {hs : List Hk} (p1 p2 : ByteArray) (hr : RdH w v hs) (hp : PowV w) (hch : chkN hs = 0) (hz : ∀ h ∈ hs, SzH h) (hn : hs.length ≤ 5000000) (hp1 : p1.size ≤ 1099511627776) (hp2 : p2.size ≤ 1099511627776) (h01 : p1.size ≠ 0) (h02 : p2.size ≠ 0) (hz1 : (0 : UInt8) ∉ p1.data.toList) (hz2 : (0 : UInt8) ∉ p2.data.toList) (hl : (hs.flatMap Un.hunkT).length ≤ 100000000000000) :
    Calls Tryz.prog 5 #[.agg #[.string p1, .string ⟨#[]⟩], .agg #[.string p2, .string ⟨#[]⟩], v] w fun e w' => e = .returned (.tuple #[.string (bB (Un.printT (p1.data.toList, []) (p2.data.toList, []) hs)), .nilIface]) ∧ Below w.heap.size w w' := by
  have hall : hs.all Hu.vld = true := by
    unfold chkN at hch
    split at hch
    · assumption
    · cases hch
  have HCK := hid (fun w1 (h1 : Below w.heap.size w w1) => check_any (hr.below h1) hn hz)
  rw [hch] at HCK
  have HFP := hid (fun w1 (h1 : Below w.heap.size w w1) => fprint_any p1 ⟨#[]⟩ p2 ⟨#[]⟩ (hr.below h1) (hp.below h1 (Nat.succ_le_of_lt hp.lt)) hall hz hn hp1 hp2 (by show 0 ≤ _; omega) (by show 0 ≤ _; omega) hl)
  have HI1 := hid (fun w1 => isPrinted_bare p1 w1 h01 hz1)
  have HI2 := hid (fun w1 => isPrinted_bare p2 w1 h02 hz2)
  have HFM := hid (fun w1 => format_any w1)
  have e0 : (ByteArray.mk #[]).data.toList = [] := rfl
  rw [e0] at HFP
  obtain ⟨PT, hPT⟩ : ∃ PT, PT = bB (Un.printT (p1.data.toList, []) (p2.data.toList, []) hs) := ⟨_, rfl⟩
  rw [← hPT] at HFP ⊢
  obtain ⟨va, vc, rfl⟩ := hr.shape
  obtain ⟨N, hN⟩ : ∃ N, N = hs.length := ⟨_, rfl⟩
  rw [← hN] at HCK HFP ⊢
  obtain ⟨hb0, k1, k2⟩ := twoF w (.cells #[.string p1, .string ⟨#[]⟩] 23) (.cells #[.string p2, .string ⟨#[]⟩] 23)
  have HB0 := hid hb0
  have K1 := hid k1
  have K2 := hid k2
  obtain ⟨A, hA⟩ : ∃ A, A = w.heap.size := ⟨_, rfl⟩
  rw [← hA] at K1 K2
  clear hr hp hch hz hall hPT hN hb0 k1 k2 h01 h02 hz1 hz2 e0
  go_enter Tryz.func5, Tryz.ntmps5
  go_wp2_with fail
  rw [← hA]
  clear hA
  generalize (w.alloc (.cells #[.string p1, .string ⟨#[]⟩] 23)).alloc (.cells #[.string p2, .string ⟨#[]⟩] 23) = w0 at HB0 K1 K2 ⊢
  refine (HI1.out w0).mono ?_
  rintro e w1 ⟨rfl, hb1⟩
  have HB1 := hid (HB0.out.trans (hb1.mono HB0.out.size))
  have L1 := hid ((hb1.block A (lt_of_heap K1.out)).trans K1.out)
  have L2 := hid ((hb1.block (A + 1) (lt_of_heap K2.out)).trans K2.out)
  have c0 : w1.cell? ⟨A + 1, 0, none⟩ = some (.string p2) := cell_of_blk L2.out 0
  have c1 : w1.cell? ⟨A + 1, 1, none⟩ = some (.string ⟨#[]⟩) := cell_of_blk L2.out 1
  clear hb1
  go_wp2_with fail
  refine (HI2.out w1).mono ?_
  rintro e w2 ⟨rfl, hb2⟩
  have HB2 := hid (HB1.out.trans (hb2.mono HB1.out.size))
  have M1 := hid ((hb2.block A (lt_of_heap L1.out)).trans L1.out)
  have M2 := hid ((hb2.block (A + 1) (lt_of_heap L2.out)).trans L2.out)
  clear hb2 c0 c1
  go_wp2_with fail
  refine (HCK.out w2 HB2.out).mono ?_
  rintro e w3 ⟨rfl, hb3⟩
  have HB3 := hid (HB2.out.trans (hb3.mono HB2.out.size))
  have N1 := hid ((hb3.block A (lt_of_heap M1.out)).trans M1.out)
  have N2 := hid ((hb3.block (A + 1) (lt_of_heap M2.out)).trans M2.out)
  clear hb3
  rw [errV_zero]
  go_wp2_with fail
  refine wp_region_noPanic ?_
  refine wp_region_held_drew (S := fun w' => Below w3.heap.size w3 w') (by kernel_rfl) ?S (fun hHeld => ?M)
  case S => exact (Below.refl _ _).drew
  generalize w3.drew = wd at hHeld ⊢
  refine wpAnyH_take (i := 1) (v := ?v1) rfl (by kernel_rfl) (by kernel_rfl) (by kernel_rfl) (fun _ _ _ h => h) (Or.inl ⟨by rfl, fun ww hSw => ?y1⟩) hHeld ?r1
  case y1 => (have t0 : ww.cell? ⟨A, 0, none⟩ = some (.string p1) := cell_of_blk ((hSw.block A (lt_of_heap N1.out)).trans N1.out) 0; have t1 : ww.cell? ⟨A, 1, none⟩ = some (.string ⟨#[]⟩) := cell_of_blk ((hSw.block A (lt_of_heap N1.out)).trans N1.out) 1; go_simp; all_goals with_reducible rfl)
  try simp only [Act.put]
  try simp only [List.setIfInBounds_toArray]
  try simp only [List.set]
  refine wpAnyH_take (i := 2) (v := ?v2) rfl (by kernel_rfl) (by kernel_rfl) (by kernel_rfl) (fun _ _ _ h => h) (Or.inl ⟨by rfl, fun ww hSw => ?y2⟩) hHeld ?r2
  case y2 => (have t0 : ww.cell? ⟨(A + 1), 0, none⟩ = some (.string p2) := cell_of_blk ((hSw.block (A + 1) (lt_of_heap N2.out)).trans N2.out) 0; have t1 : ww.cell? ⟨(A + 1), 1, none⟩ = some (.string ⟨#[]⟩) := cell_of_blk ((hSw.block (A + 1) (lt_of_heap N2.out)).trans N2.out) 1; go_simp; all_goals with_reducible rfl)
  try simp only [Act.put]
  try simp only [List.setIfInBounds_toArray]
  try simp only [List.set]
  refine wpAnyH_take (i := 3) (v := ?v3) rfl (by kernel_rfl) (by kernel_rfl) (by kernel_rfl) (fun _ _ _ h => h) (Or.inl ⟨by rfl, fun ww hSw => ?y3⟩) hHeld ?r3
  case y3 => (go_simp; all_goals with_reducible rfl)
  try simp only [Act.put]
  try simp only [List.setIfInBounds_toArray]
  try simp only [List.set]
  refine wpAnyH_ready (rs := [0]) (by kernel_rfl) (by simp) ?q0
  refine AllReadyH.cons rfl (fun K hK => ?_) AllReadyH.nil
  go_simp
  refine (HFM.out wd).mono ?_
  rintro e w5 ⟨rfl, hb5⟩
  go_simp
  refine hK.out _ _ ?S0 (fun hHeld => ?M0)
  case S0 => exact hHeld.trans (hb5.mono hHeld.size)
  clear hK K hb5
  try simp only [Act.put]
  try simp only [List.setIfInBounds_toArray]
  try simp only [List.set]
  refine wpAnyH_ready (rs := [4]) (by kernel_rfl) (by simp) ?q4
  refine AllReadyH.cons rfl (fun K hK => ?_) AllReadyH.nil
  go_simp
  refine (HFP.out w5 (HB3.out.trans (hHeld.mono HB3.out.size))).mono ?_
  rintro e w6 ⟨rfl, hb6⟩
  go_simp
  refine hK.out _ _ ?S4 (fun hHeld => ?M4)
  case S4 => exact hHeld.trans (hb6.mono hHeld.size)
  clear hK K hb6
  try simp only [Act.put]
  try simp only [List.setIfInBounds_toArray]
  try simp only [List.set]
  refine wpAnyH_ready (rs := [5]) (by kernel_rfl) (by simp) ?q5
  refine AllReadyH.cons rfl (fun K hK => ?_) AllReadyH.nil
  go_simp
  refine hK.out _ _ ?S5 (fun hHeld => ?M5)
  case S5 => exact hHeld
  clear hK K
  try simp only [Act.put]
  try simp only [List.setIfInBounds_toArray]
  try simp only [List.set]
  refine wpAnyH_ready (rs := [6]) (by kernel_rfl) (by simp) ?q6
  refine AllReadyH.cons rfl (fun K hK => ?_) AllReadyH.nil
  go_simp
  refine hK.out _ _ ?S6 (fun hHeld => ?M6)
  case S6 => exact hHeld
  clear hK K
  try simp only [Act.put]
  try simp only [List.setIfInBounds_toArray]
  try simp only [List.set]
  refine wpAnyH_done (by kernel_rfl) ?_ _
  refine NoPanic.normal ?_
  have HBZ := hid (HB3.out.trans (hHeld.mono HB3.out.size))
  clear hHeld
  go_wp2_with fail
  go_ret2
  exact ⟨rfl, HBZ.out⟩
end Go.Proofs.YtkolgglllladfaaGreatDoor
