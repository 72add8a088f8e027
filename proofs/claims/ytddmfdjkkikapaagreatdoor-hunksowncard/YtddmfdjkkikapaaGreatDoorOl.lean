/-
  The walk of the law HunksOwn (wip/genol.py).
-/
import Derived.Test.YtddmfdjkkikapaaGreatDoorOk
import Derived.Test.YtddmfdjkkikapaaGreatDoorOj
import Derived.Test.YtddmfdjkkikapaaGreatDoorGrKp
import Derived.Test.YtddmfdjkkikapaaGreatDoorGrKt
import Derived.Test.YtddmfdjkkikapaaGreatDoorGrKf
import Derived.Test.YtddmfdjkkikapaaGreatDoorGrLe
import Derived.Test.YtddmfdjkkikapaaGreatDoorGrJw
namespace Go.Proofs.YtddmfdjkkikapaaGreatDoor
open Go.RowKit
open Hu (Rw Hk)
open Ed (Ch)

theorem bld_named {s : List Ch} {a b : List ByteArray} {ctx : Int} (hsa : ∀ x ∈ a, x.size ≤ maxLen) (hsb : ∀ x ∈ b, x.size ≤ maxLen) : ∀ h ∈ bldA s a b ctx, SzH h ∧ h.rows ≠ [] ∧ h.a ≤ 9223372036854775807 := by
  intro h hh
  refine ⟨(bldA_sz hsa hsb).1 h hh, ?_⟩
  by_cases hn : bldN s a b ctx = 0
  · have hv : Hu.vld h = true := by
      have ho := (bld_ar hn).ord
      unfold Hu.orderN at ho
      cases q : (bldA s a b ctx).all Hu.vld with
      | true => exact List.all_eq_true.1 q h hh
      | false => rw [q] at ho; simp at ho
    obtain ⟨p0, p1, _, p3, _⟩ := Hu.vld_parts hv
    exact ⟨fun e => by (rw [e] at p0; cases p0), by omega⟩
  · unfold bldA at hh
    rw [if_neg hn] at hh
    cases hh
set_option maxHeartbeats 16000000 in
set_option maxRecDepth 100000 in
theorem hunksOwn_walk (v0 : Value) (s : List Ch) (v1 : Value) (a : List ByteArray) (v2 : Value) (b : List ByteArray) (ctx : Int) (w : World) (hr : RdC w v0 s) (hwf : ∀ c ∈ s, WfC c) (hl : s.length ≤ 4398046510976) (hsh : ArgS v0)
    (ha : RdT w v1 a) (hsa : ∀ c ∈ a, SzS c) (hla : a.length ≤ 8796093021952) (hsA : ArgS v1) (hb : RdT w v2 b) (hsb : ∀ c ∈ b, SzS c) (hlb : b.length ≤ 8796093021952) (hsB : ArgS v2) (hg : ErrVar w) (hm : MxV w) :
    Calls Tryz.prog 6 #[.agg #[v0, v1, v2, .int .i64 ctx]] w fun e w' => e = .returned (.bool true) ∧ Below w.heap.size w w' := by
  have hsa : ∀ x ∈ a, x.size ≤ maxLen := hsa
  have hsb : ∀ x ∈ b, x.size ≤ maxLen := hsb
  have HR := hid hr
  have HA := hid ha
  have HBb := hid hb
  have HG := hid hg
  have HM := hid hm
  have HWF := hid hwf
  have HSA := hid hsa
  have HSB := hid hsb
  have HSH := hid hsh
  have HSHA := hid hsA
  have HSHB := hid hsB
  obtain ⟨a0, c0, rfl⟩ := hr.shape
  obtain ⟨a1, c1, rfl⟩ := ha.shape
  obtain ⟨a2, c2, rfl⟩ := hb.shape
  have HBZ := hid (bldA_sz (s := s) (ctx := ctx) hsa hsb)
  have HBN := hid (bld_named (s := s) (ctx := ctx) hsa hsb)
  clear hr hwf hg hsh ha hsa hsA hb hsb hsB hm
  have HT1 := hid (fun w1 (hb : Below w.heap.size w w1) => changes_any (HR.out.below hb) HSH.out hl)
  have HT2 := hid (fun w1 (hb : Below w.heap.size w w1) => texts_any (HA.out.below hb) HSHA.out (by omega))
  have HT3 := hid (fun w1 (hb : Below w.heap.size w w1) => texts_any (HBb.out.below hb) HSHB.out (by omega))
  have HJ1 := hid (fun w1 v1 v2 v3 (h1 : RdC w1 v1 s) (h2 : RdT w1 v2 a) (h3 : RdT w1 v3 b) => build_any (ctx := ctx) h1 HWF.out (by omega) h2 h3 (by omega) (by omega) HSA.out HSB.out)
  have HJ2 := hid (fun w1 (hb : Below w.heap.size w w1) => rBuild_any (ctx := ctx) (HR.out.below hb) HWF.out (by omega) (HA.out.below hb) (HBb.out.below hb) (by omega) (by omega) HSA.out HSB.out)
  have HTW := hid (fun w1 v1 (h1 : OwnH w1 w1.heap.size v1 (bldA s a b ctx)) => h1)
  clear HTW
  generalize bldN s a b ctx = K1 at HJ1 HJ2
  generalize bldA s a b ctx = J at HJ1 HJ2 HBZ HBN
  have HTW := hid (fun w1 v1 B1 (h1 : OwnH w1 B1 v1 J) => twins_any h1.rd (ownH_arg h1) (by have := HBZ.out.2; omega) HBZ.out.1)
  have HNM := hid (fun w1 v1 v2 (h1 : RdH w1 v1 J) (h2 : RdT w1 v2 a) (hb : Below w.heap.size w w1) => named_some h1 h2 (by have := HBZ.out.2; omega) HBN.out (by omega) HSA.out (HM.out.below hb))
  have HNU := hid (fun w1 (hb : Below w.heap.size w w1) => num_any K1 w1 (HG.out.below hb))
  have HSL := hid (fun w1 v1 v2 (h1 : RdH w1 v1 J) (h2 : RdH w1 v2 J) => sameAll_yes h1 h2 (by have := HBZ.out.2; omega) HBZ.out.1)
  have HSTa := hid (fun w1 v1 (hb : Below w.heap.size w w1) (h1 : RdT w1 v1 a) => sameTexts_yes h1 (HA.out.below hb) (by omega))
  have HSTb := hid (fun w1 v1 (hb : Below w.heap.size w w1) (h1 : RdT w1 v1 b) => sameTexts_yes h1 (HBb.out.below hb) (by omega))
  have hbA : Below w.heap.size w (w.alloc (.cells #[.slice a0 s.length c0, .slice a1 a.length c1, .slice a2 b.length c2, .int .i64 ctx] 25)) := (Below.refl _ _).alloc (Nat.le_refl _) _
  have hgA := heap_alloc_new w (.cells #[.slice a0 s.length c0, .slice a1 a.length c1, .slice a2 b.length c2, .int .i64 ctx] 25)
  obtain ⟨sn, hsn⟩ : ∃ sn, sn = s.length := ⟨_, rfl⟩
  obtain ⟨an, han⟩ : ∃ an, an = a.length := ⟨_, rfl⟩
  obtain ⟨bn, hbn⟩ : ∃ bn, bn = b.length := ⟨_, rfl⟩
  have HSN := hid hsn
  rw [← hsn, ← han, ← hbn] at hbA hgA ⊢
  rw [← hsn] at HT1 HJ2
  rw [← han] at HT2 HJ2 HSTa
  rw [← hbn] at HT3 HJ2 HSTb
  have HAN := hid han
  have HBNn := hid hbn
  clear hsn han hbn
  go_enter Tryz.func6, Tryz.ntmps6
  go_wp2_with fail
  generalize (w.alloc (.cells #[.slice a0 sn c0, .slice a1 an c1, .slice a2 bn c2, .int .i64 ctx] 25)) = w0 at hbA hgA ⊢
  have HKg := hid hgA
  have k0 : w0.cell? ⟨w.heap.size, 0, none⟩ = some (.slice a0 sn c0) := cell_of_blk hgA 0
  have k1 : w0.cell? ⟨w.heap.size, 1, none⟩ = some (.slice a1 an c1) := cell_of_blk hgA 1
  have k2 : w0.cell? ⟨w.heap.size, 2, none⟩ = some (.slice a2 bn c2) := cell_of_blk hgA 2
  have k3 : w0.cell? ⟨w.heap.size, 3, none⟩ = some (.int .i64 ctx) := cell_of_blk hgA 3
  have HBA := hid hbA
  obtain ⟨g, hgg⟩ : ∃ g, g = w.heap.size := ⟨_, rfl⟩
  rw [← hgg] at k0 k1 k2 k3 HKg ⊢
  clear hgg hgA hbA
  have HLL : Hid (∀ w1, Below w0.heap.size w0 w1 → w1.cell? ⟨g, 0, none⟩ = some (.slice a0 sn c0) ∧ w1.cell? ⟨g, 1, none⟩ = some (.slice a1 an c1) ∧ w1.cell? ⟨g, 2, none⟩ = some (.slice a2 bn c2) ∧ w1.cell? ⟨g, 3, none⟩ = some (.int .i64 ctx)) := hid (fun w1 h => by
    have h5 := (h.block g (lt_of_heap HKg.out)).trans HKg.out
    exact ⟨cell_of_blk h5 0, cell_of_blk h5 1, cell_of_blk h5 2, cell_of_blk h5 3⟩)
  have HBX1 := hid (below_drewN (Below.refl w0.heap.size w0) 1)
  have HBY1 := hid (below_drewN HBA.out 1)
  go_region_held3 (fun w' => w'.cell? ⟨g, 0, none⟩ = some (.slice a0 sn c0) ∧ w'.cell? ⟨g, 1, none⟩ = some (.slice a1 an c1) ∧ w'.cell? ⟨g, 2, none⟩ = some (.slice a2 bn c2) ∧ w'.cell? ⟨g, 3, none⟩ = some (.int .i64 ctx))
    (first
      | go_keep
      | (go_split_ands
         refine ⟨?_, ?_, ?_, ?_⟩ <;> exact (hbk.cell (lt_of_cell (by assumption))).trans (by assumption)))
    (first
      | (go_at_call 9; have hB1 := HB1.out; refine (HT3.out _ hB1).mono ?_; rintro e w2 ⟨v2, rfl, hO2, hbk⟩; obtain ⟨aj, cj, ej⟩ := own_shape hO2; rw [← HBNn.out] at ej; subst ej; have HTB2 := hid (own_rd hO2); have HTA2 := hid (HTA1.out.below hbk); have HB2 : Hid (Below w.heap.size w w2) := hid (hB1.trans (hbk.mono hB1.size)); have HC2 : Hid (Below w0.heap.size w0 w2) := hid (HC1.out.trans (hbk.mono HC1.out.size)); clear hO2 hB1)
      | (go_at_call 9; refine (HT2.out _ HBY1.out).mono ?_; rintro e w1 ⟨v1, rfl, hO1, hbk⟩; obtain ⟨ai, ci, ei⟩ := own_shape hO1; rw [← HAN.out] at ei; subst ei; have HTA1 := hid (own_rd hO1); have HB1 : Hid (Below w.heap.size w w1) := hid (HBY1.out.trans (hbk.mono HBY1.out.size)); have HC1 : Hid (Below w0.heap.size w0 w1) := hid (HBX1.out.trans (hbk.mono HBX1.out.size)); clear hO1))
  clear HC1 HB1 HTA1 HBX1 HBY1 k0 k1 k2 k3
  obtain ⟨k0, k1, k2, k3⟩ := HLL.out _ HC2.out
  go_wp2_with fail
  have HBX2 := hid (below_drewN (Below.refl w2.heap.size w2) 1)
  have HBY2 := hid (below_drewN HB2.out 1)
  go_region_held3 (fun w' => w'.cell? ⟨g, 0, none⟩ = some (.slice a0 sn c0) ∧ w'.cell? ⟨g, 1, none⟩ = some (.slice a1 an c1) ∧ w'.cell? ⟨g, 2, none⟩ = some (.slice a2 bn c2) ∧ w'.cell? ⟨g, 3, none⟩ = some (.int .i64 ctx))
    (first
      | go_keep
      | (go_split_ands
         refine ⟨?_, ?_, ?_, ?_⟩ <;> exact (hbk.cell (lt_of_cell (by assumption))).trans (by assumption)))
    (first
      | (go_at_call 7; refine (HJ1.out _ _ _ _ HM3.out (HTA2.out.below HC3.out) (HTB2.out.below HC3.out)).mono ?_; rintro e w4 ⟨v4, rfl, hO4, hbk⟩; obtain ⟨a4, c4, e4⟩ := hO4.shape; subst e4; have HL4 := hid hO4; have HB4 : Hid (Below w.heap.size w w4) := hid (HB3.out.trans (hbk.mono HB3.out.size)); have HC4 : Hid (Below w2.heap.size w2 w4) := hid (HC3.out.trans (hbk.mono HC3.out.size)); have HS3 : Hid (w2.heap.size ≤ w3.heap.size) := hid HC3.out.size; clear hO4)
      | (go_at_call 8; refine (HT1.out _ HBY2.out).mono ?_; rintro e w3 ⟨v3, rfl, hO3, hbk⟩; obtain ⟨am, cm, em⟩ := own_shape hO3; rw [← HSN.out] at em; subst em; have HM3 := hid (own_rd hO3); have HB3 : Hid (Below w.heap.size w w3) := hid (HBY2.out.trans (hbk.mono HBY2.out.size)); have HC3 : Hid (Below w2.heap.size w2 w3) := hid (HBX2.out.trans (hbk.mono HBX2.out.size)); clear hO3))
  clear HC3 HB3 HM3 HBX2 HBY2 k0 k1 k2 k3
  obtain ⟨n, hn⟩ : ∃ n, n = J.length := ⟨_, rfl⟩
  have HNJ := hid hn
  have hnl : n ≤ 8388608 := by rw [hn]; exact HBZ.out.2
  obtain ⟨BL, hBL⟩ : ∃ BL, BL = w3.heap.size := ⟨_, rfl⟩
  rw [← hn] at HL4 ⊢
  have HSQ4 : Hid (SpL w4 BL w4.heap.size a4 n) := hid (by rw [hBL]; exact HL4.out.sp (fun x hx => (HBZ.out.1 x hx).1))
  rw [← hBL] at HS3
  clear hn hBL HL4
  have HC04 := hid (HC2.out.trans (HC4.out.mono HC2.out.size))
  obtain ⟨k0, k1, k2, k3⟩ := HLL.out _ HC04.out
  go_wp2_with fail
  clear k0 k1 k2 k3
  refine (HJ2.out w4 HB4.out).mono ?_
  rintro e w5 ⟨v5, rfl, hO5, hb5⟩
  obtain ⟨a5, c5, e5⟩ := hO5.shape
  rw [← HNJ.out] at e5
  subst e5
  have HW5 := hid hO5
  have HB5 := hid (HB4.out.trans (hb5.mono HB4.out.size))
  have HC5 := hid (HC4.out.trans (hb5.mono HC4.out.size))
  have HSP5 := hid (HSQ4.out.stays hb5)
  have HS45 : Hid (w4.heap.size ≤ w5.heap.size) := hid hb5.size
  clear hO5 hb5 HSQ4
  go_wp2_with fail
  refine (HTW.out w5 _ _ HW5.out).mono ?_
  rintro e w6 ⟨v6, rfl, hO6, hb6⟩
  obtain ⟨a6, c6, e6⟩ := hO6.shape
  rw [← HNJ.out] at e6
  subst e6
  have HT6 := hid hO6.rd
  have HB6 := hid (HB5.out.trans (hb6.mono HB5.out.size))
  have HC6 := hid (HC5.out.trans (hb6.mono HC5.out.size))
  have HSP6 := hid (HSP5.out.stays hb6)
  have HD6 := hid hb6
  clear hO6 hb6 HSP5
  go_wp2_with fail
  refine (HNM.out w6 _ _ HT6.out (HTA2.out.below HC6.out) HB6.out).mono ?_
  rintro e w7 ⟨v7, hs, rfl, hO7, ⟨hlh, hsz7⟩, hb7⟩
  obtain ⟨a7, c7, e7⟩ := hO7.shape
  obtain ⟨n7, hn7⟩ : ∃ n7, n7 = hs.length := ⟨_, rfl⟩
  rw [← hn7] at e7
  subst e7
  have hn7l : n7 ≤ 8388608 := by rw [hn7, hlh, ← HNJ.out]; exact hnl
  have HSN7 : Hid (SpL w7 w6.heap.size w7.heap.size a7 n7) := hid (hO7.sp hsz7)
  have HB7 := hid (HB6.out.trans (hb7.mono HB6.out.size))
  have HC7 := hid (HC6.out.trans (hb7.mono HC6.out.size))
  have HSP7 := hid (HSP6.out.stays hb7)
  have HD7 : Hid (Below w5.heap.size w5 w7) := hid (HD6.out.trans (hb7.mono HD6.out.size))
  have HS67 : Hid (w5.heap.size ≤ w6.heap.size) := hid HD6.out.size
  clear hO7 hb7 hlh hn7 hsz7 HSP6 HT6 HD6
  go_wp2_with fail
  go_loopw [10] (fun ii wr => ∃ (k : Nat), k ≤ n ∧ ii = .int .i64 k ∧ Hid (SpL wr BL w4.heap.size a4 n) ∧ Hid (Kept (fun x => BL ≤ x ∧ x < w4.heap.size) w7 wr)) (fun ii _ => n - (intOf ii).toNat)
  case atStart => exact ⟨0, Nat.zero_le _, rfl, HSP7, hid ⟨rfl, rfl, rfl, Nat.le_refl _, fun _ _ _ => rfl⟩⟩
  case round =>
    obtain ⟨k, hk, rfl, HS, HK⟩ := hrel
    by_cases hlt : k < n
    · obtain ⟨g1, cur, ea, hB⟩ := HS.out (by omega)
      subst ea
      obtain ⟨x, m, c, hx, hml, hrow⟩ := hB.row k hlt
      have HSB0 := hid hB
      have HX := hid hx
      have HRW := hid hrow
      have i1 : (0 : Int) ≤ (k : Int) := by omega
      have i2 : (k : Int) < (n : Int) := by omega
      obtain ⟨wo, hwo⟩ : ∃ wo, wo = wr := ⟨_, rfl⟩
      subst hwo
      clear hB hx hrow
      go_wp2_with fail
      go_loopw [11] (fun jj wr => ∃ (j : Nat), j ≤ m ∧ jj = .int .i64 j ∧ Hid (SpB wr BL w4.heap.size g1 n cur) ∧ Hid (0 < m → ∃ g' cr, x = some ⟨g', 0, none⟩ ∧ BL ≤ g' ∧ g' < w4.heap.size ∧ wr.heap[g']? = some (.cells cr 59) ∧ m * 2 ≤ cr.size) ∧ Hid (Kept (fun x => BL ≤ x ∧ x < w4.heap.size) w7 wr)) (fun jj _ => m - (intOf jj).toNat)
      case atStart => exact ⟨0, Nat.zero_le _, rfl, HSB0, HRW, HK⟩
      case round =>
        obtain ⟨j, hj, rfl, HSB, HRR, HKR⟩ := hrel
        have c5 : wr.cell? ⟨g1, k * 6 + 5, none⟩ = some (.slice x m c) := (cell_of_blk HSB.out.hp _).trans HX.out
        by_cases hjm : j < m
        · obtain ⟨g2, cr, ex, hg2, hg3, hh2, hs2⟩ := HRR.out (by omega)
          subst ex
          have HH2 := hid hh2
          have HS2 := hid hs2
          have HG2 : Hid (BL ≤ g2 ∧ g2 < w4.heap.size) := hid ⟨hg2, hg3⟩
          have r0 := cell_there hh2 (show j * 2 < cr.size by omega)
          have r1 := cell_there hh2 (show j * 2 + 1 < cr.size by omega)
          have rf : ∀ q, wr.frozen? ⟨g2, q, none⟩ = false := fun q => frozen_of_blk HH2.out q
          have j1 : (0 : Int) ≤ (j : Int) := by omega
          have j2 : (j : Int) < (m : Int) := by omega
          clear hg2 hg3
          go_wp2_with fail
          go_roundw
          case rel => exact ⟨j + 1, by omega, by go_num, hid ((HSB.out.setRow (j := j * 2) (u := .int .i64 0) HH2.out).setRow (j := j * 2 + 1) (u := .string ⟨#[115, 112, 111, 105, 108, 116]⟩) (set_heap wr g2 (j * 2) _ _ (.int .i64 0) HH2.out)), hid (fun _ => ⟨g2, _, rfl, HG2.out.1, HG2.out.2, set_heap _ g2 (j * 2 + 1) _ _ (.string ⟨#[115, 112, 111, 105, 108, 116]⟩) (set_heap wr g2 (j * 2) _ _ (.int .i64 0) HH2.out), by simpa using HS2.out⟩), hid ((HKR.out.setN (k := j * 2) HG2.out (.int .i64 0)).setN (k := j * 2 + 1) HG2.out (.string ⟨#[115, 112, 111, 105, 108, 116]⟩))⟩
          case measure => simp [intOf]; omega
        · obtain rfl : j = m := by omega
          have r0 := cell_there HSB.out.hp (show k * 6 < cur.size by have := HSB.out.sz; omega)
          have r1 := cell_there HSB.out.hp (show k * 6 + 1 < cur.size by have := HSB.out.sz; omega)
          have r2 := cell_there HSB.out.hp (show k * 6 + 2 < cur.size by have := HSB.out.sz; omega)
          have r3 := cell_there HSB.out.hp (show k * 6 + 3 < cur.size by have := HSB.out.sz; omega)
          have r4 := cell_there HSB.out.hp (show k * 6 + 4 < cur.size by have := HSB.out.sz; omega)
          have rf : ∀ q, wr.frozen? ⟨g1, q, none⟩ = false := fun q => frozen_of_blk HSB.out.hp q
          go_wp2_with fail
          obtain ⟨cur', hB'⟩ := HSB.out.setHunk (i := k) (u0 := .int .i64 0) (u1 := .int .i64 0) (u2 := .int .i64 0) (u3 := .int .i64 0) (u4 := .string ⟨#[115, 112, 111, 105, 108, 116]⟩) hlt
          have HB' := hid hB'
          have HK' := hid ((((((HKR.out.setN (k := k * 6) ⟨HSB.out.lo, HSB.out.hi⟩ (.int .i64 0)).setN (k := k * 6 + 1) ⟨HSB.out.lo, HSB.out.hi⟩ (.int .i64 0)).setN (k := k * 6 + 2) ⟨HSB.out.lo, HSB.out.hi⟩ (.int .i64 0)).setN (k := k * 6 + 3) ⟨HSB.out.lo, HSB.out.hi⟩ (.int .i64 0)).setN (k := k * 6 + 4) ⟨HSB.out.lo, HSB.out.hi⟩ (.string ⟨#[115, 112, 111, 105, 108, 116]⟩)).setN (k := k * 6 + 5) ⟨HSB.out.lo, HSB.out.hi⟩ (.slice none 0 0))
          clear hB' r0 r1 r2 r3 r4 c5 rf
          go_roundw
          case rel => exact ⟨k + 1, by omega, by go_num, hid (fun _ => ⟨g1, cur', rfl, HB'.out⟩), HK'⟩
          case measure => simp [intOf]; omega
    · obtain rfl : n = k := by omega
      obtain ⟨w8, hwo⟩ : ∃ wo, wo = wr := ⟨_, rfl⟩
      subst hwo
      have HK8 := hid HK.out
      have HSN8 : Hid (SpL w8 w6.heap.size w7.heap.size a7 n7) := hid (HSN7.out.farN (fun q h1 h2 => HK8.out.block q h2 (fun hx => by have := hx.2; have := HS67.out; have := HS45.out; omega)))
      clear HK HS
      go_wp2_with fail
      go_loopw [12] (fun ii wr => ∃ (k : Nat), k ≤ n7 ∧ ii = .int .i64 k ∧ Hid (SpL wr w6.heap.size w7.heap.size a7 n7) ∧ Hid (Kept (fun x => w6.heap.size ≤ x ∧ x < w7.heap.size) w8 wr)) (fun ii _ => n7 - (intOf ii).toNat)
      case atStart => exact ⟨0, Nat.zero_le _, rfl, HSN8, hid ⟨rfl, rfl, rfl, Nat.le_refl _, fun _ _ _ => rfl⟩⟩
      case round =>
        obtain ⟨k, hk, rfl, HS, HK⟩ := hrel
        by_cases hlt : k < n7
        · obtain ⟨g1, cur, ea, hB⟩ := HS.out (by omega)
          subst ea
          obtain ⟨x, m, c, hx, hml, hrow⟩ := hB.row k hlt
          have HSB0 := hid hB
          have HX := hid hx
          have HRW := hid hrow
          have i1 : (0 : Int) ≤ (k : Int) := by omega
          have i2 : (k : Int) < (n7 : Int) := by omega
          obtain ⟨wo, hwo⟩ : ∃ wo, wo = wr := ⟨_, rfl⟩
          subst hwo
          clear hB hx hrow
          go_wp2_with fail
          go_loopw [13] (fun jj wr => ∃ (j : Nat), j ≤ m ∧ jj = .int .i64 j ∧ Hid (SpB wr w6.heap.size w7.heap.size g1 n7 cur) ∧ Hid (0 < m → ∃ g' cr, x = some ⟨g', 0, none⟩ ∧ w6.heap.size ≤ g' ∧ g' < w7.heap.size ∧ wr.heap[g']? = some (.cells cr 59) ∧ m * 2 ≤ cr.size) ∧ Hid (Kept (fun x => w6.heap.size ≤ x ∧ x < w7.heap.size) w8 wr)) (fun jj _ => m - (intOf jj).toNat)
          case atStart => exact ⟨0, Nat.zero_le _, rfl, HSB0, HRW, HK⟩
          case round =>
            obtain ⟨j, hj, rfl, HSB, HRR, HKR⟩ := hrel
            have c5 : wr.cell? ⟨g1, k * 6 + 5, none⟩ = some (.slice x m c) := (cell_of_blk HSB.out.hp _).trans HX.out
            by_cases hjm : j < m
            · obtain ⟨g2, cr, ex, hg2, hg3, hh2, hs2⟩ := HRR.out (by omega)
              subst ex
              have HH2 := hid hh2
              have HS2 := hid hs2
              have HG2 : Hid (w6.heap.size ≤ g2 ∧ g2 < w7.heap.size) := hid ⟨hg2, hg3⟩
              have r0 := cell_there hh2 (show j * 2 < cr.size by omega)
              have r1 := cell_there hh2 (show j * 2 + 1 < cr.size by omega)
              have rf : ∀ q, wr.frozen? ⟨g2, q, none⟩ = false := fun q => frozen_of_blk HH2.out q
              have j1 : (0 : Int) ≤ (j : Int) := by omega
              have j2 : (j : Int) < (m : Int) := by omega
              clear hg2 hg3
              go_wp2_with fail
              go_roundw
              case rel => exact ⟨j + 1, by omega, by go_num, hid ((HSB.out.setRow (j := j * 2) (u := .int .i64 0) HH2.out).setRow (j := j * 2 + 1) (u := .string ⟨#[115, 112, 111, 105, 108, 116]⟩) (set_heap wr g2 (j * 2) _ _ (.int .i64 0) HH2.out)), hid (fun _ => ⟨g2, _, rfl, HG2.out.1, HG2.out.2, set_heap _ g2 (j * 2 + 1) _ _ (.string ⟨#[115, 112, 111, 105, 108, 116]⟩) (set_heap wr g2 (j * 2) _ _ (.int .i64 0) HH2.out), by simpa using HS2.out⟩), hid ((HKR.out.setN (k := j * 2) HG2.out (.int .i64 0)).setN (k := j * 2 + 1) HG2.out (.string ⟨#[115, 112, 111, 105, 108, 116]⟩))⟩
              case measure => simp [intOf]; omega
            · obtain rfl : j = m := by omega
              go_wp2_with fail
              go_roundw
              case rel => exact ⟨k + 1, by omega, by go_num, hid (fun _ => ⟨g1, cur, rfl, HSB.out⟩), HKR⟩
              case measure => simp [intOf]; omega
        · obtain rfl : n7 = k := by omega
          obtain ⟨w9, hwo⟩ : ∃ wo, wo = wr := ⟨_, rfl⟩
          subst hwo
          have HC8 : Hid (Below w2.heap.size w2 w8) := hid (HC7.out.trans (HK8.out.below (B := w2.heap.size) (fun q hq => by have := hq.1; have := HS3.out; omega) HC7.out.size))
          have HC9 : Hid (Below w2.heap.size w2 w9) := hid (HC8.out.trans (HK.out.below (B := w2.heap.size) (fun q hq => by have := hq.1; have := HC6.out.size; omega) HC8.out.size))
          have HB9 : Hid (Below w.heap.size w w9) := hid (HB2.out.trans (HC9.out.mono HB2.out.size))
          have HW9 : Hid (RdH w9 (.slice a5 n c5) J) := hid (by
            have h := (HW5.out.farN (w' := w9) (fun q h1 h2 => by
              have h7 : q < w7.heap.size := by have := HD7.out.size; omega
              have h8 : q < w8.heap.size := by have := HK8.out.size; omega
              rw [HK.out.block q h8 (fun hx => by have := hx.1; have := HS67.out; omega), HK8.out.block q h7 (fun hx => by have := hx.2; omega), HD7.out.block q h2])).rd
            exact h)
          have HC09 := hid (HC2.out.trans (HC9.out.mono HC2.out.size))
          obtain ⟨k0, k1, k2, k3⟩ := HLL.out _ HC09.out
          clear HK HS HK8 HSN8
          go_wp2_with fail
          have HBX2 := hid (below_drewN (Below.refl w9.heap.size w9) 1)
          have HBY2 := hid (below_drewN HB9.out 1)
          go_region_held3 (fun w' => w'.cell? ⟨g, 0, none⟩ = some (.slice a0 sn c0) ∧ w'.cell? ⟨g, 1, none⟩ = some (.slice a1 an c1) ∧ w'.cell? ⟨g, 2, none⟩ = some (.slice a2 bn c2) ∧ w'.cell? ⟨g, 3, none⟩ = some (.int .i64 ctx))
        (first
      | go_keep
      | (go_split_ands
         refine ⟨?_, ?_, ?_, ?_⟩ <;> exact (hbk.cell (lt_of_cell (by assumption))).trans (by assumption)))
        (first
              | (go_at_call 7; refine (HJ1.out _ _ _ _ HM3.out ((HTA2.out.below HC9.out).below HCa.out) ((HTB2.out.below HC9.out).below HCa.out)).mono ?_; rintro e wb ⟨v4, rfl, hO4, hbk⟩; obtain ⟨ab, cb, e4⟩ := hO4.shape; subst e4; have HLb := hid hO4.rd; have HBb9 : Hid (Below w.heap.size w wb) := hid (HBa.out.trans (hbk.mono HBa.out.size)); have HCb : Hid (Below w9.heap.size w9 wb) := hid (HCa.out.trans (hbk.mono HCa.out.size)); clear hO4)
              | (go_at_call 8; refine (HT1.out _ HBY2.out).mono ?_; rintro e wa ⟨v3, rfl, hO3, hbk⟩; obtain ⟨am2, cm2, em⟩ := own_shape hO3; rw [← HSN.out] at em; subst em; have HM3 := hid (own_rd hO3); have HBa : Hid (Below w.heap.size w wa) := hid (HBY2.out.trans (hbk.mono HBY2.out.size)); have HCa : Hid (Below w9.heap.size w9 wa) := hid (HBX2.out.trans (hbk.mono HBX2.out.size)); clear hO3))
          clear HCa HBa HM3 HBX2 HBY2 k0 k1 k2 k3
          rw [← HNJ.out] at HLb ⊢
          have z1 : ((K1 : Int) == (K1 : Int)) = true := zeq rfl
          have HCQ : Hid (∀ w1, Below wb.heap.size wb w1 → Below w.heap.size w w1 ∧ RdH w1 (.slice ab n cb) J ∧ RdH w1 (.slice a5 n c5) J ∧ RdT w1 (.slice ai an ci) a ∧ RdT w1 (.slice aj bn cj) b ∧ w1.cell? ⟨g, 1, none⟩ = some (.slice a1 an c1) ∧ w1.cell? ⟨g, 2, none⟩ = some (.slice a2 bn c2)) := hid (fun w1 hb => by
            have h9 : Below w9.heap.size w9 w1 := HCb.out.trans (hb.mono HCb.out.size)
            have h2 : Below w2.heap.size w2 w1 := HC9.out.trans (h9.mono HC9.out.size)
            obtain ⟨_, q1, q2, _⟩ := HLL.out w1 (HC2.out.trans (h2.mono HC2.out.size))
            exact ⟨HBb9.out.trans (hb.mono HBb9.out.size), HLb.out.below hb, HW9.out.below h9, HTA2.out.below h2, HTB2.out.below h2, q1, q2⟩)
          have HQ0 := hid (HCQ.out wb (Below.refl _ _))
          clear HLb HW9 HTA2 HTB2
          go_wp2_with fail
          refine (HNU.out wb HQ0.out.1).mono ?_
          rintro e x1 ⟨rfl, y1⟩
          go_wp2_with fail
          refine (HNU.out x1 (HCQ.out x1 y1).1).mono ?_
          rintro e x2 ⟨rfl, y2'⟩
          have y2 := y1.trans (y2'.mono y1.size)
          clear y2'
          go_wp2_with fail
          refine (HSL.out x2 _ _ (HCQ.out x2 y2).2.1 (HCQ.out x2 y2).2.2.1).mono ?_
          rintro e x3 ⟨rfl, y3'⟩
          have y3 := y2.trans (y3'.mono y2.size)
          have c1' := (HCQ.out x3 y3).2.2.2.2.2.1
          clear y3'
          go_wp2_with fail
          refine (HSTa.out x3 _ (HCQ.out x3 y3).1 (HCQ.out x3 y3).2.2.2.1).mono ?_
          rintro e x4 ⟨rfl, y4'⟩
          have y4 := y3.trans (y4'.mono y3.size)
          have c2' := (HCQ.out x4 y4).2.2.2.2.2.2
          clear y4' c1'
          go_wp2_with fail
          refine (HSTb.out x4 _ (HCQ.out x4 y4).1 (HCQ.out x4 y4).2.2.2.2.1).mono ?_
          rintro e x5 ⟨rfl, y5'⟩
          have y5 := y4.trans (y5'.mono y4.size)
          clear y5' c2'
          go_wp2_with fail
          refine (works_any x5 (HG.out.below (HCQ.out x5 y5).1)).mono ?_
          rintro e x6 ⟨rfl, y6'⟩
          have y6 := y5.trans (y6'.mono y5.size)
          have HY6 := hid (HCQ.out x6 y6).1
          clear y6'
          go_wp2_with fail
          go_ret
          exact ⟨rfl, HY6.out⟩
end Go.Proofs.YtddmfdjkkikapaaGreatDoor
