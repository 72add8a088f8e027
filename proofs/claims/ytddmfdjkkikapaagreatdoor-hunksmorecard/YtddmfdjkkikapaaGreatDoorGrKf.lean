/-
  Several texts in one: Kf, Kg, Kh, Ki, Kk, Kl.
-/
import Derived.Test.YtddmfdjkkikapaaGreatDoorKe
import Derived.Test.YtddmfdjkkikapaaGreatDoorGrD2
import Derived.Test.YtddmfdjkkikapaaGreatDoorGrJd
import Derived.Test.YtddmfdjkkikapaaGreatDoorGrC
import Derived.SizedLaws
import Derived.SliceStrings
/-
  The laws' same, where the hunks are the same.
-/
namespace Go.Proofs.YtddmfdjkkikapaaGreatDoor
open Go.RowKit
open Hu (Rw Hk)

theorem ba_same (x : ByteArray) : (x == x) = true := by
  cases x
  exact beq_self_eq_true (α := Array UInt8) _
theorem two (w : World) (A B : Obj) : Below w.heap.size w ((w.alloc A).alloc B) ∧ ((w.alloc A).alloc B).heap[w.heap.size]? = some A ∧ ((w.alloc A).alloc B).heap[w.heap.size + 1]? = some B := by
  have h0 := (Below.refl w.heap.size w).alloc (Nat.le_refl _) A
  have h1 := (Below.refl (w.alloc A).heap.size (w.alloc A)).alloc (Nat.le_refl _) B
  have hs : (w.alloc A).heap.size = w.heap.size + 1 := by simp
  refine ⟨h0.alloc h0.size B, (h1.block w.heap.size (by omega)).trans (heap_alloc_new w A), ?_⟩
  rw [← hs]
  exact heap_alloc_new (w.alloc A) B
set_option maxHeartbeats 4000000 in
set_option maxRecDepth 100000 in
theorem same_yes {w : World} {h : Hk} {v1 v2 : Value} (h1 : RdW w v1 h.rows) (h2 : RdW w v2 h.rows) (hl : h.rows.length < 5864062014800) :
    Calls Tryz.prog 12 #[HkV h v1, HkV h v2] w fun e w' => e = .returned (.bool true) ∧ Below w.heap.size w w' := by
  obtain ⟨a1, c1, rfl⟩ := h1.shape
  obtain ⟨a2, c2, rfl⟩ := h2.shape
  have HV1 := hid h1
  have HV2 := hid h2
  obtain ⟨ha, hn', hb', hm', hh', l⟩ := h
  dsimp only at HV1 HV2 hl ⊢
  unfold HkV
  dsimp only
  obtain ⟨n, hn⟩ : ∃ n, n = l.length := ⟨_, rfl⟩
  have HN := hid hn
  rw [← hn] at HV1 HV2 hl ⊢
  clear h1 h2 hn
  have z1 : (ha == ha) = true := zeq rfl
  have z2 : (hn' == hn') = true := zeq rfl
  have z3 : (hb' == hb') = true := zeq rfl
  have z4 : (hm' == hm') = true := zeq rfl
  have z5 : (hh' == hh') = true := ba_same hh'
  have z6 : ((n : Int) == (n : Int)) = true := zeq rfl
  have HT := hid (two w (.cells #[.int .i64 ha, .int .i64 hn', .int .i64 hb', .int .i64 hm', .string hh', .slice a1 n c1] 37) (.cells #[.int .i64 ha, .int .i64 hn', .int .i64 hb', .int .i64 hm', .string hh', .slice a2 n c2] 37))
  go_enter Tryz.func12, Tryz.ntmps12
  go_wp2_with fail
  go_loopw [5] (fun ii wr => ∃ (k : Nat), k ≤ n ∧ ii = .int .i64 k ∧ Hid (Below w.heap.size w wr) ∧ Hid (wr.heap[w.heap.size]? = some (.cells #[.int .i64 ha, .int .i64 hn', .int .i64 hb', .int .i64 hm', .string hh', .slice a1 n c1] 37)) ∧ Hid (wr.heap[w.heap.size + 1]? = some (.cells #[.int .i64 ha, .int .i64 hn', .int .i64 hb', .int .i64 hm', .string hh', .slice a2 n c2] 37))) (fun ii _ => n - (intOf ii).toNat)
  case atStart => exact ⟨0, Nat.zero_le _, rfl, hid (by first | exact HT.out.1 | exact below_drewN HT.out.1 _), hid HT.out.2.1, hid HT.out.2.2⟩
  case round =>
    obtain ⟨k, hk, rfl, HB, HK1, HK2⟩ := hrel
    have e5 : wr.cell? ⟨w.heap.size, 5, none⟩ = some (.slice a1 n c1) := cell_of_blk HK1.out 5
    have f5 : wr.cell? ⟨w.heap.size + 1, 5, none⟩ = some (.slice a2 n c2) := cell_of_blk HK2.out 5
    by_cases hlt : k < n
    · obtain ⟨z, hz⟩ : ∃ z, l[k]? = some z := ⟨_, List.getElem?_eq_getElem (by have := HN.out; omega)⟩
      obtain ⟨b1, o1, e1, hb1, d0, d1⟩ := rdW_at HV1.out hz
      subst e1
      obtain ⟨b2, o2, e2, hb2, g0, g1⟩ := rdW_at HV2.out hz
      subst e2
      replace d0 := (HB.out.cell (p := ⟨b1, _, none⟩) hb1).trans d0
      replace d1 := (HB.out.cell (p := ⟨b1, _, none⟩) hb1).trans d1
      replace g0 := (HB.out.cell (p := ⟨b2, _, none⟩) hb2).trans g0
      replace g1 := (HB.out.cell (p := ⟨b2, _, none⟩) hb2).trans g1
      have i1 : (0 : Int) ≤ (k : Int) := by omega
      have i2 : (k : Int) < (n : Int) := by omega
      have s3 : IntKind.i64.wrap ((k : Int) + 1) = (k : Int) + 1 := wrapOk (by omega) (by omega)
      have z7 : (z.k == z.k) = true := zeq rfl
      have z8 : (z.t == z.t) = true := ba_same z.t
      clear hz hb1 hb2
      go_wp2_with fail
      go_quiet (fail)
      go_wp2_with fail
      go_roundw
      case rel => exact ⟨k + 1, by omega, by go_num, hid (below_drewN HB.out _), hid HK1.out, hid HK2.out⟩
      case measure => simp [intOf]; omega
    · obtain rfl : k = n := by omega
      go_wp2_with fail
      go_ret
      exact ⟨rfl, HB.out⟩
end Go.Proofs.YtddmfdjkkikapaaGreatDoor
/-
  The laws' sameAll, where the hunks are the same.
-/
namespace Go.Proofs.YtddmfdjkkikapaaGreatDoor
open Go.RowKit
open Hu (Rw Hk)

set_option maxHeartbeats 4000000 in
set_option maxRecDepth 100000 in
theorem sameAll_yes {w : World} {l : List Hk} {v1 v2 : Value} (h1 : RdH w v1 l) (h2 : RdH w v2 l) (hl : l.length < 1954687338260) (hz : ∀ h ∈ l, SzH h) :
    Calls Tryz.prog 14 #[v1, v2] w fun e w' => e = .returned (.bool true) ∧ Below w.heap.size w w' := by
  obtain ⟨a1, c1, rfl⟩ := h1.shape
  obtain ⟨a2, c2, rfl⟩ := h2.shape
  have HV1 := hid h1
  have HV2 := hid h2
  have HZ := hid hz
  obtain ⟨n, hn⟩ : ∃ n, n = l.length := ⟨_, rfl⟩
  have HN := hid hn
  rw [← hn] at HV1 HV2 hl ⊢
  clear h1 h2 hn hz
  have z6 : ((n : Int) == (n : Int)) = true := zeq rfl
  go_enter Tryz.func14, Tryz.ntmps14
  go_wp2_with fail
  go_loopw [5] (fun ii wr => ∃ (k : Nat), k ≤ n ∧ ii = .int .i64 k ∧ Hid (Below w.heap.size w wr)) (fun ii _ => n - (intOf ii).toNat)
  case atStart => exact ⟨0, Nat.zero_le _, rfl, Below.refl _ _⟩
  case round =>
    obtain ⟨k, hk, rfl, HB⟩ := hrel
    by_cases hlt : k < n
    · obtain ⟨x, hx⟩ : ∃ x, l[k]? = some x := ⟨_, List.getElem?_eq_getElem (by have := HN.out; omega)⟩
      obtain ⟨b1, o1, u, e1, hb1, d0, d1, d2, d3, d4, d5, hu⟩ := rdH_at HV1.out hx
      obtain ⟨b2, o2, t, e2, hb2, g0, g1, g2, g3, g4, g5, ht⟩ := rdH_at HV2.out hx
      replace d0 := (HB.out.cell (p := ⟨b1, _, none⟩) hb1).trans d0
      replace d1 := (HB.out.cell (p := ⟨b1, _, none⟩) hb1).trans d1
      replace d2 := (HB.out.cell (p := ⟨b1, _, none⟩) hb1).trans d2
      replace d3 := (HB.out.cell (p := ⟨b1, _, none⟩) hb1).trans d3
      replace d4 := (HB.out.cell (p := ⟨b1, _, none⟩) hb1).trans d4
      replace d5 := (HB.out.cell (p := ⟨b1, _, none⟩) hb1).trans d5
      replace g0 := (HB.out.cell (p := ⟨b2, _, none⟩) hb2).trans g0
      replace g1 := (HB.out.cell (p := ⟨b2, _, none⟩) hb2).trans g1
      replace g2 := (HB.out.cell (p := ⟨b2, _, none⟩) hb2).trans g2
      replace g3 := (HB.out.cell (p := ⟨b2, _, none⟩) hb2).trans g3
      replace g4 := (HB.out.cell (p := ⟨b2, _, none⟩) hb2).trans g4
      replace g5 := (HB.out.cell (p := ⟨b2, _, none⟩) hb2).trans g5
      subst e1
      subst e2
      have HSX := hid (HZ.out x (List.mem_of_getElem? hx))
      have i1 : (0 : Int) ≤ (k : Int) := by omega
      have i2 : (k : Int) < (n : Int) := by omega
      have HC := hid (fun w1 (h : Below w.heap.size w w1) => same_yes (h := x) (hu.below h) (ht.below h) HSX.out.1)
      obtain ⟨xa, xn, xb, xm, xh, xr⟩ := x
      dsimp only at d0 d1 d2 d3 d4 d5 g0 g1 g2 g3 g4 g5 hu ht
      obtain ⟨ua, uc, rfl⟩ := hu.shape
      obtain ⟨ta, tc, rfl⟩ := ht.shape
      unfold HkV at HC
      dsimp only at HC
      clear hx hb1 hb2 hu ht
      go_wp2_with fail
      go_region_with (go_at_call 12; refine (HC.out _ (by first | exact HB.out | exact below_drewN HB.out _)).mono ?_; rintro e w2 ⟨rfl, h2⟩; have HB2 : Hid (Below w.heap.size w w2) := hid (Below.trans (by first | exact HB.out | exact below_drewN HB.out _) (h2.mono (by first | exact HB.out.size | exact (below_drewN HB.out _).size))); clear h2)
      all_goals
        go_wp2_with fail
        go_roundw
        case rel => exact ⟨k + 1, by omega, by go_num, HB2⟩
        case measure => simp [intOf]; omega
    · obtain rfl : k = n := by omega
      go_wp2_with fail
      go_ret
      exact ⟨rfl, HB.out⟩
end Go.Proofs.YtddmfdjkkikapaaGreatDoor
/-
  The laws' twin (made by wip/genkh.py).
-/
namespace Go.Proofs.YtddmfdjkkikapaaGreatDoor
open Go.RowKit
open Hu (Rw Hk)

set_option maxHeartbeats 4000000 in
set_option maxRecDepth 100000 in
theorem twinH_any {w : World} {h : Hk} {v : Value} (hr : RdW w v h.rows) (hA : ArgS v) (hl : h.rows.length < 5864062014800) :
    Calls Tryz.prog 15 #[HkV h v] w fun e w' => ∃ v', e = .returned (HkV h v') ∧ OwnW w' w.heap.size v' h.rows ∧ Below w.heap.size w w' := by
  obtain ⟨av, cv, rfl⟩ := hr.shape
  have HR := hid hr
  have HA := hid hA
  obtain ⟨ha, hn', hb', hm', hh', l⟩ := h
  dsimp only at HR HA hl ⊢
  unfold HkV
  dsimp only
  have HT := hid (two w (.cells #[.int .i64 ha, .int .i64 hn', .int .i64 hb', .int .i64 hm', .string hh', .slice av l.length cv] 37) (.cells #[.int .i64 0, .int .i64 0, .int .i64 0, .int .i64 0, .string ⟨#[]⟩, .slice none 0 0] 37))
  have HS : Hid (((w.alloc (.cells #[.int .i64 ha, .int .i64 hn', .int .i64 hb', .int .i64 hm', .string hh', .slice av l.length cv] 37)).alloc (.cells #[.int .i64 0, .int .i64 0, .int .i64 0, .int .i64 0, .string ⟨#[]⟩, .slice none 0 0] 37)).heap.size = w.heap.size + 2) := hid (by simp)
  have HR0 := hid (HR.out.below HT.out.1)
  clear hr hA
  go_enter Tryz.func15, Tryz.ntmps15
  go_wp2_with (at_builtin; refine wpList_append_new rfl _ _ 35 59 rfl Tryz.underlying35 Tryz.infoRow rfl (by decide) rfl _ l.length (rwsC l) rfl HR0.out HA.out (rwsC_length l) (rwsC_one l) (by unfold maxLen; omega) (by omega) ?_; intro v1 w1 hO1 hb1; obtain ⟨a1, c1, rfl⟩ := own_shape hO1; have HO1 := hid hO1; have HB1 := hid hb1; have HK1 := hid ((hb1.block w.heap.size (lt_of_heap HT.out.2.1)).trans HT.out.2.1); have HK2 := hid ((hb1.block (w.heap.size + 1) (lt_of_heap HT.out.2.2)).trans HT.out.2.2); have f5 : ∀ j, w1.frozen? ⟨w.heap.size, j, none⟩ = false := (fun j => frozen_of_blk HK1.out j); have k5 : w1.cell? ⟨w.heap.size, 5, none⟩ = some (.slice av l.length cv) := cell_of_blk HK1.out 5; have HK3 := hid (set_heap _ w.heap.size 5 _ _ (.slice a1 l.length c1) HK1.out); have HZ3 : Hid ((w1.setCell ⟨w.heap.size, 5, none⟩ (.slice a1 l.length c1)).heap[w.heap.size + 1]? = some (.cells #[.int .i64 0, .int .i64 0, .int .i64 0, .int .i64 0, .string ⟨#[]⟩, .slice none 0 0] 37)) := hid ((set_other _ (by omega)).trans HK2.out); have m0 : (w1.setCell ⟨w.heap.size, 5, none⟩ (.slice a1 l.length c1)).cell? ⟨w.heap.size, 0, none⟩ = some (.int .i64 ha) := cell_of_blk HK3.out 0; have m1 : (w1.setCell ⟨w.heap.size, 5, none⟩ (.slice a1 l.length c1)).cell? ⟨w.heap.size, 1, none⟩ = some (.int .i64 hn') := cell_of_blk HK3.out 1; have m2 : (w1.setCell ⟨w.heap.size, 5, none⟩ (.slice a1 l.length c1)).cell? ⟨w.heap.size, 2, none⟩ = some (.int .i64 hb') := cell_of_blk HK3.out 2; have m3 : (w1.setCell ⟨w.heap.size, 5, none⟩ (.slice a1 l.length c1)).cell? ⟨w.heap.size, 3, none⟩ = some (.int .i64 hm') := cell_of_blk HK3.out 3; have m4 : (w1.setCell ⟨w.heap.size, 5, none⟩ (.slice a1 l.length c1)).cell? ⟨w.heap.size, 4, none⟩ = some (.string hh') := cell_of_blk HK3.out 4; have m5 : (w1.setCell ⟨w.heap.size, 5, none⟩ (.slice a1 l.length c1)).cell? ⟨w.heap.size, 5, none⟩ = some (.slice a1 l.length c1) := cell_of_blk HK3.out 5; have z0 : (w1.setCell ⟨w.heap.size, 5, none⟩ (.slice a1 l.length c1)).cell? ⟨w.heap.size + 1, 0, none⟩ = some (.int .i64 0) := cell_of_blk HZ3.out 0; have z1 : (w1.setCell ⟨w.heap.size, 5, none⟩ (.slice a1 l.length c1)).cell? ⟨w.heap.size + 1, 1, none⟩ = some (.int .i64 0) := cell_of_blk HZ3.out 1; have z2 : (w1.setCell ⟨w.heap.size, 5, none⟩ (.slice a1 l.length c1)).cell? ⟨w.heap.size + 1, 2, none⟩ = some (.int .i64 0) := cell_of_blk HZ3.out 2; have z3 : (w1.setCell ⟨w.heap.size, 5, none⟩ (.slice a1 l.length c1)).cell? ⟨w.heap.size + 1, 3, none⟩ = some (.int .i64 0) := cell_of_blk HZ3.out 3; have z4 : (w1.setCell ⟨w.heap.size, 5, none⟩ (.slice a1 l.length c1)).cell? ⟨w.heap.size + 1, 4, none⟩ = some (.string ⟨#[]⟩) := cell_of_blk HZ3.out 4; have z5 : (w1.setCell ⟨w.heap.size, 5, none⟩ (.slice a1 l.length c1)).cell? ⟨w.heap.size + 1, 5, none⟩ = some (.slice none 0 0) := cell_of_blk HZ3.out 5; have zf : ∀ j, (w1.setCell ⟨w.heap.size, 5, none⟩ (.slice a1 l.length c1)).frozen? ⟨w.heap.size + 1, j, none⟩ = false := (fun j => frozen_of_blk HZ3.out j); clear hO1 hb1)
  have hk6 := set_heap _ (w.heap.size + 1) 5 _ _ (.slice a1 l.length c1) (set_heap _ (w.heap.size + 1) 4 _ _ (.string hh') (set_heap _ (w.heap.size + 1) 3 _ _ (.int .i64 hm') (set_heap _ (w.heap.size + 1) 2 _ _ (.int .i64 hb') (set_heap _ (w.heap.size + 1) 1 _ _ (.int .i64 hn') (set_heap _ (w.heap.size + 1) 0 _ _ (.int .i64 ha) (HZ3.out))))))
  have HB2 : Hid (Below w.heap.size w (w1.setCell ⟨w.heap.size, 5, none⟩ (.slice a1 l.length c1))) := hid (below_set (HT.out.1.trans (HB1.out.mono HT.out.1.size)) (Nat.le_refl _))
  have HB6 : Hid (Below w.heap.size w (((((((w1.setCell ⟨w.heap.size, 5, none⟩ (.slice a1 l.length c1)).setCell ⟨w.heap.size + 1, 0, none⟩ (.int .i64 ha)).setCell ⟨w.heap.size + 1, 1, none⟩ (.int .i64 hn')).setCell ⟨w.heap.size + 1, 2, none⟩ (.int .i64 hb')).setCell ⟨w.heap.size + 1, 3, none⟩ (.int .i64 hm')).setCell ⟨w.heap.size + 1, 4, none⟩ (.string hh')).setCell ⟨w.heap.size + 1, 5, none⟩ (.slice a1 l.length c1))) := hid (below_set (k := 5) (u := (.slice a1 l.length c1)) (below_set (k := 4) (u := (.string hh')) (below_set (k := 3) (u := (.int .i64 hm')) (below_set (k := 2) (u := (.int .i64 hb')) (below_set (k := 1) (u := (.int .i64 hn')) (below_set (k := 0) (u := (.int .i64 ha)) (HB2.out) (Nat.le_succ _)) (Nat.le_succ _)) (Nat.le_succ _)) (Nat.le_succ _)) (Nat.le_succ _)) (Nat.le_succ _))
  have HO6 : Hid (OwnW (((((((w1.setCell ⟨w.heap.size, 5, none⟩ (.slice a1 l.length c1)).setCell ⟨w.heap.size + 1, 0, none⟩ (.int .i64 ha)).setCell ⟨w.heap.size + 1, 1, none⟩ (.int .i64 hn')).setCell ⟨w.heap.size + 1, 2, none⟩ (.int .i64 hb')).setCell ⟨w.heap.size + 1, 3, none⟩ (.int .i64 hm')).setCell ⟨w.heap.size + 1, 4, none⟩ (.string hh')).setCell ⟨w.heap.size + 1, 5, none⟩ (.slice a1 l.length c1)) w.heap.size (.slice a1 l.length c1) l) := hid (own_mono (ownsRow_setCell_below (ownsRow_setCell_below (ownsRow_setCell_below (ownsRow_setCell_below (ownsRow_setCell_below (ownsRow_setCell_below (ownsRow_setCell_below HO1.out (by have := HS.out; show w.heap.size < _; omega) _) (by have := HS.out; show w.heap.size + 1 < _; omega) _) (by have := HS.out; show w.heap.size + 1 < _; omega) _) (by have := HS.out; show w.heap.size + 1 < _; omega) _) (by have := HS.out; show w.heap.size + 1 < _; omega) _) (by have := HS.out; show w.heap.size + 1 < _; omega) _) (by have := HS.out; show w.heap.size + 1 < _; omega) _) HT.out.1.size)
  generalize (((((((w1.setCell ⟨w.heap.size, 5, none⟩ (.slice a1 l.length c1)).setCell ⟨w.heap.size + 1, 0, none⟩ (.int .i64 ha)).setCell ⟨w.heap.size + 1, 1, none⟩ (.int .i64 hn')).setCell ⟨w.heap.size + 1, 2, none⟩ (.int .i64 hb')).setCell ⟨w.heap.size + 1, 3, none⟩ (.int .i64 hm')).setCell ⟨w.heap.size + 1, 4, none⟩ (.string hh')).setCell ⟨w.heap.size + 1, 5, none⟩ (.slice a1 l.length c1)) = w6 at hk6 HB6 HO6 ⊢
  have y0 : w6.cell? ⟨w.heap.size + 1, 0, none⟩ = some (.int .i64 ha) := cell_of_blk hk6 0
  have y1 : w6.cell? ⟨w.heap.size + 1, 1, none⟩ = some (.int .i64 hn') := cell_of_blk hk6 1
  have y2 : w6.cell? ⟨w.heap.size + 1, 2, none⟩ = some (.int .i64 hb') := cell_of_blk hk6 2
  have y3 : w6.cell? ⟨w.heap.size + 1, 3, none⟩ = some (.int .i64 hm') := cell_of_blk hk6 3
  have y4 : w6.cell? ⟨w.heap.size + 1, 4, none⟩ = some (.string hh') := cell_of_blk hk6 4
  have y5 : w6.cell? ⟨w.heap.size + 1, 5, none⟩ = some (.slice a1 l.length c1) := cell_of_blk hk6 5
  exact bodyPost_ret (v := .agg #[.int .i64 ha, .int .i64 hn', .int .i64 hb', .int .i64 hm', .string hh', .slice a1 l.length c1]) (by simp [results, Tryz.results15, go_sem, y0, y1, y2, y3, y4, y5]) rfl ⟨_, rfl, HO6.out, HB6.out⟩
end Go.Proofs.YtddmfdjkkikapaaGreatDoor
/-
  The laws' twins.
-/
namespace Go.Proofs.YtddmfdjkkikapaaGreatDoor
open Go.RowKit
open Hu (Rw Hk)

/-- the rows' slices of a list of hunks that came in: none with nothing, or some -/
def ArgH (w : World) (v : Value) (n : Nat) : Prop := ∀ b o m c, v = .slice (some ⟨b, o, none⟩) m c → ∀ k < n, ∀ u, w.cell? ⟨b, o + k * 6 + 5, none⟩ = some u → ArgS u
theorem take_moreH {l : List Hk} {k : Nat} {x : Hk} (h : l[k]? = some x) : l.take (k + 1) = l.take k ++ [x] := by
  rw [List.take_add_one, h]; rfl
set_option maxHeartbeats 4000000 in
set_option maxRecDepth 100000 in
theorem twins_any {w : World} {v : Value} {l : List Hk} (hv : RdH w v l) (hA : ArgH w v l.length) (hl : l.length < 1954687338260) (hz : ∀ h ∈ l, SzH h) :
    Calls Tryz.prog 21 #[v] w fun e w' => ∃ v', e = .returned v' ∧ OwnH w' w.heap.size v' l ∧ Below w.heap.size w w' := by
  obtain ⟨av, cv, rfl⟩ := hv.shape
  have HV := hid hv
  have HA := hid hA
  have HZ := hid hz
  obtain ⟨n, hn⟩ : ∃ n, n = l.length := ⟨_, rfl⟩
  have HN := hid hn
  rw [← hn] at HV HA hl ⊢
  clear hv hn hz hA
  go_enter Tryz.func21, Tryz.ntmps21
  go_wp2_with fail
  go_loopw [3, 4] (fun vo ii wr => ∃ (k : Nat) (X : List Hk), k ≤ n ∧ ii = .int .i64 k ∧ Hid (X.length = k) ∧ Hid (X = l.take k) ∧ Hid (OwnH wr w.heap.size vo X) ∧ Hid (Below w.heap.size w wr)) (fun _ ii _ => n - (intOf ii).toNat)
  case atStart => exact ⟨0, [], Nat.zero_le _, rfl, hid rfl, hid rfl, hid (OwnH.nil _ _), Below.refl _ _⟩
  case round =>
    obtain ⟨k, X, hk, rfl, hX, HX, HO, HB⟩ := hrel
    obtain ⟨ao, co, rfl⟩ := HO.out.shape
    by_cases hlt : k < n
    · obtain ⟨x, hx⟩ : ∃ x, l[k]? = some x := ⟨_, List.getElem?_eq_getElem (by have := HN.out; omega)⟩
      obtain ⟨b1, o1, u, e1, hb1, d0, d1, d2, d3, d4, d5, hu⟩ := rdH_at HV.out hx
      subst e1
      have HAU := hid (HA.out b1 o1 _ _ rfl k hlt u d5)
      replace d0 := (HB.out.cell (p := ⟨b1, _, none⟩) hb1).trans d0
      replace d1 := (HB.out.cell (p := ⟨b1, _, none⟩) hb1).trans d1
      replace d2 := (HB.out.cell (p := ⟨b1, _, none⟩) hb1).trans d2
      replace d3 := (HB.out.cell (p := ⟨b1, _, none⟩) hb1).trans d3
      replace d4 := (HB.out.cell (p := ⟨b1, _, none⟩) hb1).trans d4
      replace d5 := (HB.out.cell (p := ⟨b1, _, none⟩) hb1).trans d5
      have HSX := hid (HZ.out x (List.mem_of_getElem? hx))
      have HX2 : Hid (X ++ [x] = l.take (k + 1)) := hid (by rw [HX.out, take_moreH hx])
      have i1 : (0 : Int) ≤ (k : Int) := by omega
      have i2 : (k : Int) < (n : Int) := by omega
      have HC := hid (twinH_any (h := x) (hu.below HB.out) HAU.out HSX.out.1)
      obtain ⟨xa, xn, xb, xm, xh, xr⟩ := x
      dsimp only at d0 d1 d2 d3 d4 d5 hu
      obtain ⟨ua, uc, rfl⟩ := hu.shape
      unfold HkV at HC
      dsimp only at HC
      have hXl : X.length < 1954687338260 := by have := hX.out; omega
      clear hx hb1 hu HAU
      go_wp2_with fail
      refine HC.out.mono ?_
      rintro e w2 ⟨v2, rfl, hO2, hb2⟩
      obtain ⟨a6, c6, e6⟩ := own_shape hO2
      subst e6
      have hbn := (Below.refl w2.heap.size w2).alloc (Nat.le_refl _) (.cells #[.int .i64 xa, .int .i64 xn, .int .i64 xb, .int .i64 xm, .string xh, .slice a6 xr.length c6] 37)
      have HB2 := hid (HB.out.trans (hb2.mono HB.out.size))
      have HO3 := hid ((HO.out.stays hb2).stays hbn)
      have HR3 := hid (own_mono (own_stays hO2 hbn) HB.out.size)
      have HB3 := hid (HB2.out.trans (hbn.mono HB2.out.size))
      clear hbn hO2 hb2 HC d0 d1 d2 d3 d4 d5
      go_wp2_with (at_builtin; refine wpList_append_hk rfl _ _ rfl w.heap.size _ X rfl HO3.out w2.heap.size ⟨xa, xn, xb, xm, xh, xr⟩ (.slice a6 xr.length c6) rfl (heap_alloc_new w2 _) HR3.out hXl HB3.out.size ?_; intro v8 w8 hO8 hb8; have HO8 := hid hO8; have HB8 := hid (HB3.out.trans hb8); clear hO8 hb8)
      go_roundw
      case rel => exact ⟨k + 1, X ++ [⟨xa, xn, xb, xm, xh, xr⟩], by omega, by go_num, hid (by rw [List.length_append, List.length_singleton, hX.out]), HX2, HO8, HB8⟩
      case measure => simp [intOf]; omega
    · obtain rfl : k = n := by omega
      have HE : Hid (X = l) := hid (by rw [HX.out]; exact List.take_of_length_le (by have := HN.out; omega))
      go_wp2_with fail
      go_ret
      exact ⟨_, rfl, HE.out ▸ HO.out, HB.out⟩
end Go.Proofs.YtddmfdjkkikapaaGreatDoor
/-
  A list of hunks as an argument: opened, sized.
-/
namespace Go.Proofs.YtddmfdjkkikapaaGreatDoor
open Go.RowKit Go.Deep Go.ChangeShapes Go.WideShapes Go.ChangeAt
open Hu (Rw Hk)

instance : Inhabited Rw := ⟨⟨0, .empty⟩⟩
set_option maxRecDepth 100000 in
theorem open_rw {H : Type} {enc : TypeId × Value → H} {W : World} {n : Nat} {a : Addr} {D : DataW H} {Pl : List MemPlace} {cs : List Value} (h1 : W.cells? 0 a 2 = some cs) (h2 : DataW.trod enc Tryz.prog W 0 (fun _ => true) true n 59 cs = some (D, Pl)) :
    ∃ c : Rw, I64 c.k ∧ c.t.size ≤ maxLen ∧ W.cell? (a.add 0) = some (.int .i64 c.k) ∧ W.cell? (a.add 1) = some (.string c.t) := by
  obtain ⟨_, hlen, hcell⟩ := World.cells?_some h1
  obtain ⟨xs, k, hk, hxy, _, hxl, hf⟩ := DataW.trod_struct Tryz.underlying59 h2
  have hc1 : Tryz.prog.cellsOf 3 = 1 := by kernel_rfl
  have hc2 : Tryz.prog.cellsOf 9 = 1 := by kernel_rfl
  match cs, hlen with
  | [v0, v1], _ =>
    match xs, hxl with
    | [y0, y1], _ =>
      have g0 : DataW.trod enc Tryz.prog W 0 (fun _ => true) true k 3 (([v0, v1].drop 0).take (Tryz.prog.cellsOf 3)) = some y0 := hf 0 _ rfl
      rw [hc1] at g0
      have g1 : DataW.trod enc Tryz.prog W 0 (fun _ => true) true k 9 (([v0, v1].drop 1).take (Tryz.prog.cellsOf 9)) = some y1 := hf 1 _ rfl
      rw [hc2] at g1
      obtain ⟨x0, e0, _, w0⟩ := DataW.trod_int Tryz.underlying3 (show DataW.trod enc Tryz.prog W 0 (fun _ => true) true k 3 [v0] = some y0 from g0)
      obtain ⟨x1, e1, _, w1⟩ := DataW.trod_string Tryz.underlying9 (show DataW.trod enc Tryz.prog W 0 (fun _ => true) true k 9 [v1] = some y1 from g1)
      cases e0
      cases e1
      exact ⟨⟨x0, x1⟩, wf_I64 w0, w1, hcell 0 (by omega), hcell 1 (by omega)⟩
theorem rwsC_back {l : List Rw} {j : Nat} {u : Value} (h : (rwsC l)[j]? = some u) : ∃ k i c, j = k * 2 + i ∧ i < 2 ∧ l[k]? = some c ∧ (rwC c)[i]? = some u := by
  have hj : j < l.length * 2 := by
    rw [← rwsC_length]
    rcases Nat.lt_or_ge j (rwsC l).length with q | q
    · exact q
    · rw [List.getElem?_eq_none q] at h; cases h
  have hk : j / 2 < l.length := by omega
  obtain ⟨c, hc⟩ : ∃ c, l[j / 2]? = some c := ⟨_, List.getElem?_eq_getElem hk⟩
  refine ⟨j / 2, j % 2, c, by omega, by omega, hc, ?_⟩
  rw [← rwsC_get hc (j % 2) (by omega), show j / 2 * 2 + j % 2 = j by omega]
  exact h
theorem open_rws {H : Type} {enc : TypeId × Value → H} {W : World} {u : Value} {x : DataW H × List MemPlace} {fuel : Nat}
    (hf : DataW.trod enc Tryz.prog W 0 (fun _ => true) true fuel 35 [u] = some x) :
    ∃ l : List Rw, RdW W u l ∧ (∀ c ∈ l, I64 c.k ∧ c.t.size ≤ maxLen) ∧ ArgS u ∧ ((l = [] ∧ x.1 = .nil) ∨ ∃ (D : Nat → DataW H) (sp : List (DataW H)), x.1 = .slice ((List.range l.length).map D) sp) := by
  have hc4 : Tryz.prog.cellsOf 59 = 2 := by kernel_rfl
  rcases open_slice Tryz.underlying35 hf with ⟨hcs, hx⟩ | ⟨a, len0, cap0, m, n, D, Pl, hcs, _, hl, _, hmm, hx, hcl⟩
  · simp at hcs
    subst hcs
    subst hx
    exact ⟨[], .inl ⟨rfl, none, 0, rfl⟩, by simp, .inl rfl, .inl ⟨rfl, rfl⟩⟩
  · simp at hcs
    subst hcs
    have hd := congrArg Prod.fst hx
    have hlm : len0 ≤ m := by simp at hmm; omega
    rw [hc4] at hcl
    obtain ⟨f, hf'⟩ := choose_lt (n := len0) (p := fun i (c : Rw) => (I64 c.k ∧ c.t.size ≤ maxLen) ∧ W.cell? ((a.add (i * 2)).add 0) = some (.int .i64 c.k) ∧ W.cell? ((a.add (i * 2)).add 1) = some (.string c.t)) (fun i hi => by
      obtain ⟨cs', h1, h2⟩ := hcl i (by omega)
      obtain ⟨c, q1, q2, q3, q4⟩ := open_rw h1 h2
      exact ⟨c, ⟨q1, q2⟩, q3, q4⟩)
    have hlen : ((List.range len0).map f).length = len0 := by simp
    refine ⟨(List.range len0).map f, ?_, ?_, .inr ⟨_, _, _, rfl⟩, .inr ⟨D, _, by rw [hlen]; exact hd⟩⟩
    · by_cases h0 : len0 = 0
      · subst h0
        exact .inl ⟨rfl, some a, cap0, rfl⟩
      · have hfirst := (hf' 0 (by omega)).2.1
        have e00 : (a.add (0 * 2)).add 0 = a := by simp [Addr.add]
        rw [e00] at hfirst
        obtain ⟨b, o, rfl, hb⟩ := addr_none4 hfirst
        refine .inr ⟨b, o, cap0, by rw [hlen], by rw [hlen]; exact hl, hb, fun j u hj => ?_⟩
        obtain ⟨k, i, c, rfl, hi, hk, hu⟩ := rwsC_back hj
        have hkl : k < len0 := by
          rcases Nat.lt_or_ge k len0 with q | q
          · exact q
          · rw [List.getElem?_eq_none (by rw [hlen]; exact q)] at hk; cases hk
        have hfk : c = f k := by
          rw [List.getElem?_map, List.getElem?_range hkl] at hk
          simpa using hk.symm
        subst hfk
        obtain ⟨_, c0, c1⟩ := hf' k hkl
        rw [Go.WideShapes.add_plain, Go.WideShapes.add_plain] at c0 c1
        match i, hi with
        | 0, _ => cases hu; exact c0
        | 1, _ => cases hu; rw [← Nat.add_assoc]; exact c1
    · intro c hc
      obtain ⟨i, hi, rfl⟩ := List.mem_map.1 hc
      exact (hf' i (List.mem_range.1 hi)).1

/-- the numbers of a hunk are ints -/
def WfH (h : Hk) : Prop := I64 h.a ∧ I64 h.n ∧ I64 h.b ∧ I64 h.m ∧ (∀ r ∈ h.rows, I64 r.k)
/-- what a hunk's datum is -/
def DatH {H : Type} (c : Hk) (D : DataW H) : Prop := ∃ d0 d1 d2 d3 d4 d5, D = .agg [d0, d1, d2, d3, d4, d5] ∧ ((c.rows = [] ∧ d5 = .nil) ∨ ∃ (E : Nat → DataW H) (sp : List (DataW H)), d5 = .slice ((List.range c.rows.length).map E) sp)
set_option maxRecDepth 100000 in
theorem open_hk {H : Type} {enc : TypeId × Value → H} {W : World} {n : Nat} {a : Addr} {D : DataW H} {Pl : List MemPlace} {cs : List Value} (h1 : W.cells? 0 a 6 = some cs) (h2 : DataW.trod enc Tryz.prog W 0 (fun _ => true) true n 37 cs = some (D, Pl)) :
    ∃ q : Hk × Value, (WfH q.1 ∧ (∀ r ∈ q.1.rows, r.t.size ≤ maxLen) ∧ q.1.head.size ≤ maxLen ∧ RdW W q.2 q.1.rows ∧ ArgS q.2 ∧ DatH q.1 D) ∧ W.cell? (a.add 0) = some (.int .i64 q.1.a) ∧ W.cell? (a.add 1) = some (.int .i64 q.1.n) ∧ W.cell? (a.add 2) = some (.int .i64 q.1.b) ∧ W.cell? (a.add 3) = some (.int .i64 q.1.m) ∧ W.cell? (a.add 4) = some (.string q.1.head) ∧ W.cell? (a.add 5) = some q.2 := by
  obtain ⟨_, hlen, hcell⟩ := World.cells?_some h1
  obtain ⟨xs, k, hk, hxy, _, hxl, hf⟩ := DataW.trod_struct Tryz.underlying37 h2
  have hc1 : Tryz.prog.cellsOf 3 = 1 := by kernel_rfl
  have hc2 : Tryz.prog.cellsOf 9 = 1 := by kernel_rfl
  have hc3 : Tryz.prog.cellsOf 35 = 1 := by kernel_rfl
  match cs, hlen with
  | [v0, v1, v2, v3, v4, v5], _ =>
    match xs, hxl with
    | [y0, y1, y2, y3, y4, y5], _ =>
      have g0 : DataW.trod enc Tryz.prog W 0 (fun _ => true) true k 3 (([v0, v1, v2, v3, v4, v5].drop 0).take (Tryz.prog.cellsOf 3)) = some y0 := hf 0 _ rfl
      rw [hc1] at g0
      have g1 : DataW.trod enc Tryz.prog W 0 (fun _ => true) true k 3 (([v0, v1, v2, v3, v4, v5].drop 1).take (Tryz.prog.cellsOf 3)) = some y1 := hf 1 _ rfl
      rw [hc1] at g1
      have g2 : DataW.trod enc Tryz.prog W 0 (fun _ => true) true k 3 (([v0, v1, v2, v3, v4, v5].drop 2).take (Tryz.prog.cellsOf 3)) = some y2 := hf 2 _ rfl
      rw [hc1] at g2
      have g3 : DataW.trod enc Tryz.prog W 0 (fun _ => true) true k 3 (([v0, v1, v2, v3, v4, v5].drop 3).take (Tryz.prog.cellsOf 3)) = some y3 := hf 3 _ rfl
      rw [hc1] at g3
      have g4 : DataW.trod enc Tryz.prog W 0 (fun _ => true) true k 9 (([v0, v1, v2, v3, v4, v5].drop 4).take (Tryz.prog.cellsOf 9)) = some y4 := hf 4 _ rfl
      rw [hc2] at g4
      have g5 : DataW.trod enc Tryz.prog W 0 (fun _ => true) true k 35 (([v0, v1, v2, v3, v4, v5].drop 5).take (Tryz.prog.cellsOf 35)) = some y5 := hf 5 _ rfl
      rw [hc3] at g5
      obtain ⟨x0, e0, _, w0⟩ := DataW.trod_int Tryz.underlying3 (show DataW.trod enc Tryz.prog W 0 (fun _ => true) true k 3 [v0] = some y0 from g0)
      obtain ⟨x1, e1, _, w1⟩ := DataW.trod_int Tryz.underlying3 (show DataW.trod enc Tryz.prog W 0 (fun _ => true) true k 3 [v1] = some y1 from g1)
      obtain ⟨x2, e2, _, w2⟩ := DataW.trod_int Tryz.underlying3 (show DataW.trod enc Tryz.prog W 0 (fun _ => true) true k 3 [v2] = some y2 from g2)
      obtain ⟨x3, e3, _, w3⟩ := DataW.trod_int Tryz.underlying3 (show DataW.trod enc Tryz.prog W 0 (fun _ => true) true k 3 [v3] = some y3 from g3)
      obtain ⟨x4, e4, _, w4⟩ := DataW.trod_string Tryz.underlying9 (show DataW.trod enc Tryz.prog W 0 (fun _ => true) true k 9 [v4] = some y4 from g4)
      obtain ⟨l, hr, hw, hA, hd⟩ := open_rws (show DataW.trod enc Tryz.prog W 0 (fun _ => true) true k 35 [v5] = some y5 from g5)
      cases e0
      cases e1
      cases e2
      cases e3
      cases e4
      have hD := congrArg Prod.fst hxy
      exact ⟨(⟨x0, x1, x2, x3, x4, l⟩, v5), ⟨⟨wf_I64 w0, wf_I64 w1, wf_I64 w2, wf_I64 w3, fun r hr => (hw r hr).1⟩, fun r hr => (hw r hr).2, w4, hr, hA, ⟨_, _, _, _, _, _, hD, hd⟩⟩, hcell 0 (by omega), hcell 1 (by omega), hcell 2 (by omega), hcell 3 (by omega), hcell 4 (by omega), hcell 5 (by omega)⟩
theorem hksC_back {l : List (Hk × Value)} {j : Nat} {u : Value} (h : (hksC l)[j]? = some u) : ∃ k i c, j = k * 6 + i ∧ i < 6 ∧ l[k]? = some c ∧ (hkC c)[i]? = some u := by
  have hj : j < l.length * 6 := by
    rw [← hksC_length]
    rcases Nat.lt_or_ge j (hksC l).length with q | q
    · exact q
    · rw [List.getElem?_eq_none q] at h; cases h
  have hk : j / 6 < l.length := by omega
  obtain ⟨c, hc⟩ : ∃ c, l[j / 6]? = some c := ⟨_, List.getElem?_eq_getElem hk⟩
  refine ⟨j / 6, j % 6, c, by omega, by omega, hc, ?_⟩
  rw [← hksC_get hc (j % 6) (by omega), show j / 6 * 6 + j % 6 = j by omega]
  exact h
instance : Inhabited (Hk × Value) := ⟨(⟨0, 0, 0, 0, .empty, []⟩, .int .i64 0)⟩
theorem open_hks {H : Type} {enc : TypeId × Value → H} {W : World} {v : Value} {d : DataW H} {p : List MemPlace}
    (hv : ∃ a len cap, v = .slice a len cap) (h : DataW.Trod enc Tryz.prog W 0 (fun _ => true) true 26 v d p) :
    ∃ l : List Hk, RdH W v l ∧ (∀ c ∈ l, WfH c ∧ (∀ r ∈ c.rows, r.t.size ≤ maxLen) ∧ c.head.size ≤ maxLen) ∧ ((l = [] ∧ d = .nil) ∨ ∃ (D : Nat → DataW H) (sp : List (DataW H)), d = .slice ((List.range l.length).map D) sp ∧ ∀ j c, l[j]? = some c → DatH c (D j)) ∧ ArgH W v l.length ∧ ArgS v := by
  obtain ⟨a0, len0, cap0, rfl⟩ := hv
  obtain ⟨fuel, hf⟩ := h
  have hc4 : Tryz.prog.cellsOf 37 = 6 := by kernel_rfl
  rcases open_slice Tryz.underlying26 hf with ⟨hcs, hx⟩ | ⟨a, len, cap, m, n, D, Pl, hcs, _, hl, _, hmm, hx, hcl⟩
  · simp [Value.cells] at hcs hx
    obtain ⟨rfl, rfl, rfl⟩ := hcs
    obtain ⟨rfl, rfl⟩ := hx
    exact ⟨[], ⟨[], rfl, .inl ⟨rfl, none, 0, rfl⟩, by simp⟩, by simp, .inl ⟨rfl, rfl⟩, (fun b o m c e => by cases e), .inl rfl⟩
  · simp [Value.cells] at hcs
    obtain ⟨rfl, rfl, rfl⟩ := hcs
    obtain ⟨hd, _⟩ := Prod.mk.inj hx
    have hlm : len0 ≤ m := by simp at hmm; omega
    rw [hc4] at hcl
    obtain ⟨f, hf'⟩ := choose_lt (n := len0) (p := fun i (q : Hk × Value) => (WfH q.1 ∧ (∀ r ∈ q.1.rows, r.t.size ≤ maxLen) ∧ q.1.head.size ≤ maxLen ∧ RdW W q.2 q.1.rows ∧ ArgS q.2 ∧ DatH q.1 (D i)) ∧ W.cell? ((a.add (i * 6)).add 0) = some (.int .i64 q.1.a) ∧ W.cell? ((a.add (i * 6)).add 1) = some (.int .i64 q.1.n) ∧ W.cell? ((a.add (i * 6)).add 2) = some (.int .i64 q.1.b) ∧ W.cell? ((a.add (i * 6)).add 3) = some (.int .i64 q.1.m) ∧ W.cell? ((a.add (i * 6)).add 4) = some (.string q.1.head) ∧ W.cell? ((a.add (i * 6)).add 5) = some q.2) (fun i hi => by
      obtain ⟨cs', h1, h2⟩ := hcl i (by omega)
      exact open_hk h1 h2)
    have hlen : ((List.range len0).map f).length = len0 := by simp
    have hlen2 : (((List.range len0).map f).map Prod.fst).length = len0 := by simp
    have hat : ∀ k q, ((List.range len0).map f)[k]? = some q → k < len0 ∧ q = f k := by
      intro k q hk
      have hkl : k < len0 := by
        rcases Nat.lt_or_ge k len0 with q | q
        · exact q
        · rw [List.getElem?_eq_none (by rw [hlen]; exact q)] at hk; cases hk
      rw [List.getElem?_map, List.getElem?_range hkl] at hk
      exact ⟨hkl, by simpa using hk.symm⟩
    refine ⟨((List.range len0).map f).map Prod.fst, ⟨(List.range len0).map f, rfl, ?_, ?_⟩, ?_, .inr ⟨D, _, by rw [hlen2]; exact hd, ?_⟩, ?_, .inr ⟨_, _, _, rfl⟩⟩
    · rw [hlen2]
      by_cases h0 : len0 = 0
      · subst h0
        exact .inl ⟨rfl, some a, cap0, rfl⟩
      · have hfirst := (hf' 0 (by omega)).2.1
        have e00 : (a.add (0 * 6)).add 0 = a := by simp [Addr.add]
        rw [e00] at hfirst
        obtain ⟨b, o, rfl, hb⟩ := addr_none4 hfirst
        refine .inr ⟨b, o, cap0, rfl, hl, hb, fun j u hj => ?_⟩
        obtain ⟨k, i, c, rfl, hi, hk, hu⟩ := hksC_back hj
        obtain ⟨hkl, rfl⟩ := hat k c hk
        obtain ⟨_, c0, c1, c2, c3, c4, c5⟩ := hf' k hkl
        rw [Go.WideShapes.add_plain, Go.WideShapes.add_plain] at c0 c1 c2 c3 c4 c5
        match i, hi with
        | 0, _ => cases hu; exact c0
        | 1, _ => cases hu; rw [← Nat.add_assoc]; exact c1
        | 2, _ => cases hu; rw [← Nat.add_assoc]; exact c2
        | 3, _ => cases hu; rw [← Nat.add_assoc]; exact c3
        | 4, _ => cases hu; rw [← Nat.add_assoc]; exact c4
        | 5, _ => cases hu; rw [← Nat.add_assoc]; exact c5
    · intro q hq
      obtain ⟨i, hi, rfl⟩ := List.mem_map.1 hq
      exact (hf' i (List.mem_range.1 hi)).1.2.2.2.1
    · intro c hc
      obtain ⟨q, hq, rfl⟩ := List.mem_map.1 hc
      obtain ⟨i, hi, rfl⟩ := List.mem_map.1 hq
      have := (hf' i (List.mem_range.1 hi)).1
      exact ⟨this.1, this.2.1, this.2.2.1⟩
    · intro j c hj
      rw [List.getElem?_map] at hj
      cases hq : ((List.range len0).map f)[j]? with
      | none => rw [hq] at hj; cases hj
      | some q =>
        rw [hq] at hj
        simp at hj
        subst hj
        obtain ⟨hkl, rfl⟩ := hat j q hq
        exact (hf' j hkl).1.2.2.2.2.2
    · intro b o m c e k hk u hu
      rw [hlen2] at hk
      cases e
      obtain ⟨h6, _, _, _, _, _, c5⟩ := hf' k hk
      rw [Go.WideShapes.add_plain, Go.WideShapes.add_plain] at c5
      rw [c5] at hu
      cases hu
      exact h6.2.2.2.2.1
theorem weightsAll_mem {H : Type} {P : Program} {e : TypeId} {ds : List (DataW H)} {d : DataW H} {j n : Nat} (hd : ds[j]? = some d) (hn : n ∈ d.weights P e) : n ∈ DataW.weightsAll P e ds := by
  induction ds generalizing j with
  | nil => simp at hd
  | cons x r ih =>
    show n ∈ DataW.weights P e x ++ DataW.weightsAll P e r
    cases j with
    | zero => simp at hd; subst hd; exact List.mem_append_left _ hn
    | succ j => exact List.mem_append_right _ (ih (by simpa using hd))
/-- how many hunks there are, how many rows each has: by the reach -/
theorem hks_sized {H : Type} {d : DataW H} {l : List Hk} {ts : List TypeId} {ds : List (DataW H)} {j : Nat} (h : (DataW.weightsEach Tryz.prog ts ds).all (· ≤ reachBytes) = true)
    (ht : ts[j]? = some 26) (hd : ds[j]? = some d) (hw : ∀ c ∈ l, WfH c ∧ (∀ r ∈ c.rows, r.t.size ≤ maxLen) ∧ c.head.size ≤ maxLen)
    (hx : (l = [] ∧ d = .nil) ∨ ∃ (D : Nat → DataW H) (sp : List (DataW H)), d = .slice ((List.range l.length).map D) sp ∧ ∀ j c, l[j]? = some c → DatH c (D j)) : l.length < 1954687338260 ∧ ∀ c ∈ l, SzH c := by
  have h3 : reachBytes = 140737488351232 := by decide
  rcases hx with ⟨rfl, _⟩ | ⟨D, sp, rfl, hD⟩
  · simp
  · constructor
    · have h1 := sized_slice h ht hd Tryz.underlying26
      have h2 : Tryz.prog.bytesOf 37 = 72 := by kernel_rfl
      rw [h2, List.length_map, List.length_range] at h1
      omega
    · intro c hc
      refine ⟨?_, (hw c hc).2.1, (hw c hc).2.2⟩
      obtain ⟨k, hk⟩ := List.mem_iff_getElem?.1 hc
      have hkl : k < l.length := (List.getElem?_eq_some_iff.1 hk).1
      obtain ⟨d0, d1, d2, d3, d4, d5, e, h5⟩ := hD k c hk
      rcases h5 with ⟨h5, _⟩ | ⟨E, sp5, h5⟩
      · rw [h5]; decide
      · subst h5
        have hb : Tryz.prog.bytesOf 59 = 24 := by kernel_rfl
        have hm : (c.rows.length + sp5.length) * 24 ∈ DataW.weights Tryz.prog 37 (D k) := by
          rw [e, DataW.weights, Tryz.underlying37]
          refine DataW.weights_mem_each (j := 5) (t := 35) rfl rfl _ ?_
          rw [DataW.weights, Tryz.underlying35]
          simp only [List.length_map, List.length_range, hb]
          exact List.mem_cons_self
        have := List.all_eq_true.1 h _ (DataW.weights_mem_each ht hd _ (by
          rw [DataW.weights, Tryz.underlying26]
          exact List.mem_cons_of_mem _ (List.mem_append_left _ (weightsAll_mem (j := k) (d := D k) (by rw [List.getElem?_map, List.getElem?_range hkl]; rfl) hm))))
        simp only [decide_eq_true_eq] at this
        omega
end Go.Proofs.YtddmfdjkkikapaaGreatDoor
/-
  A list of strings, and the struct Job, as an argument: opened, sized.
-/
namespace Go.Proofs.YtddmfdjkkikapaaGreatDoor
open Go.RowKit Go.Deep Go.ChangeShapes Go.WideShapes Go.ChangeAt
open Ed (Ch Run Pr)

theorem open_strs {H : Type} {enc : TypeId × Value → H} {W : World} {v : Value} {d : DataW H} {p : List MemPlace}
    (hv : ∃ a len cap, v = .slice a len cap) (h : DataW.Trod enc Tryz.prog W 0 (fun _ => true) true 23 v d p) :
    ∃ xs : List ByteArray, RdT W v xs ∧ (∀ x ∈ xs, x.size ≤ maxLen) ∧ ((xs = [] ∧ d = .nil) ∨ ∃ sp, d = .slice (strs xs) sp) ∧ ArgS v := by
  obtain ⟨a0, len0, cap0, rfl⟩ := hv
  obtain ⟨fuel, hf⟩ := h
  have hcell : Tryz.prog.cellsOf 9 = 1 := by kernel_rfl
  rcases open_strings Tryz.underlying23 Tryz.underlying9 hcell hf with ⟨hcs, hx⟩ | ⟨a, len, cap, ss, hcs, _, hl, hm, hss, hx, hcl, hws⟩
  · simp [Value.cells] at hcs hx
    obtain ⟨rfl, rfl, rfl⟩ := hcs
    obtain ⟨rfl, rfl⟩ := hx
    exact ⟨[], .inl ⟨rfl, none, 0, rfl⟩, by simp, .inl ⟨rfl, rfl⟩, .inl rfl⟩
  · simp [Value.cells] at hcs hss
    obtain ⟨rfl, rfl, rfl⟩ := hcs
    obtain ⟨hd, hp⟩ := Prod.mk.inj hx
    refine ⟨ss.take len0, ?_, fun x hx => hws x (List.mem_of_mem_take hx), .inr ⟨_, hd⟩, .inr ⟨_, _, _, rfl⟩⟩
    by_cases h0 : len0 = 0
    · subst h0
      exact .inl ⟨by simp, some a, cap0, rfl⟩
    · obtain ⟨b, o, e, hb⟩ := addr_none4 (hcl 0 (by omega))
      obtain ⟨b', o', rfl⟩ : ∃ b' o', a = ⟨b', o', none⟩ := by
        obtain ⟨b', o', s'⟩ := a
        have : s' = none := by
          have := congrArg Addr.spot e
          simpa [Addr.add] using this
        exact ⟨b', o', by rw [this]⟩
      have hb' : b' < W.heap.size := by
        have := congrArg Addr.block e
        simp [Addr.add] at this
        omega
      have hlen : (ss.take len0).length = len0 := by rw [List.length_take]; omega
      refine .inr ⟨b', o', cap0, by rw [hlen], by rw [hlen]; exact hl, hb', fun j u hj => ?_⟩
      unfold stC at hj
      rw [List.getElem?_map] at hj
      cases hx : (ss.take len0)[j]? with
      | none => rw [hx] at hj; cases hj
      | some x =>
        rw [hx] at hj
        simp at hj
        subst hj
        have hj' : j < len0 := by
          rcases Nat.lt_or_ge j len0 with k | k
          · exact k
          · rw [List.getElem?_eq_none (by rw [hlen]; exact k)] at hx; cases hx
        have := hcl j (by omega)
        rw [List.getElem?_take, if_pos hj'] at hx
        rw [List.getD_eq_getElem?_getD, hx] at this
        rw [Go.WideShapes.add_plain] at this
        exact this

theorem strs_length {H : Type} (xs : List ByteArray) : (strs (H := H) xs).length = xs.length := by
  induction xs with
  | nil => rfl
  | cons x r ih => show (_ :: strs r).length = _; rw [List.length_cons, List.length_cons, ih]
/-- how many strings there are: by the reach -/
theorem strs_sized {H : Type} {d : DataW H} {xs : List ByteArray} {ts : List TypeId} {ds : List (DataW H)} {j : Nat} (h : (DataW.weightsEach Tryz.prog ts ds).all (· ≤ reachBytes) = true)
    (ht : ts[j]? = some 23) (hd : ds[j]? = some d) (hx : (xs = [] ∧ d = .nil) ∨ ∃ sp, d = .slice (strs xs) sp) : xs.length * 16 ≤ 140737488351232 := by
  rcases hx with ⟨rfl, _⟩ | ⟨sp, rfl⟩
  · simp
  · have h1 := sized_slice h ht hd Tryz.underlying23
    have h2 : Tryz.prog.bytesOf 9 = 16 := by kernel_rfl
    rw [h2, strs_length] at h1
    have h3 : reachBytes = 140737488351232 := by decide
    omega
theorem strs_sz {H : Type} {d : DataW H} {xs : List ByteArray} {ts : List TypeId} {ds : List (DataW H)} {j : Nat} (h : (DataW.weightsEach Tryz.prog ts ds).all (· ≤ reachBytes) = true)
    (ht : ts[j]? = some 23) (hd : ds[j]? = some d) (hx : (xs = [] ∧ d = .nil) ∨ ∃ sp, d = .slice (strs xs) sp) : xs.length ≤ 8796093021952 := by
  have := strs_sized h ht hd hx
  omega
theorem one_slice {H : Type} {enc : TypeId × Value → H} {W : World} {n : Nat} {t e : TypeId} {v : Value} {y : DataW H × List MemPlace} (hu : Tryz.prog.underlying t = some (.slice e)) (h : DataW.trod enc Tryz.prog W 0 (fun _ => true) true n t [v] = some y) :
    (∃ a len cap, v = .slice a len cap) ∧ DataW.Trod enc Tryz.prog W 0 (fun _ => true) true t v y.1 y.2 := by
  have hs : ∃ a len cap, v = .slice a len cap := by
    rcases open_slice hu h with ⟨hcs, _⟩ | ⟨a, len, cap, m, n', D, Pl, hcs, _⟩
    · simp at hcs; exact ⟨_, _, _, hcs⟩
    · simp at hcs; exact ⟨_, _, _, hcs⟩
  refine ⟨hs, n, ?_⟩
  obtain ⟨a, len, cap, rfl⟩ := hs
  exact h
theorem agg_of {v : Value} {k : Nat} (hk : 1 < k) (hl : v.cells.toList.length = k) : ∃ l : List Value, v = .agg l.toArray ∧ v.cells.toList = l := by
  cases v with
  | agg cs => exact ⟨cs.toList, by simp, rfl⟩
  | _ => simp [Value.cells] at hl; omega
def SzS (x : ByteArray) : Prop := x.size ≤ maxLen
set_option maxRecDepth 100000 in
theorem open_job {H : Type} {enc : TypeId × Value → H} {W : World} {v : Value} {d : DataW H} {p : List MemPlace} (h : DataW.Trod enc Tryz.prog W 0 (fun _ => true) true 25 v d p) :
    ∃ (v0 : Value) (x0 : List Ch) (v1 : Value) (x1 : List ByteArray) (v2 : Value) (x2 : List ByteArray) (x3 : Int), v = .agg #[v0, v1, v2, .int .i64 x3] ∧ RdC W v0 x0 ∧ (∀ c ∈ x0, WfC c) ∧ ArgS v0 ∧ RdT W v1 x1 ∧ (∀ c ∈ x1, SzS c) ∧ ArgS v1 ∧ RdT W v2 x2 ∧ (∀ c ∈ x2, SzS c) ∧ ArgS v2 ∧
      ((DataW.weightsEach Tryz.prog [25] [d]).all (· ≤ reachBytes) = true → x0.length ≤ 4398046510976 ∧ x1.length ≤ 8796093021952 ∧ x2.length ≤ 8796093021952) := by
  obtain ⟨fuel, hf⟩ := h
  have hC : Tryz.prog.cellsOf 25 = 4 := by kernel_rfl
  have hc_c : Tryz.prog.cellsOf 22 = 1 := by kernel_rfl
  have hc_t : Tryz.prog.cellsOf 23 = 1 := by kernel_rfl
  have hc_i : Tryz.prog.cellsOf 3 = 1 := by kernel_rfl
  obtain ⟨xs, n, _, hx, hl, hlen, hfs⟩ := DataW.trod_struct Tryz.underlying25 hf
  rw [hC] at hl
  obtain ⟨l, hv, hcl⟩ := agg_of (by omega) hl
  rw [hcl] at hl hfs
  match l, hl with
  | [w0, w1, w2, w3], _ =>
    match xs, hlen with
    | [y0, y1, y2, y3], _ =>
      have g0 : DataW.trod enc Tryz.prog W 0 (fun _ => true) true n 22 (([w0, w1, w2, w3].drop 0).take (Tryz.prog.cellsOf 22)) = some y0 := hfs 0 _ rfl
      rw [hc_c] at g0
      have g1 : DataW.trod enc Tryz.prog W 0 (fun _ => true) true n 23 (([w0, w1, w2, w3].drop 1).take (Tryz.prog.cellsOf 23)) = some y1 := hfs 1 _ rfl
      rw [hc_t] at g1
      have g2 : DataW.trod enc Tryz.prog W 0 (fun _ => true) true n 23 (([w0, w1, w2, w3].drop 2).take (Tryz.prog.cellsOf 23)) = some y2 := hfs 2 _ rfl
      rw [hc_t] at g2
      have g3 : DataW.trod enc Tryz.prog W 0 (fun _ => true) true n 3 (([w0, w1, w2, w3].drop 3).take (Tryz.prog.cellsOf 3)) = some y3 := hfs 3 _ rfl
      rw [hc_i] at g3
      obtain ⟨q0, t0⟩ := one_slice Tryz.underlying22 (show DataW.trod enc Tryz.prog W 0 (fun _ => true) true n 22 [w0] = some y0 from g0)
      obtain ⟨x0, hr0, hw0, hd0, hs0⟩ := open_chs q0 t0
      obtain ⟨q1, t1⟩ := one_slice Tryz.underlying23 (show DataW.trod enc Tryz.prog W 0 (fun _ => true) true n 23 [w1] = some y1 from g1)
      obtain ⟨x1, hr1, hw1, hd1, hs1⟩ := open_strs q1 t1
      obtain ⟨q2, t2⟩ := one_slice Tryz.underlying23 (show DataW.trod enc Tryz.prog W 0 (fun _ => true) true n 23 [w2] = some y2 from g2)
      obtain ⟨x2, hr2, hw2, hd2, hs2⟩ := open_strs q2 t2
      obtain ⟨x3, e3, _⟩ := DataW.trod_int Tryz.underlying3 (show DataW.trod enc Tryz.prog W 0 (fun _ => true) true n 3 [w3] = some y3 from g3)
      cases e3
      refine ⟨w0, x0, w1, x1, w2, x2, x3, hv, hr0, hw0, hs0, hr1, hw1, hs1, hr2, hw2, hs2, fun hsz => ?_⟩
      have hdd := (Prod.mk.inj hx).1
      subst hdd
      simp only [DataW.weightsEach, DataW.weights, Tryz.underlying25, List.append_nil, List.map_cons, List.map_nil] at hsz
      have hsz' : (DataW.weightsEach Tryz.prog [22, 23, 23, 3] [y0.1, y1.1, y2.1, y3.1]).all (· ≤ reachBytes) = true := by
        simp only [DataW.weightsEach, List.append_nil]
        exact hsz
      exact ⟨chs_sized (j := 0) hsz' rfl rfl hd0, strs_sz (j := 1) hsz' rfl rfl hd1, strs_sz (j := 2) hsz' rfl rfl hd2⟩
end Go.Proofs.YtddmfdjkkikapaaGreatDoor
