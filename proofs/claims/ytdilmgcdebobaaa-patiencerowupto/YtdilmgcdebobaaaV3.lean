/-
  The walk of pilesOf.
-/
import Derived.Test.YtdilmgcdebobaaaGrV1
namespace Go.Proofs.Ytdilmgcdebobaaa
open Go.RowKit
open Ed (Ch Run Pr)

theorem three_blocks (w : World) (A B C : Obj) : (((w.alloc A).alloc B).alloc C).heap[w.heap.size]? = some A ∧ (((w.alloc A).alloc B).alloc C).heap[w.heap.size + 1]? = some B ∧ (((w.alloc A).alloc B).alloc C).heap[w.heap.size + 2]? = some C ∧ Below w.heap.size w (((w.alloc A).alloc B).alloc C) :=
  ⟨alloc_stays (alloc_stays (alloc_at A rfl) B) C, alloc_stays (alloc_at B (by simp)) C, alloc_at C (by simp), (((Below.refl _ _).alloc (Nat.le_refl _) _).alloc (by simp) _).alloc (by simp; omega) _⟩

set_option maxHeartbeats 8000000 in
set_option maxRecDepth 100000 in
theorem pilesOf_any {w : World} {v : Value} {l : List Int} (hv : RdI w v l) (hl : l.length ≤ 10000000) :
    Calls Try.prog 26 #[v] w fun e w' => ∃ (v2 : Value) (g3 : Nat) (P : Pn.Piles) (B : List Int), e = .returned (.tuple #[v2, .slice (some ⟨g3, 0, none⟩) l.length l.length]) ∧ OwnPl w' w.heap.size v2 P ∧ IlR w' g3 B ∧ w.heap.size ≤ g3 ∧ B.length = l.length ∧ Pn.PilesOk (fn l) l.length P ∧ Pn.BelowOk (fn l) l.length B ∧ P.length ≤ l.length ∧ Below w.heap.size w w' := by
  obtain ⟨a0, c0, rfl⟩ := hv.shape
  have HV := hid hv
  have hm := mkN l.length (by omega)
  obtain ⟨Z, hZ⟩ : ∃ Z, Z = (isC (List.replicate l.length 0)).toArray := ⟨_, rfl⟩
  rw [← hZ] at hm
  obtain ⟨t1, t2, t3, t4⟩ := three_blocks w (.cells #[.slice a0 l.length c0] 22) (.cells #[.slice none 0 0] 46) (.cells Z 3)
  have hs : (((w.alloc (.cells #[.slice a0 l.length c0] 22)).alloc (.cells #[.slice none 0 0] 46)).alloc (.cells Z 3)).heap.size = w.heap.size + 3 := by simp
  have HZ := hid hZ
  clear hv hZ
  go_enter Try.func26, Try.ntmps26
  go_wp2
  generalize (((w.alloc (.cells #[.slice a0 l.length c0] 22)).alloc (.cells #[.slice none 0 0] 46)).alloc (.cells Z 3)) = w1 at t1 t2 t3 t4 hs ⊢
  have HB1 := hid t4
  have HP0 : Hid (PlSt l (.slice a0 l.length c0) (w.heap.size + 3) w.heap.size (w.heap.size + 1) (w.heap.size + 2) 0 w1 (.slice none 0 0) [] (List.replicate l.length 0)) := hid ⟨t1, t2, World.ownsRow_nil _ _ _ _, by unfold IlR; rw [t3, HZ.out], by rw [List.length_replicate], Pn.piles_none _, Pn.below_none _ _, Nat.le_refl _⟩
  obtain ⟨g1, hg1⟩ : ∃ g1, g1 = w.heap.size := ⟨_, rfl⟩
  obtain ⟨g2, hg2⟩ : ∃ g2, g2 = w.heap.size + 1 := ⟨_, rfl⟩
  obtain ⟨g3, hg3⟩ : ∃ g3, g3 = w.heap.size + 2 := ⟨_, rfl⟩
  obtain ⟨B, hB⟩ : ∃ B, B = w.heap.size + 3 := ⟨_, rfl⟩
  rw [← hB, ← hg2, ← hg3] at HP0
  rw [show w.heap.size + 1 + 1 = g3 by omega, ← hg2, ← hg1]
  rw [← hg1] at HP0
  have e1 : w.heap.size = g1 := hg1.symm
  have hle : g1 < B ∧ g2 < B ∧ g3 < B ∧ g1 ≠ g2 ∧ g3 ≠ g2 ∧ g1 ≠ g3 := by omega
  have HG := hid (And.intro hg1 (And.intro hg2 (And.intro hg3 hB)))
  have hBw : B ≤ w1.heap.size := by omega
  clear t1 t2 t3 t4 hg1 hg2 hg3 hB hm hs e1
  go_loopw [12] (fun i wr => ∃ (n : Nat) (v2 : Value) (P : Pn.Piles) (Bl : List Int), n ≤ l.length ∧ i = .int .i64 n ∧ Hid (PlSt l (.slice a0 l.length c0) B g1 g2 g3 n wr v2 P Bl) ∧ Hid (Below w.heap.size w wr) ∧ Hid (B ≤ wr.heap.size)) (fun i _ => l.length - (intOf i).toNat)
  case atStart => exact ⟨0, _, _, _, Nat.zero_le _, rfl, HP0, HB1, hid hBw⟩
  case round =>
    clear HP0 HB1 hBw
    obtain ⟨n, v2, P, Bl, hn, rfl, HS, HB, HBs⟩ := hrel
    by_cases hlt : n < l.length
    · obtain ⟨x, hx⟩ : ∃ x, l[n]? = some x := ⟨_, List.getElem?_eq_getElem hlt⟩
      obtain ⟨b, o, rfl, hbl, d1⟩ := rdI_at (HV.out.below HB.out) hx
      have HX := hid (fn_at hx)
      obtain ⟨a2, c2, rfl⟩ := own_shape HS.out.row
      have i1 : (n : Int) < (l.length : Int) := by omega
      have i2 : (0 : Int) ≤ (n : Int) := by omega
      have i3 : IntKind.i64.wrap ((n : Int) + 1) = (n : Int) + 1 := wrapOk (by omega) (by omega)
      obtain ⟨K, hK⟩ : ∃ K, K = Pn.lg (fn l) n - 1 := ⟨_, rfl⟩
      have hKP : K ≤ P.length := by have := Pn.lg_most HS.out.ok; omega
      have hPn := HS.out.few
      have HKK := hid hK
      clear hK
      have hb5 : Below wr.heap.size wr (wr.alloc (.cells #[.int .i64 x] 3)) := (Below.refl _ _).alloc (Nat.le_refl _) _
      have h5 : (wr.alloc (.cells #[.int .i64 x] 3)).cell? ⟨wr.heap.size, 0, none⟩ = some (.int .i64 x) := cell_of_blk (heap_alloc_new wr (.cells #[.int .i64 x] 3)) 0
      have HS5 := hid (HS.out.far hb5)
      have HB5 := hid (HB.out.trans (hb5.mono HB.out.size))
      have HZ5 : Hid (B ≤ (wr.alloc (.cells #[.int .i64 x] 3)).heap.size) := hid (Nat.le_trans HBs.out hb5.size)
      have HH5 := hid h5
      clear hx hb5 h5 HS HB HBs
      go_upto_region 5 with fail
      generalize wr.alloc (.cells #[.int .i64 x] 3) = w5 at HS5 HB5 HZ5 HH5 ⊢
      generalize wr.heap.size = g5 at HH5 ⊢
      have q1 : w5.cell? ⟨g1, 0, none⟩ = some (.slice (some ⟨b, o, none⟩) l.length c0) := cell_of_blk HS5.out.box 0
      have q2 : w5.cell? ⟨g2, 0, none⟩ = some (.slice a2 P.length c2) := cell_of_blk HS5.out.cell 0
      have HSE := hid (search_any P.length K #[.pointer (some ⟨g1, 0, none⟩), .pointer (some ⟨g2, 0, none⟩), .pointer (some ⟨g5, 0, none⟩)] w5 hKP (by omega) (by
        intro q i hi
        obtain ⟨p, hp⟩ : ∃ p, P[i]? = some p := ⟨_, List.getElem?_eq_getElem hi⟩
        have hpl := (HS5.out.ok.at_ i p hp).2.1
        obtain ⟨y, hy⟩ : ∃ y, l[p.2]? = some y := ⟨_, List.getElem?_eq_getElem (by omega)⟩
        have hiff := Pn.piles_search HS5.out.ok hp
        rw [fn_at hy, HX.out, ← HKK.out] at hiff
        have h := pilesF_any (w := w5.drewN q) (x := x) (y := y) (show (w5.drewN q).cell? ⟨g1, 0, none⟩ = _ from q1) (HV.out.below (below_drewN HB5.out q)) (show (w5.drewN q).cell? ⟨g2, 0, none⟩ = _ from q2) (HS5.out.row.rd.below (below_drewN (Below.refl _ _) q)) (show (w5.drewN q).cell? ⟨g5, 0, none⟩ = _ from HH5.out) hp hy
        rw [show decide (x ≤ y) = decide (K ≤ i) from decide_eq_decide.2 hiff] at h
        exact h.mono (fun e w' ⟨he, q', hw⟩ => ⟨he, q + q', by rw [hw, World.drewN_drewN]⟩)))
      go_upto_region 6 with (go_at_call 39; refine HSE.out.mono ?_; rintro e w' ⟨rfl, q, rfl⟩)
      have HS6 := hid (HS5.out.far (below_drewN (Below.refl _ _) q))
      have HB6 := hid (below_drewN HB5.out q)
      have HZ6 : Hid (B ≤ (w5.drewN q).heap.size) := HZ5
      generalize w5.drewN q = w6 at HS6 HB6 HZ6 ⊢
      clear HS5 HB5 HZ5 HH5 q1 q2 HSE d1
      have q2 : w6.cell? ⟨g2, 0, none⟩ = some (.slice a2 P.length c2) := cell_of_blk HS6.out.cell 0
      have qf : w6.frozen? ⟨g2, 0, none⟩ = false := frozen_of_blk HS6.out.cell 0
      by_cases hnew : K = P.length
      · have z1 : ((K : Int) == (P.length : Int)) = true := ieq (by omega)
        have hbX : Below w6.heap.size w6 (w6.alloc (.cells #[.int .i64 n, .int .i64 n] 50)) := (Below.refl _ _).alloc (Nat.le_refl _) _
        have HSX := hid (HS6.out.far hbX)
        have HBX := hid (HB6.out.trans (hbX.mono HB6.out.size))
        have HZX : Hid (B ≤ (w6.alloc (.cells #[.int .i64 n, .int .i64 n] 50)).heap.size) := hid (Nat.le_trans HZ6.out hbX.size)
        have HKN := hid (HKK.out.symm.trans hnew)
        clear hnew hbX HS6 HB6
        go_wp2_with (at_builtin; refine wpList_append_pl rfl _ _ rfl B _ P rfl HSX.out.row w6.heap.size n rfl (heap_alloc_new w6 _) (by omega) HZX.out ?_; intro v7 w7 hO7 hg7; obtain ⟨a7, c7, e7⟩ := own_shape hO7; subst e7; have HS7 := hid (HSX.out.more hle.1 hle.2.1 hle.2.2.1 hle.2.2.2.1 hle.2.2.2.2.1 hO7 hg7 HKN.out); have HB7 : Hid (Below w.heap.size w (w7.setCell ⟨g2, 0, none⟩ (.slice a7 (P ++ [(n, n)]).length c7))) := hid (set_below (HBX.out.grown hg7 HBX.out.size (fun q hq => Nat.le_trans (by have := HG.out; omega) (own_ge HSX.out.row q hq))) (by have := HG.out; omega) (Nat.le_trans HBX.out.size hg7.size)); have HZ7 : Hid (B ≤ (w7.setCell ⟨g2, 0, none⟩ (.slice a7 (P ++ [(n, n)]).length c7)).heap.size) := hid (by rw [set_size]; exact Nat.le_trans HZX.out hg7.size); have r2 : w7.cell? ⟨g2, 0, none⟩ = some (.slice a2 P.length c2) := cell_of_blk ((hg7.block g2 (lt_of_heap HSX.out.cell) (fun e => by have := own_ge HSX.out.row g2 e.symm; omega)).trans HSX.out.cell) 0; have rf : w7.frozen? ⟨g2, 0, none⟩ = false := frozen_of_blk ((hg7.block g2 (lt_of_heap HSX.out.cell) (fun e => by have := own_ge HSX.out.row g2 e.symm; omega)).trans HSX.out.cell) 0; clear hO7 hg7)
        have hpp : (P ++ [(n, n)]).length = P.length + 1 := by simp
        rw [hpp] at HS7 HB7 HZ7
        exact ⟨⟨n + 1, _, _, _, by omega, by push_cast; rfl, HS7, HB7, HZ7⟩, by simp [intOf]; omega⟩
      · have z1 : ((K : Int) == (P.length : Int)) = false := ine (by omega)
        have hKl : K < P.length := by omega
        obtain ⟨p, hp⟩ : ∃ p, P[K]? = some p := ⟨_, List.getElem?_eq_getElem hKl⟩
        obtain ⟨g, rfl⟩ := own_some' HS6.out.row (by omega)
        have hpl := (HS6.out.ok.at_ K p hp).2.1
        obtain ⟨s, hs⟩ : ∃ s : Nat, s = p.2 := ⟨_, rfl⟩
        obtain ⟨b2, o2, e2, _, _, t2⟩ := rdP_at HS6.out.row.rd (plI_get hp)
        cases e2
        simp only [Nat.zero_add] at t2
        rw [← hs] at t2 hpl
        have hp' := hp
        rw [HKK.out] at hp'
        have HS7 := hid (HS6.out.put rfl hle.1 hle.2.1 hle.2.2.1 hle.2.2.2.2.2 (Ne.symm hle.2.2.2.2.1) hp' hn)
        rw [← HKK.out, ← hs] at HS7
        obtain ⟨old, hold⟩ : ∃ old, Bl[s]? = some old := ⟨_, List.getElem?_eq_getElem (by rw [HS6.out.len]; omega)⟩
        have t3 := HS6.out.bel.cell hold
        have f3 := HS6.out.bel.frozen s
        have hgB : B ≤ g := own_ge HS6.out.row g rfl
        have hBg : w.heap.size ≤ B := by have := HG.out; omega
        have hw3 : w.heap.size ≤ g3 := by have := HG.out; omega
        have f4 := own_frozen' HS6.out.row (K * 2 + 1)
        have HB7 : Hid (Below w.heap.size w ((w6.setCell ⟨g3, s, none⟩ (.int .i64 n)).setCell ⟨g, K * 2 + 1, none⟩ (.int .i64 n))) := hid (set_below (set_below HB6.out hw3 HB6.out.size) (Nat.le_trans hBg hgB) (by rw [set_size]; exact HB6.out.size))
        have HZ7 : Hid (B ≤ ((w6.setCell ⟨g3, s, none⟩ (.int .i64 n)).setCell ⟨g, K * 2 + 1, none⟩ (.int .i64 n)).heap.size) := hid (by rw [set_size, set_size]; exact HZ6.out)
        have j1 : (0 : Int) ≤ (K : Int) := by omega
        have j2 : (K : Int) < (P.length : Int) := by omega
        have j3 : (0 : Int) ≤ (s : Int) := by omega
        have j4 : (s : Int) < (l.length : Int) := by omega
        have hg3g : g ≠ g3 := by omega
        have hg3g2 : g2 ≠ g3 := Ne.symm hle.2.2.2.2.1
        have r2 : (w6.setCell ⟨g3, s, none⟩ (.int .i64 n)).cell? ⟨g2, 0, none⟩ = some (.slice (some ⟨g, 0, none⟩) P.length c2) := cell_of_blk ((set_other _ hg3g2).trans HS6.out.cell) 0
        obtain ⟨r4, f5⟩ : (w6.setCell ⟨g3, s, none⟩ (.int .i64 n)).cell? ⟨g, K * 2 + 1, none⟩ = some (.int .i64 s) ∧ (w6.setCell ⟨g3, s, none⟩ (.int .i64 n)).frozen? ⟨g, K * 2 + 1, none⟩ = false := ⟨by unfold World.cell? at t2 ⊢; rw [show (⟨g, K * 2 + 1, none⟩ : Addr).block = g from rfl] at t2 ⊢; rw [set_other _ hg3g]; exact t2, by unfold World.frozen? at f4 ⊢; rw [show (⟨g, K * 2 + 1, none⟩ : Addr).block = g from rfl] at f4 ⊢; rw [set_other _ hg3g]; exact f4⟩
        clear hp hp' hs hold HS6 HB6 hle
        go_wp2
        exact ⟨⟨n + 1, _, _, _, by omega, by push_cast; rfl, HS7, HB7, HZ7⟩, by simp [intOf]; omega⟩
    · obtain rfl : n = l.length := by omega
      have q2 : wr.cell? ⟨g2, 0, none⟩ = some v2 := cell_of_blk HS.out.cell 0
      have qf : wr.frozen? ⟨g2, 0, none⟩ = false := frozen_of_blk HS.out.cell 0
      obtain ⟨a2, c2, rfl⟩ := own_shape HS.out.row
      go_wp2
      have c9 : (wr.setCell ⟨g2, 0, none⟩ (.slice a2 P.length c2)).cell? ⟨g2, 0, none⟩ = some (.slice a2 P.length c2) := by
        have h := set_heap wr g2 0 _ _ (.slice a2 P.length c2) HS.out.cell
        exact cell_of_blk h 0
      have hge := HG.out
      refine bodyPost_ret (v := .tuple #[.slice a2 P.length c2, .slice (some ⟨g3, 0, none⟩) l.length l.length]) (by simp [results, Try.results26, go_sem, c9]) rfl ⟨_, g3, P, Bl, rfl, ?_, HS.out.bel.far (set_other _ hle.2.2.2.2.1), by omega, HS.out.len, HS.out.ok, HS.out.okB, HS.out.few, set_below HB.out (by omega) HB.out.size⟩
      exact own_mono (own_far HS.out.row (fun k e => set_other _ (fun e2 => by have := own_ge HS.out.row k e; omega))) (by omega)
end Go.Proofs.Ytdilmgcdebobaaa
