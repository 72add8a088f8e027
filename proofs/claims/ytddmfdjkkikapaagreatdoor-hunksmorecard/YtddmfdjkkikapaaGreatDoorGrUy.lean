/-
  Several texts in one: Uy, Od.
-/
import Derived.Test.YtddmfdjkkikapaaGreatDoorGrUx
import Derived.Test.YtddmfdjkkikapaaGreatDoorGrMa
import Derived.Test.YtddmfdjkkikapaaGreatDoorGrJw
import Derived.Test.YtddmfdjkkikapaaGreatDoorGrKc
/-
  A hunk as two: the program's Split.
-/
namespace Go.Proofs.YtddmfdjkkikapaaGreatDoor
open Go.RowKit
open Hu (Rw Hk)

def splL (h : Hk) (k : Nat) : List Hk := headed h.head ([((0 : Nat), k), (k, h.rows.length)].map fun s : Sp => cutP h s.1 s.2)
def splN (h : Hk) (k : Int) : Nat := if 1 ≤ k ∧ k ≤ (h.rows.length : Int) - 1 then if Hu.vld h then if (splL h k.toNat).all Hu.vld then 0 else 100 else 100 else 1
def splA (h : Hk) (k : Int) : List Hk := if splN h k = 0 then splL h k.toNat else []
theorem splL_len (h : Hk) (k : Nat) : (splL h k).length = 2 := rfl
theorem splL_sz {h : Hk} {k : Nat} (hz : SzH h) : ∀ x ∈ splL h k, SzH x := by
  unfold splL
  refine headed_sz hz.2.2 (fun x hx => ?_)
  obtain ⟨s, _, rfl⟩ := List.mem_map.1 hx
  exact cutP_sz hz
theorem splA_len (h : Hk) (k : Int) : (splA h k).length < 1954687338260 := by
  unfold splA
  split
  · rw [splL_len]; decide
  · decide
theorem splA_sz {h : Hk} {k : Int} (hz : SzH h) : ∀ x ∈ splA h k, SzH x := by
  unfold splA
  split
  · exact splL_sz hz
  · intro x hx; cases hx
theorem split_1 {w : World} {h : Hk} {v : Value} {k : Int} (hv : RdW w v h.rows) (hz : SzH h) (hk : ¬ (1 ≤ k ∧ k ≤ (h.rows.length : Int) - 1)) :
    Calls Tryz.prog 18 #[HkV h v, .int .i64 k] w fun e w' => e = .returned (.tuple #[.slice none 0 0, .iface 63 (.int .i64 1)]) ∧ Below w.heap.size w w' := by
  obtain ⟨av, cv, rfl⟩ := hv.shape
  obtain ⟨xa, xn, xb, xm, xh, xr⟩ := h
  dsimp only at hk
  unfold HkV
  dsimp only
  have hN0 := hz.1
  dsimp only at hN0
  obtain ⟨N, hN⟩ : ∃ N, N = xr.length := ⟨_, rfl⟩
  rw [← hN] at hk hN0 ⊢
  have hbH := (Below.refl w.heap.size w).alloc (Nat.le_refl _) (.cells #[.int .i64 xa, .int .i64 xn, .int .i64 xb, .int .i64 xm, .string xh, .slice av N cv] 37)
  have hkH := heap_alloc_new w (.cells #[.int .i64 xa, .int .i64 xn, .int .i64 xb, .int .i64 xm, .string xh, .slice av N cv] 37)
  have q5 : (w.alloc (.cells #[.int .i64 xa, .int .i64 xn, .int .i64 xb, .int .i64 xm, .string xh, .slice av N cv] 37)).cell? ⟨w.heap.size, 5, none⟩ = some (.slice av N cv) := cell_of_blk hkH 5
  have i1 : IntKind.i64.wrap ((N : Int) - 1) = (N : Int) - 1 := wrapOk (by omega) (by omega)
  have HB := hid hbH
  clear hv hz hN hkH hbH
  by_cases h1 : k < 1
  · clear hk
    go_enter Tryz.func18, Tryz.ntmps18
    go_wp2_with fail
    go_ret2
    exact ⟨rfl, HB.out⟩
  · have h2 : (N : Int) - 1 < k := by omega
    have h3 : ¬ k < 1 := h1
    clear hk
    go_enter Tryz.func18, Tryz.ntmps18
    go_wp2_with fail
    go_ret2
    exact ⟨rfl, HB.out⟩
set_option maxHeartbeats 1000000 in
set_option maxRecDepth 100000 in
theorem split_2 {w : World} {h : Hk} {v : Value} {k : Nat} (hv : RdW w v h.rows) (hz : SzH h) (hk : 1 ≤ k ∧ k < h.rows.length) (hvl : Hu.vld h = false) :
    Calls Tryz.prog 18 #[HkV h v, .int .i64 k] w fun e w' => e = .returned (.tuple #[.slice none 0 0, .iface 63 (.int .i64 100)]) ∧ Below w.heap.size w w' := by
  have HVA := hid (fun w1 (hb : Below w.heap.size w w1) => hvalid_any (h := h) (hv.below hb) hz)
  rw [show vldN h = 100 by unfold vldN; rw [hvl]; rfl, errV_pos (by decide)] at HVA
  obtain ⟨av, cv, rfl⟩ := hv.shape
  obtain ⟨xa, xn, xb, xm, xh, xr⟩ := h
  dsimp only at hk
  unfold HkV at HVA ⊢
  dsimp only at HVA ⊢
  have hN0 := hz.1
  dsimp only at hN0
  obtain ⟨N, hN⟩ : ∃ N, N = xr.length := ⟨_, rfl⟩
  rw [← hN] at hk hN0 HVA ⊢
  have hbH := (Below.refl w.heap.size w).alloc (Nat.le_refl _) (.cells #[.int .i64 xa, .int .i64 xn, .int .i64 xb, .int .i64 xm, .string xh, .slice av N cv] 37)
  have hkH := heap_alloc_new w (.cells #[.int .i64 xa, .int .i64 xn, .int .i64 xb, .int .i64 xm, .string xh, .slice av N cv] 37)
  have i1 : IntKind.i64.wrap ((N : Int) - 1) = (N : Int) - 1 := wrapOk (by omega) (by omega)
  have h3 : ¬ (k : Int) < 1 := by omega
  have h4 : ¬ (N : Int) - 1 < (k : Int) := by omega
  clear hv hz hN hk hvl
  go_enter Tryz.func18, Tryz.ntmps18
  have q0 := cell_of_blk hkH 0
  have q1 := cell_of_blk hkH 1
  have q2 := cell_of_blk hkH 2
  have q3 := cell_of_blk hkH 3
  have q4 := cell_of_blk hkH 4
  have q5 := cell_of_blk hkH 5
  go_wp2_with fail
  refine (HVA.out _ hbH).mono ?_
  rintro e w2 ⟨rfl, hb2⟩
  have HB2 := hid (hbH.trans (hb2.mono hbH.size))
  clear hb2 hbH hkH q0 q1 q2 q3 q4 q5 HVA
  go_wp2_with fail
  go_ret2
  exact ⟨rfl, HB2.out⟩
set_option maxHeartbeats 2000000 in
set_option maxRecDepth 100000 in
theorem split_3 {w : World} {h : Hk} {v : Value} {k : Nat} (hv : RdW w v h.rows) (hz : SzH h) (hk : 1 ≤ k ∧ k < h.rows.length) (hvl : Hu.vld h = true) :
    Calls Tryz.prog 18 #[HkV h v, .int .i64 k] w fun e w' => ∃ v', e = .returned (.tuple #[v', errV (if (splL h k).all Hu.vld then 0 else 100)]) ∧ OwnH w' w.heap.size v' (if (splL h k).all Hu.vld then splL h k else []) ∧ Below w.heap.size w w' := by
  have HVA := hid (fun w1 (hb : Below w.heap.size w w1) => hvalid_any (h := h) (hv.below hb) hz)
  rw [show vldN h = 0 by unfold vldN; rw [hvl]; rfl, errV_zero] at HVA
  obtain ⟨hNs, hkd, hPQ⟩ := vld_small hvl
  have hpl := vld_pl hvl
  have HPI := hid (fun w1 vs (hb : Below w.heap.size w w1) (hs : RdSp w1 vs [((0 : Nat), k), (k, h.rows.length)]) => pieces_any (h := h) (v := v) (hv.below hb) hs (by omega) hkd hPQ hpl (by simp) (by simp) (by simp; omega) (by
    intro i s t hs ht
    match i with
    | 0 => simp at hs ht; rw [← hs, ← ht]; exact Nat.zero_le _
    | i + 1 => simp at ht))
  have HLN : Hid ((splL h k).length = 2) := hid rfl
  have HLZ := hid (splL_sz (k := k) hz)
  have HVP := hid (fun (x : Hk) (hx : x ∈ splL h k) w1 v1 (hr : RdW w1 v1 x.rows) => hvalid_any (h := x) hr (HLZ.out x hx))
  change Hid (∀ w1 vs, Below w.heap.size w w1 → RdSp w1 vs [((0 : Nat), k), (k, h.rows.length)] → Calls Tryz.prog 35 #[HkV h v, vs] w1 fun e w' => ∃ v', e = .returned v' ∧ OwnH w' w1.heap.size v' (splL h k) ∧ Below w1.heap.size w1 w') at HPI
  generalize splL h k = J at HPI HLN HLZ HVP ⊢
  obtain ⟨EE, hEE⟩ : ∃ EE, EE = errV (if J.all Hu.vld = true then 0 else 100) := ⟨_, rfl⟩
  obtain ⟨AA, hAA⟩ : ∃ AA, AA = if J.all Hu.vld = true then J else [] := ⟨_, rfl⟩
  rw [← hEE, ← hAA]
  have HEE := hid hEE
  have HAA := hid hAA
  clear hEE hAA
  obtain ⟨av, cv, rfl⟩ := hv.shape
  obtain ⟨xa, xn, xb, xm, xh, xr⟩ := h
  dsimp only at hk hNs HPI HVA
  unfold HkV at HVA HPI ⊢
  dsimp only at HVA HPI ⊢
  have hN0 := hz.1
  dsimp only at hN0
  obtain ⟨N, hN⟩ : ∃ N, N = xr.length := ⟨_, rfl⟩
  rw [← hN] at hk hN0 hNs HVA HPI ⊢
  have hbH := (Below.refl w.heap.size w).alloc (Nat.le_refl _) (.cells #[.int .i64 xa, .int .i64 xn, .int .i64 xb, .int .i64 xm, .string xh, .slice av N cv] 37)
  have hkH := heap_alloc_new w (.cells #[.int .i64 xa, .int .i64 xn, .int .i64 xb, .int .i64 xm, .string xh, .slice av N cv] 37)
  have i1 : IntKind.i64.wrap ((N : Int) - 1) = (N : Int) - 1 := wrapOk (by omega) (by omega)
  have h3 : ¬ (k : Int) < 1 := by omega
  have h4 : ¬ (N : Int) - 1 < (k : Int) := by omega
  clear hv hz hN hk hvl hpl hPQ hkd
  go_enter Tryz.func18, Tryz.ntmps18
  have q0 := cell_of_blk hkH 0
  have q1 := cell_of_blk hkH 1
  have q2 := cell_of_blk hkH 2
  have q3 := cell_of_blk hkH 3
  have q4 := cell_of_blk hkH 4
  have q5 := cell_of_blk hkH 5
  go_wp2_with fail
  clear q0 q1 q2 q3 q4 q5
  obtain ⟨H, hH⟩ : ∃ H, H = w.heap.size := ⟨_, rfl⟩
  have HH := hid hH
  rw [← hH] at hkH ⊢
  generalize w.alloc (.cells #[.int .i64 xa, .int .i64 xn, .int .i64 xb, .int .i64 xm, .string xh, .slice av N cv] 37) = w1 at hbH hkH ⊢
  have HB1 := hid hbH
  have HK1 := hid hkH
  clear hH hbH hkH
  refine (HVA.out w1 HB1.out).mono ?_
  rintro e w2 ⟨rfl, hb2⟩
  have HB2 := hid (HB1.out.trans (hb2.mono HB1.out.size))
  have HK2 := hid ((hb2.block H (lt_of_heap HK1.out)).trans HK1.out)
  clear hb2 HVA HB1 HK1
  have q0 : w2.cell? ⟨H, 0, none⟩ = some (.int .i64 xa) := cell_of_blk HK2.out 0
  have q1 : w2.cell? ⟨H, 1, none⟩ = some (.int .i64 xn) := cell_of_blk HK2.out 1
  have q2 : w2.cell? ⟨H, 2, none⟩ = some (.int .i64 xb) := cell_of_blk HK2.out 2
  have q3 : w2.cell? ⟨H, 3, none⟩ = some (.int .i64 xm) := cell_of_blk HK2.out 3
  have q4 : w2.cell? ⟨H, 4, none⟩ = some (.string xh) := cell_of_blk HK2.out 4
  have q5 : w2.cell? ⟨H, 5, none⟩ = some (.slice av N cv) := cell_of_blk HK2.out 5
  have hbS := (Below.refl w2.heap.size w2).alloc (Nat.le_refl _) (.cells #[.int .i64 0, .int .i64 (k : Nat), .int .i64 (k : Nat), .int .i64 (N : Nat)] 75)
  have hkS := heap_alloc_new w2 (.cells #[.int .i64 0, .int .i64 (k : Nat), .int .i64 (k : Nat), .int .i64 (N : Nat)] 75)
  have HB3 := hid (HB2.out.trans (hbS.mono HB2.out.size))
  have HS3 := hid hkS
  clear hbS hkS
  go_wp2_with fail
  refine (HPI.out _ _ HB3.out (lit_rdJ (cs := spC [((0 : Nat), k), (k, N)]) HS3.out)).mono ?_
  rintro e w4 ⟨v4, rfl, hO4, hb4⟩
  obtain ⟨a4, c4, e4⟩ := hO4.shape
  rw [HLN.out] at e4
  subst e4
  have HR4 := hid hO4.rd
  have HO4 := hid (hO4.mono HB3.out.size)
  have HB4 := hid (HB3.out.trans (hb4.mono HB3.out.size))
  clear hO4 hb4 q0 q1 q2 q3 q4 q5 HPI HB3 HS3 HB2 HK2
  go_wp2_with fail
  go_loopw [39] (fun ii wr => ∃ (j : Nat), j ≤ 2 ∧ ii = .int .i64 j ∧ Hid (∀ x ∈ J.take j, Hu.vld x = true) ∧ Hid (Below w4.heap.size w4 wr)) (fun ii _ => 2 - (intOf ii).toNat)
  case atStart => exact ⟨0, Nat.zero_le _, rfl, hid (by simp), Below.refl _ _⟩
  case round =>
    obtain ⟨j, hj, rfl, HJ, HB⟩ := hrel
    by_cases hlt : j < 2
    · obtain ⟨x, hx⟩ : ∃ x, J[j]? = some x := ⟨_, List.getElem?_eq_getElem (by have := HLN.out; omega)⟩
      obtain ⟨b1, o1, u, e1, hb1, d0, d1, d2, d3, d4, d5, hu⟩ := rdH_at HR4.out hx
      subst e1
      have HX := hid hx
      have HVX := hid (fun w1 v1 hr => HVP.out x (List.mem_of_getElem? hx) w1 v1 hr)
      have HBW := hid (HB4.out.trans (HB.out.mono HB4.out.size))
      replace d0 := (HB.out.cell (p := ⟨b1, _, none⟩) hb1).trans d0
      replace d1 := (HB.out.cell (p := ⟨b1, _, none⟩) hb1).trans d1
      replace d2 := (HB.out.cell (p := ⟨b1, _, none⟩) hb1).trans d2
      replace d3 := (HB.out.cell (p := ⟨b1, _, none⟩) hb1).trans d3
      replace d4 := (HB.out.cell (p := ⟨b1, _, none⟩) hb1).trans d4
      replace d5 := (HB.out.cell (p := ⟨b1, _, none⟩) hb1).trans d5
      have HU := hid (hu.below HB.out)
      cases hvx : Hu.vld x with
      | true =>
        have HJ2 : Hid (∀ y ∈ J.take (j + 1), Hu.vld y = true) := hid (fun y hy => by
          rw [List.take_add_one, HX.out] at hy
          rcases List.mem_append.1 hy with hy | hy
          · exact HJ.out y hy
          · simp at hy; rw [hy]; exact hvx)
        rw [show vldN x = 0 by unfold vldN; rw [hvx]; rfl, errV_zero] at HVX
        obtain ⟨ua, uc, rfl⟩ := hu.shape
        obtain ⟨ya, yn, yb, ym, yh, yr⟩ := x
        dsimp only at *
        unfold HkV at HVX
        dsimp only at HVX
        obtain ⟨M, hM⟩ : ∃ M, M = yr.length := ⟨_, rfl⟩
        have HM := hid hM
        rw [← hM] at d5 HU
        have j1 : (0 : Int) ≤ (j : Int) := by omega
        have j2 : (j : Int) < 2 := by omega
        have hbG := (Below.refl wr.heap.size wr).alloc (Nat.le_refl _) (.cells #[.int .i64 ya, .int .i64 yn, .int .i64 yb, .int .i64 ym, .string yh, .slice ua M uc] 37)
        have hkG := heap_alloc_new wr (.cells #[.int .i64 ya, .int .i64 yn, .int .i64 yb, .int .i64 ym, .string yh, .slice ua M uc] 37)
        have HBG := hid hbG
        have HUG := hid (HU.out.below hbG)
        have g0 := cell_of_blk hkG 0
        have g1 := cell_of_blk hkG 1
        have g2 := cell_of_blk hkG 2
        have g3 := cell_of_blk hkG 3
        have g4 := cell_of_blk hkG 4
        have g5 := cell_of_blk hkG 5
        clear hx hvx hu hM hb1 hbG hkG
        go_wp2_with fail
        refine (HVX.out _ _ (by show RdX _ _ yr.length _; rw [← HM.out]; exact HUG.out)).mono ?_
        rintro e w6 ⟨rfl, hb6⟩
        have HB6 := hid ((HB.out.trans (HBG.out.mono HB.out.size)).trans (hb6.mono (HB.out.trans (HBG.out.mono HB.out.size)).size))
        clear hb6 d0 d1 d2 d3 d4 d5 g0 g1 g2 g3 g4 g5
        go_wp2_with fail
        go_roundw
        case rel => exact ⟨j + 1, by omega, by go_num, HJ2, HB6⟩
        case measure => simp [intOf]; omega
      | false =>
        have HAL : Hid (J.all Hu.vld = false) := hid (by
          cases q : J.all Hu.vld with
          | false => rfl
          | true => rw [List.all_eq_true] at q; rw [q x (List.mem_of_getElem? HX.out)] at hvx; cases hvx)
        rw [show vldN x = 100 by unfold vldN; rw [hvx]; rfl, errV_pos (by decide)] at HVX
        obtain ⟨ua, uc, rfl⟩ := hu.shape
        obtain ⟨ya, yn, yb, ym, yh, yr⟩ := x
        dsimp only at *
        unfold HkV at HVX
        dsimp only at HVX
        obtain ⟨M, hM⟩ : ∃ M, M = yr.length := ⟨_, rfl⟩
        have HM := hid hM
        rw [← hM] at d5 HU
        have j1 : (0 : Int) ≤ (j : Int) := by omega
        have j2 : (j : Int) < 2 := by omega
        have hbG := (Below.refl wr.heap.size wr).alloc (Nat.le_refl _) (.cells #[.int .i64 ya, .int .i64 yn, .int .i64 yb, .int .i64 ym, .string yh, .slice ua M uc] 37)
        have hkG := heap_alloc_new wr (.cells #[.int .i64 ya, .int .i64 yn, .int .i64 yb, .int .i64 ym, .string yh, .slice ua M uc] 37)
        have HBG := hid hbG
        have HUG := hid (HU.out.below hbG)
        have g0 := cell_of_blk hkG 0
        have g1 := cell_of_blk hkG 1
        have g2 := cell_of_blk hkG 2
        have g3 := cell_of_blk hkG 3
        have g4 := cell_of_blk hkG 4
        have g5 := cell_of_blk hkG 5
        clear hx hvx hu hM hb1 hbG hkG
        go_wp2_with fail
        refine (HVX.out _ _ (by show RdX _ _ yr.length _; rw [← HM.out]; exact HUG.out)).mono ?_
        rintro e w6 ⟨rfl, hb6⟩
        have HB6 := hid ((HB.out.trans (HBG.out.mono HB.out.size)).trans (hb6.mono (HB.out.trans (HBG.out.mono HB.out.size)).size))
        clear hb6 d0 d1 d2 d3 d4 d5 g0 g1 g2 g3 g4 g5
        go_wp2_with fail
        go_ret2
        refine ⟨.slice none 0 0, ?_, ?_, HB4.out.trans (HB6.out.mono HB4.out.size)⟩
        · rw [HEE.out, HAL.out]; rfl
        · rw [HAA.out, HAL.out]; exact OwnH.nil _ _
    · obtain rfl : j = 2 := by omega
      have HAL : Hid (J.all Hu.vld = true) := hid (by
        rw [List.all_eq_true]
        intro x hx
        exact HJ.out x (by rw [List.take_of_length_le (by have := HLN.out; omega)]; exact hx))
      go_wp2_with fail
      go_ret2
      refine ⟨.slice a4 2 c4, ?_, ?_, HB4.out.trans (HB.out.mono HB4.out.size)⟩
      · rw [HEE.out, HAL.out]; rfl
      · rw [HAA.out, HAL.out]; exact HO4.out.stays HB.out
theorem split_any {w : World} {h : Hk} {v : Value} {k : Int} (hv : RdW w v h.rows) (hz : SzH h) :
    Calls Tryz.prog 18 #[HkV h v, .int .i64 k] w fun e w' => ∃ v', e = .returned (.tuple #[v', errV (splN h k)]) ∧ OwnH w' w.heap.size v' (splA h k) ∧ Below w.heap.size w w' := by
  by_cases hk : 1 ≤ k ∧ k ≤ (h.rows.length : Int) - 1
  · obtain ⟨n, rfl⟩ := Int.eq_ofNat_of_zero_le (a := k) (by omega)
    have hk2 : 1 ≤ n ∧ n < h.rows.length := by omega
    cases hvl : Hu.vld h with
    | false =>
      have e1 : splN h (n : Int) = 100 := by unfold splN; rw [if_pos hk, hvl]; rfl
      unfold splA
      rw [e1]
      exact (split_2 hv hz hk2 hvl).mono (fun e w' ⟨h1, h2⟩ => ⟨_, h1, OwnH.nil _ _, h2⟩)
    | true =>
      have e1 : splN h (n : Int) = if (splL h n).all Hu.vld then 0 else 100 := by unfold splN; rw [if_pos hk, hvl]; rfl
      have e2 : splA h (n : Int) = if (splL h n).all Hu.vld then splL h n else [] := by
        unfold splA
        rw [e1]
        cases (splL h n).all Hu.vld <;> rfl
      rw [e1, e2]
      exact split_3 hv hz hk2 hvl
  · have e1 : splN h k = 1 := by unfold splN; rw [if_neg hk]
    unfold splA
    rw [e1]
    exact (split_1 hv hz hk).mono (fun e w' ⟨h1, h2⟩ => ⟨_, h1, OwnH.nil _ _, h2⟩)
end Go.Proofs.YtddmfdjkkikapaaGreatDoor
/-
  A hunk as two: the document's Split (wip/genod.py).
-/
namespace Go.Proofs.YtddmfdjkkikapaaGreatDoor
open Go.RowKit
open Hu (Rw Hk)

theorem rsplit_1 {w : World} {h : Hk} {v : Value} {k : Int} (hv : RdW w v h.rows) (hz : SzH h) (hk : ¬ (1 ≤ k ∧ k ≤ (h.rows.length : Int) - 1)) :
    Calls Tryz.prog 19 #[HkV h v, .int .i64 k] w fun e w' => e = .returned (.tuple #[.slice none 0 0, .int .i64 1]) ∧ Below w.heap.size w w' := by
  obtain ⟨av, cv, rfl⟩ := hv.shape
  obtain ⟨xa, xn, xb, xm, xh, xr⟩ := h
  dsimp only at hk
  unfold HkV
  dsimp only
  have hN0 := hz.1
  dsimp only at hN0
  obtain ⟨N, hN⟩ : ∃ N, N = xr.length := ⟨_, rfl⟩
  rw [← hN] at hk hN0 ⊢
  have hbH := (Below.refl w.heap.size w).alloc (Nat.le_refl _) (.cells #[.int .i64 xa, .int .i64 xn, .int .i64 xb, .int .i64 xm, .string xh, .slice av N cv] 37)
  have hkH := heap_alloc_new w (.cells #[.int .i64 xa, .int .i64 xn, .int .i64 xb, .int .i64 xm, .string xh, .slice av N cv] 37)
  have q5 : (w.alloc (.cells #[.int .i64 xa, .int .i64 xn, .int .i64 xb, .int .i64 xm, .string xh, .slice av N cv] 37)).cell? ⟨w.heap.size, 5, none⟩ = some (.slice av N cv) := cell_of_blk hkH 5
  have i1 : IntKind.i64.wrap ((N : Int) - 1) = (N : Int) - 1 := wrapOk (by omega) (by omega)
  have HB := hid hbH
  clear hv hz hN hkH hbH
  by_cases h1 : k < 1
  · clear hk
    go_enter Tryz.func19, Tryz.ntmps19
    go_wp2_with fail
    go_ret2
    exact ⟨rfl, HB.out⟩
  · have h2 : (N : Int) - 1 < k := by omega
    have h3 : ¬ k < 1 := h1
    clear hk
    go_enter Tryz.func19, Tryz.ntmps19
    go_wp2_with fail
    go_ret2
    exact ⟨rfl, HB.out⟩
set_option maxHeartbeats 1000000 in
set_option maxRecDepth 100000 in
theorem rsplit_2 {w : World} {h : Hk} {v : Value} {k : Nat} (hv : RdW w v h.rows) (hz : SzH h) (hk : 1 ≤ k ∧ k < h.rows.length) (hvl : Hu.vld h = false) :
    Calls Tryz.prog 19 #[HkV h v, .int .i64 k] w fun e w' => e = .returned (.tuple #[.slice none 0 0, .int .i64 100]) ∧ Below w.heap.size w w' := by
  have HVA := hid (fun w1 (hb : Below w.heap.size w w1) => rValid_any (h := h) (hv.below hb) hz)
  rw [show vldN h = 100 by unfold vldN; rw [hvl]; rfl] at HVA
  obtain ⟨av, cv, rfl⟩ := hv.shape
  obtain ⟨xa, xn, xb, xm, xh, xr⟩ := h
  dsimp only at hk
  unfold HkV at HVA ⊢
  dsimp only at HVA ⊢
  have hN0 := hz.1
  dsimp only at hN0
  obtain ⟨N, hN⟩ : ∃ N, N = xr.length := ⟨_, rfl⟩
  rw [← hN] at hk hN0 HVA ⊢
  have hbH := (Below.refl w.heap.size w).alloc (Nat.le_refl _) (.cells #[.int .i64 xa, .int .i64 xn, .int .i64 xb, .int .i64 xm, .string xh, .slice av N cv] 37)
  have hkH := heap_alloc_new w (.cells #[.int .i64 xa, .int .i64 xn, .int .i64 xb, .int .i64 xm, .string xh, .slice av N cv] 37)
  have i1 : IntKind.i64.wrap ((N : Int) - 1) = (N : Int) - 1 := wrapOk (by omega) (by omega)
  have h3 : ¬ (k : Int) < 1 := by omega
  have h4 : ¬ (N : Int) - 1 < (k : Int) := by omega
  clear hv hz hN hk hvl
  go_enter Tryz.func19, Tryz.ntmps19
  have q0 := cell_of_blk hkH 0
  have q1 := cell_of_blk hkH 1
  have q2 := cell_of_blk hkH 2
  have q3 := cell_of_blk hkH 3
  have q4 := cell_of_blk hkH 4
  have q5 := cell_of_blk hkH 5
  go_wp2_with fail
  refine (HVA.out _ hbH).mono ?_
  rintro e w2 ⟨rfl, hb2⟩
  have HB2 := hid (hbH.trans (hb2.mono hbH.size))
  clear hb2 hbH hkH q0 q1 q2 q3 q4 q5 HVA
  go_wp2_with fail
  go_ret2
  exact ⟨rfl, HB2.out⟩
theorem lit2H {w : World} {g : Nat} {x1 x2 : Hk} {u1 u2 : Value} (h : w.heap[g]? = some (.cells (hksC [(x1, u1), (x2, u2)]).toArray 37)) (h1 : RdW w u1 x1.rows) (h2 : RdW w u2 x2.rows) : RdH w (.slice (some ⟨g, 0, none⟩) 2 2) [x1, x2] :=
  ⟨[(x1, u1), (x2, u2)], rfl, lit_rdJ h, fun q hq => by
    rcases List.mem_cons.1 hq with rfl | hq
    · exact h1
    · simp at hq; subst hq; exact h2⟩
set_option maxHeartbeats 2000000 in
set_option maxRecDepth 100000 in
theorem rsplit_3 {w : World} {h : Hk} {v : Value} {k : Nat} (hv : RdW w v h.rows) (hA : ArgS v) (hz : SzH h) (hk : 1 ≤ k ∧ k < h.rows.length) (hvl : Hu.vld h = true) (hv1 : Hu.vld { cutP h 0 k with head := h.head } = false) :
    Calls Tryz.prog 19 #[HkV h v, .int .i64 k] w fun e w' => ∃ v', e = .returned (.tuple #[v', .int .i64 100]) ∧ RdH w' v' [] ∧ Below w.heap.size w w' := by
  have HVA := hid (fun w1 (hb : Below w.heap.size w w1) => rValid_any (h := h) (hv.below hb) hz)
  rw [show vldN h = 0 by unfold vldN; rw [hvl]; rfl] at HVA
  obtain ⟨hNs, hkd, hPQ⟩ := vld_small hvl
  have hpl := vld_pl hvl
  have HC1 := hid (fun w1 (hb : Below w.heap.size w w1) => rCut_any (f := 0) (t := k) (h := h) (hv.below hb) hA hz.1 hPQ hpl (by omega) (by omega))
  have HC2 := hid (fun w1 (hb : Below w.heap.size w w1) => rCut_any (f := k) (t := h.rows.length) (h := h) (hv.below hb) hA hz.1 hPQ hpl (by omega) (by omega))
  have hz1 : SzH { cutP h 0 k with head := h.head } := ⟨(cutP_sz (f := 0) (t := k) hz).1, (cutP_sz (f := 0) (t := k) hz).2.1, hz.2.2⟩
  have HV1 := hid (fun w1 v1 (hr : RdW w1 v1 (cutP h 0 k).rows) => rValid_any (h := { cutP h 0 k with head := h.head }) hr hz1)
  rw [show vldN { cutP h 0 k with head := h.head } = 100 by unfold vldN; rw [hv1]; rfl] at HV1
  clear hv1 hz1
  generalize cutP h 0 k = X1 at HC1 HV1
  generalize cutP h k h.rows.length = X2 at HC2
  obtain ⟨av, cv, rfl⟩ := hv.shape
  obtain ⟨ya, yn, yb, ym, yh, yr⟩ := X1
  obtain ⟨za, zn, zb, zm, zh, zr⟩ := X2
  obtain ⟨xa, xn, xb, xm, xh, xr⟩ := h
  dsimp only at *
  unfold HkV at HVA HC1 HC2 HV1 ⊢
  dsimp only at *
  have hN0 := hz.1
  dsimp only at hN0
  obtain ⟨N, hN⟩ : ∃ N, N = xr.length := ⟨_, rfl⟩
  rw [← hN] at hk hN0 hNs HVA HC1 HC2 ⊢
  have hbH := (Below.refl w.heap.size w).alloc (Nat.le_refl _) (.cells #[.int .i64 xa, .int .i64 xn, .int .i64 xb, .int .i64 xm, .string xh, .slice av N cv] 37)
  have hkH := heap_alloc_new w (.cells #[.int .i64 xa, .int .i64 xn, .int .i64 xb, .int .i64 xm, .string xh, .slice av N cv] 37)
  have i1 : IntKind.i64.wrap ((N : Int) - 1) = (N : Int) - 1 := wrapOk (by omega) (by omega)
  have h3 : ¬ (k : Int) < 1 := by omega
  have h4 : ¬ (N : Int) - 1 < (k : Int) := by omega
  clear hv hz hN hk hvl hpl hPQ hkd hA
  go_enter Tryz.func19, Tryz.ntmps19
  have q0 := cell_of_blk hkH 0
  have q1 := cell_of_blk hkH 1
  have q2 := cell_of_blk hkH 2
  have q3 := cell_of_blk hkH 3
  have q4 := cell_of_blk hkH 4
  have q5 := cell_of_blk hkH 5
  go_wp2_with fail
  clear q0 q1 q2 q3 q4 q5
  obtain ⟨H, hH⟩ : ∃ H, H = w.heap.size := ⟨_, rfl⟩
  have HH := hid hH
  rw [← hH] at hkH ⊢
  generalize w.alloc (.cells #[.int .i64 xa, .int .i64 xn, .int .i64 xb, .int .i64 xm, .string xh, .slice av N cv] 37) = w1 at hbH hkH ⊢
  have HB1 := hid hbH
  have HK1 := hid hkH
  clear hH hbH hkH
  refine (HVA.out w1 HB1.out).mono ?_
  rintro e w2 ⟨rfl, hb2⟩
  have HB2 := hid (HB1.out.trans (hb2.mono HB1.out.size))
  have HK2 := hid ((hb2.block H (lt_of_heap HK1.out)).trans HK1.out)
  clear hb2 HVA HB1 HK1
  have q0 : w2.cell? ⟨H, 0, none⟩ = some (.int .i64 xa) := cell_of_blk HK2.out 0
  have q1 : w2.cell? ⟨H, 1, none⟩ = some (.int .i64 xn) := cell_of_blk HK2.out 1
  have q2 : w2.cell? ⟨H, 2, none⟩ = some (.int .i64 xb) := cell_of_blk HK2.out 2
  have q3 : w2.cell? ⟨H, 3, none⟩ = some (.int .i64 xm) := cell_of_blk HK2.out 3
  have q4 : w2.cell? ⟨H, 4, none⟩ = some (.string xh) := cell_of_blk HK2.out 4
  have q5 : w2.cell? ⟨H, 5, none⟩ = some (.slice av N cv) := cell_of_blk HK2.out 5
  go_wp2_with fail
  refine (HC1.out w2 HB2.out).mono ?_
  rintro e w3 ⟨v3, rfl, hO3, hb3⟩
  obtain ⟨a3, c3, e3⟩ := own_shape hO3
  obtain ⟨l3, hl3⟩ : ∃ l3, l3 = yr.length := ⟨_, rfl⟩
  rw [← hl3] at e3
  subst e3
  have HL3 := hid hl3
  have HR3 := hid (own_rd hO3)
  have HB3 := hid (HB2.out.trans (hb3.mono HB2.out.size))
  have HK3 := hid ((hb3.block H (lt_of_heap HK2.out)).trans HK2.out)
  clear hO3 hb3 hl3 q0 q1 q2 q3 q4 q5 HC1 HB2 HK2
  have hbA := (Below.refl w3.heap.size w3).alloc (Nat.le_refl _) (.cells #[.int .i64 ya, .int .i64 yn, .int .i64 yb, .int .i64 ym, .string yh, .slice a3 l3 c3] 37)
  have e4 := cell_of_blk ((hbA.block H (lt_of_heap HK3.out)).trans HK3.out) 4
  have hbB := (Below.refl w3.heap.size w3).alloc (Nat.le_refl _) (.cells #[.int .i64 ya, .int .i64 yn, .int .i64 yb, .int .i64 ym, .string xh, .slice a3 l3 c3] 37)
  have hkB := heap_alloc_new w3 (.cells #[.int .i64 ya, .int .i64 yn, .int .i64 yb, .int .i64 ym, .string xh, .slice a3 l3 c3] 37)
  have hKB := (hbB.block H (lt_of_heap HK3.out)).trans HK3.out
  have q0 := cell_of_blk hKB 0
  have q1 := cell_of_blk hKB 1
  have q2 := cell_of_blk hKB 2
  have q3 := cell_of_blk hKB 3
  have q4 := cell_of_blk hKB 4
  have q5 := cell_of_blk hKB 5
  go_wp2_with fail
  clear q0 q1 q2 q3 q4 q5 e4 hbA
  obtain ⟨A, hA⟩ : ∃ A, A = w3.heap.size := ⟨_, rfl⟩
  rw [← hA] at hkB ⊢
  have HB4 := hid (HB3.out.trans (hbB.mono HB3.out.size))
  have HR4 := hid (HR3.out.below hbB)
  have HK4 := hid hKB
  have HA4 := hid hkB
  clear hA hbB hkB hKB HB3 HR3 HK3
  generalize w3.alloc (.cells #[.int .i64 ya, .int .i64 yn, .int .i64 yb, .int .i64 ym, .string xh, .slice a3 l3 c3] 37) = w4 at HB4 HR4 HK4 HA4 ⊢
  refine (HC2.out w4 HB4.out).mono ?_
  rintro e w5 ⟨v5, rfl, hO5, hb5⟩
  obtain ⟨a5, c5, e5⟩ := own_shape hO5
  obtain ⟨l5, hl5⟩ : ∃ l5, l5 = zr.length := ⟨_, rfl⟩
  rw [← hl5] at e5
  subst e5
  have HL5 := hid hl5
  have HZ5 := hid (own_rd hO5)
  have HB5 := hid (HB4.out.trans (hb5.mono HB4.out.size))
  have HR5 := hid (HR4.out.below hb5)
  have HA5 := hid ((hb5.block A (lt_of_heap HA4.out)).trans HA4.out)
  clear hO5 hb5 hl5 HC2 HB4 HR4 HK4 HA4
  have hbD := (Below.refl w5.heap.size w5).alloc (Nat.le_refl _) (.cells #[.int .i64 za, .int .i64 zn, .int .i64 zb, .int .i64 zm, .string zh, .slice a5 l5 c5] 37)
  have hkD := heap_alloc_new w5 (.cells #[.int .i64 za, .int .i64 zn, .int .i64 zb, .int .i64 zm, .string zh, .slice a5 l5 c5] 37)
  have hAD := (hbD.block A (lt_of_heap HA5.out)).trans HA5.out
  have q0 := cell_of_blk hAD 0
  have q1 := cell_of_blk hAD 1
  have q2 := cell_of_blk hAD 2
  have q3 := cell_of_blk hAD 3
  have q4 := cell_of_blk hAD 4
  have q5 := cell_of_blk hAD 5
  go_wp2_with fail
  clear q0 q1 q2 q3 q4 q5
  obtain ⟨D, hD⟩ : ∃ D, D = w5.heap.size := ⟨_, rfl⟩
  rw [← hD] at hkD ⊢
  have HB6 := hid (HB5.out.trans (hbD.mono HB5.out.size))
  have HR6 := hid (HR5.out.below hbD)
  have HZ6 := hid (HZ5.out.below hbD)
  have HA6 := hid hAD
  have HD6 := hid hkD
  clear hD hbD hkD hAD HB5 HR5 HZ5 HA5
  generalize w5.alloc (.cells #[.int .i64 za, .int .i64 zn, .int .i64 zb, .int .i64 zm, .string zh, .slice a5 l5 c5] 37) = w6 at HB6 HR6 HZ6 HA6 HD6 ⊢
  refine (HV1.out w6 _ (by show RdX _ _ yr.length _; rw [← HL3.out] at HR6 ⊢; exact HR6.out)).mono ?_
  rintro e w7 ⟨rfl, hb7⟩
  have HB7 := hid (HB6.out.trans (hb7.mono HB6.out.size))
  clear hb7
  go_wp2_with fail
  go_ret2
  exact ⟨_, rfl, (OwnH.nil _ w.heap.size).rd, HB7.out⟩
set_option maxHeartbeats 2000000 in
set_option maxRecDepth 100000 in
theorem rsplit_4 {w : World} {h : Hk} {v : Value} {k : Nat} (hv : RdW w v h.rows) (hA : ArgS v) (hz : SzH h) (hk : 1 ≤ k ∧ k < h.rows.length) (hvl : Hu.vld h = true) (hv1 : Hu.vld { cutP h 0 k with head := h.head } = true) (hv2 : Hu.vld (cutP h k h.rows.length) = false) :
    Calls Tryz.prog 19 #[HkV h v, .int .i64 k] w fun e w' => ∃ v', e = .returned (.tuple #[v', .int .i64 100]) ∧ RdH w' v' [] ∧ Below w.heap.size w w' := by
  have HVA := hid (fun w1 (hb : Below w.heap.size w w1) => rValid_any (h := h) (hv.below hb) hz)
  rw [show vldN h = 0 by unfold vldN; rw [hvl]; rfl] at HVA
  obtain ⟨hNs, hkd, hPQ⟩ := vld_small hvl
  have hpl := vld_pl hvl
  have HC1 := hid (fun w1 (hb : Below w.heap.size w w1) => rCut_any (f := 0) (t := k) (h := h) (hv.below hb) hA hz.1 hPQ hpl (by omega) (by omega))
  have HC2 := hid (fun w1 (hb : Below w.heap.size w w1) => rCut_any (f := k) (t := h.rows.length) (h := h) (hv.below hb) hA hz.1 hPQ hpl (by omega) (by omega))
  have hz1 : SzH { cutP h 0 k with head := h.head } := ⟨(cutP_sz (f := 0) (t := k) hz).1, (cutP_sz (f := 0) (t := k) hz).2.1, hz.2.2⟩
  have HV1 := hid (fun w1 v1 (hr : RdW w1 v1 (cutP h 0 k).rows) => rValid_any (h := { cutP h 0 k with head := h.head }) hr hz1)
  rw [show vldN { cutP h 0 k with head := h.head } = 0 by unfold vldN; rw [hv1]; rfl] at HV1
  have HV2 := hid (fun w1 v1 (hr : RdW w1 v1 (cutP h k h.rows.length).rows) => rValid_any (h := cutP h k h.rows.length) hr (cutP_sz hz))
  rw [show vldN (cutP h k h.rows.length) = 100 by unfold vldN; rw [hv2]; rfl] at HV2
  clear hv2
  clear hv1 hz1
  generalize cutP h 0 k = X1 at HC1 HV1
  generalize cutP h k h.rows.length = X2 at HC2 HV2
  obtain ⟨av, cv, rfl⟩ := hv.shape
  obtain ⟨ya, yn, yb, ym, yh, yr⟩ := X1
  obtain ⟨za, zn, zb, zm, zh, zr⟩ := X2
  obtain ⟨xa, xn, xb, xm, xh, xr⟩ := h
  dsimp only at *
  unfold HkV at HVA HC1 HC2 HV1 HV2 ⊢
  dsimp only at *
  have hN0 := hz.1
  dsimp only at hN0
  obtain ⟨N, hN⟩ : ∃ N, N = xr.length := ⟨_, rfl⟩
  rw [← hN] at hk hN0 hNs HVA HC1 HC2 ⊢
  have hbH := (Below.refl w.heap.size w).alloc (Nat.le_refl _) (.cells #[.int .i64 xa, .int .i64 xn, .int .i64 xb, .int .i64 xm, .string xh, .slice av N cv] 37)
  have hkH := heap_alloc_new w (.cells #[.int .i64 xa, .int .i64 xn, .int .i64 xb, .int .i64 xm, .string xh, .slice av N cv] 37)
  have i1 : IntKind.i64.wrap ((N : Int) - 1) = (N : Int) - 1 := wrapOk (by omega) (by omega)
  have h3 : ¬ (k : Int) < 1 := by omega
  have h4 : ¬ (N : Int) - 1 < (k : Int) := by omega
  clear hv hz hN hk hvl hpl hPQ hkd hA
  go_enter Tryz.func19, Tryz.ntmps19
  have q0 := cell_of_blk hkH 0
  have q1 := cell_of_blk hkH 1
  have q2 := cell_of_blk hkH 2
  have q3 := cell_of_blk hkH 3
  have q4 := cell_of_blk hkH 4
  have q5 := cell_of_blk hkH 5
  go_wp2_with fail
  clear q0 q1 q2 q3 q4 q5
  obtain ⟨H, hH⟩ : ∃ H, H = w.heap.size := ⟨_, rfl⟩
  have HH := hid hH
  rw [← hH] at hkH ⊢
  generalize w.alloc (.cells #[.int .i64 xa, .int .i64 xn, .int .i64 xb, .int .i64 xm, .string xh, .slice av N cv] 37) = w1 at hbH hkH ⊢
  have HB1 := hid hbH
  have HK1 := hid hkH
  clear hH hbH hkH
  refine (HVA.out w1 HB1.out).mono ?_
  rintro e w2 ⟨rfl, hb2⟩
  have HB2 := hid (HB1.out.trans (hb2.mono HB1.out.size))
  have HK2 := hid ((hb2.block H (lt_of_heap HK1.out)).trans HK1.out)
  clear hb2 HVA HB1 HK1
  have q0 : w2.cell? ⟨H, 0, none⟩ = some (.int .i64 xa) := cell_of_blk HK2.out 0
  have q1 : w2.cell? ⟨H, 1, none⟩ = some (.int .i64 xn) := cell_of_blk HK2.out 1
  have q2 : w2.cell? ⟨H, 2, none⟩ = some (.int .i64 xb) := cell_of_blk HK2.out 2
  have q3 : w2.cell? ⟨H, 3, none⟩ = some (.int .i64 xm) := cell_of_blk HK2.out 3
  have q4 : w2.cell? ⟨H, 4, none⟩ = some (.string xh) := cell_of_blk HK2.out 4
  have q5 : w2.cell? ⟨H, 5, none⟩ = some (.slice av N cv) := cell_of_blk HK2.out 5
  go_wp2_with fail
  refine (HC1.out w2 HB2.out).mono ?_
  rintro e w3 ⟨v3, rfl, hO3, hb3⟩
  obtain ⟨a3, c3, e3⟩ := own_shape hO3
  obtain ⟨l3, hl3⟩ : ∃ l3, l3 = yr.length := ⟨_, rfl⟩
  rw [← hl3] at e3
  subst e3
  have HL3 := hid hl3
  have HR3 := hid (own_rd hO3)
  have HB3 := hid (HB2.out.trans (hb3.mono HB2.out.size))
  have HK3 := hid ((hb3.block H (lt_of_heap HK2.out)).trans HK2.out)
  clear hO3 hb3 hl3 q0 q1 q2 q3 q4 q5 HC1 HB2 HK2
  have hbA := (Below.refl w3.heap.size w3).alloc (Nat.le_refl _) (.cells #[.int .i64 ya, .int .i64 yn, .int .i64 yb, .int .i64 ym, .string yh, .slice a3 l3 c3] 37)
  have e4 := cell_of_blk ((hbA.block H (lt_of_heap HK3.out)).trans HK3.out) 4
  have hbB := (Below.refl w3.heap.size w3).alloc (Nat.le_refl _) (.cells #[.int .i64 ya, .int .i64 yn, .int .i64 yb, .int .i64 ym, .string xh, .slice a3 l3 c3] 37)
  have hkB := heap_alloc_new w3 (.cells #[.int .i64 ya, .int .i64 yn, .int .i64 yb, .int .i64 ym, .string xh, .slice a3 l3 c3] 37)
  have hKB := (hbB.block H (lt_of_heap HK3.out)).trans HK3.out
  have q0 := cell_of_blk hKB 0
  have q1 := cell_of_blk hKB 1
  have q2 := cell_of_blk hKB 2
  have q3 := cell_of_blk hKB 3
  have q4 := cell_of_blk hKB 4
  have q5 := cell_of_blk hKB 5
  go_wp2_with fail
  clear q0 q1 q2 q3 q4 q5 e4 hbA
  obtain ⟨A, hA⟩ : ∃ A, A = w3.heap.size := ⟨_, rfl⟩
  rw [← hA] at hkB ⊢
  have HB4 := hid (HB3.out.trans (hbB.mono HB3.out.size))
  have HR4 := hid (HR3.out.below hbB)
  have HK4 := hid hKB
  have HA4 := hid hkB
  clear hA hbB hkB hKB HB3 HR3 HK3
  generalize w3.alloc (.cells #[.int .i64 ya, .int .i64 yn, .int .i64 yb, .int .i64 ym, .string xh, .slice a3 l3 c3] 37) = w4 at HB4 HR4 HK4 HA4 ⊢
  refine (HC2.out w4 HB4.out).mono ?_
  rintro e w5 ⟨v5, rfl, hO5, hb5⟩
  obtain ⟨a5, c5, e5⟩ := own_shape hO5
  obtain ⟨l5, hl5⟩ : ∃ l5, l5 = zr.length := ⟨_, rfl⟩
  rw [← hl5] at e5
  subst e5
  have HL5 := hid hl5
  have HZ5 := hid (own_rd hO5)
  have HB5 := hid (HB4.out.trans (hb5.mono HB4.out.size))
  have HR5 := hid (HR4.out.below hb5)
  have HA5 := hid ((hb5.block A (lt_of_heap HA4.out)).trans HA4.out)
  clear hO5 hb5 hl5 HC2 HB4 HR4 HK4 HA4
  have hbD := (Below.refl w5.heap.size w5).alloc (Nat.le_refl _) (.cells #[.int .i64 za, .int .i64 zn, .int .i64 zb, .int .i64 zm, .string zh, .slice a5 l5 c5] 37)
  have hkD := heap_alloc_new w5 (.cells #[.int .i64 za, .int .i64 zn, .int .i64 zb, .int .i64 zm, .string zh, .slice a5 l5 c5] 37)
  have hAD := (hbD.block A (lt_of_heap HA5.out)).trans HA5.out
  have q0 := cell_of_blk hAD 0
  have q1 := cell_of_blk hAD 1
  have q2 := cell_of_blk hAD 2
  have q3 := cell_of_blk hAD 3
  have q4 := cell_of_blk hAD 4
  have q5 := cell_of_blk hAD 5
  go_wp2_with fail
  clear q0 q1 q2 q3 q4 q5
  obtain ⟨D, hD⟩ : ∃ D, D = w5.heap.size := ⟨_, rfl⟩
  rw [← hD] at hkD ⊢
  have HB6 := hid (HB5.out.trans (hbD.mono HB5.out.size))
  have HR6 := hid (HR5.out.below hbD)
  have HZ6 := hid (HZ5.out.below hbD)
  have HA6 := hid hAD
  have HD6 := hid hkD
  clear hD hbD hkD hAD HB5 HR5 HZ5 HA5
  generalize w5.alloc (.cells #[.int .i64 za, .int .i64 zn, .int .i64 zb, .int .i64 zm, .string zh, .slice a5 l5 c5] 37) = w6 at HB6 HR6 HZ6 HA6 HD6 ⊢
  refine (HV1.out w6 _ (by show RdX _ _ yr.length _; rw [← HL3.out] at HR6 ⊢; exact HR6.out)).mono ?_
  rintro e w7 ⟨rfl, hb7⟩
  have HB7 := hid (HB6.out.trans (hb7.mono HB6.out.size))
  have HR7 := hid (HR6.out.below hb7)
  have HZ7 := hid (HZ6.out.below hb7)
  have HA7 := hid ((hb7.block A (lt_of_heap HA6.out)).trans HA6.out)
  have HD7 := hid ((hb7.block D (lt_of_heap HD6.out)).trans HD6.out)
  clear hb7
  have q0 : w7.cell? ⟨D, 0, none⟩ = some (.int .i64 za) := cell_of_blk HD7.out 0
  have q1 : w7.cell? ⟨D, 1, none⟩ = some (.int .i64 zn) := cell_of_blk HD7.out 1
  have q2 : w7.cell? ⟨D, 2, none⟩ = some (.int .i64 zb) := cell_of_blk HD7.out 2
  have q3 : w7.cell? ⟨D, 3, none⟩ = some (.int .i64 zm) := cell_of_blk HD7.out 3
  have q4 : w7.cell? ⟨D, 4, none⟩ = some (.string zh) := cell_of_blk HD7.out 4
  have q5 : w7.cell? ⟨D, 5, none⟩ = some (.slice a5 l5 c5) := cell_of_blk HD7.out 5
  go_wp2_with fail
  clear q0 q1 q2 q3 q4 q5
  refine (HV2.out w7 _ (by show RdX _ _ zr.length _; rw [← HL5.out] at HZ7 ⊢; exact HZ7.out)).mono ?_
  rintro e w8 ⟨rfl, hb8⟩
  have HB8 := hid (HB7.out.trans (hb8.mono HB7.out.size))
  clear hb8
  go_wp2_with fail
  go_ret2
  exact ⟨_, rfl, (OwnH.nil _ w.heap.size).rd, HB8.out⟩
set_option maxHeartbeats 2000000 in
set_option maxRecDepth 100000 in
theorem rsplit_5 {w : World} {h : Hk} {v : Value} {k : Nat} (hv : RdW w v h.rows) (hA : ArgS v) (hz : SzH h) (hk : 1 ≤ k ∧ k < h.rows.length) (hvl : Hu.vld h = true) (hv1 : Hu.vld { cutP h 0 k with head := h.head } = true) (hv2 : Hu.vld (cutP h k h.rows.length) = true) :
    Calls Tryz.prog 19 #[HkV h v, .int .i64 k] w fun e w' => ∃ v', e = .returned (.tuple #[v', .int .i64 0]) ∧ RdH w' v' [{ cutP h 0 k with head := h.head }, cutP h k h.rows.length] ∧ Below w.heap.size w w' := by
  have HVA := hid (fun w1 (hb : Below w.heap.size w w1) => rValid_any (h := h) (hv.below hb) hz)
  rw [show vldN h = 0 by unfold vldN; rw [hvl]; rfl] at HVA
  obtain ⟨hNs, hkd, hPQ⟩ := vld_small hvl
  have hpl := vld_pl hvl
  have HC1 := hid (fun w1 (hb : Below w.heap.size w w1) => rCut_any (f := 0) (t := k) (h := h) (hv.below hb) hA hz.1 hPQ hpl (by omega) (by omega))
  have HC2 := hid (fun w1 (hb : Below w.heap.size w w1) => rCut_any (f := k) (t := h.rows.length) (h := h) (hv.below hb) hA hz.1 hPQ hpl (by omega) (by omega))
  have hz1 : SzH { cutP h 0 k with head := h.head } := ⟨(cutP_sz (f := 0) (t := k) hz).1, (cutP_sz (f := 0) (t := k) hz).2.1, hz.2.2⟩
  have HV1 := hid (fun w1 v1 (hr : RdW w1 v1 (cutP h 0 k).rows) => rValid_any (h := { cutP h 0 k with head := h.head }) hr hz1)
  rw [show vldN { cutP h 0 k with head := h.head } = 0 by unfold vldN; rw [hv1]; rfl] at HV1
  have HV2 := hid (fun w1 v1 (hr : RdW w1 v1 (cutP h k h.rows.length).rows) => rValid_any (h := cutP h k h.rows.length) hr (cutP_sz hz))
  rw [show vldN (cutP h k h.rows.length) = 0 by unfold vldN; rw [hv2]; rfl] at HV2
  clear hv2
  clear hv1 hz1
  generalize cutP h 0 k = X1 at HC1 HV1 ⊢
  generalize cutP h k h.rows.length = X2 at HC2 HV2 ⊢
  obtain ⟨av, cv, rfl⟩ := hv.shape
  obtain ⟨ya, yn, yb, ym, yh, yr⟩ := X1
  obtain ⟨za, zn, zb, zm, zh, zr⟩ := X2
  obtain ⟨xa, xn, xb, xm, xh, xr⟩ := h
  dsimp only at *
  unfold HkV at HVA HC1 HC2 HV1 HV2 ⊢
  dsimp only at *
  have hN0 := hz.1
  dsimp only at hN0
  obtain ⟨N, hN⟩ : ∃ N, N = xr.length := ⟨_, rfl⟩
  rw [← hN] at hk hN0 hNs HVA HC1 HC2 ⊢
  have hbH := (Below.refl w.heap.size w).alloc (Nat.le_refl _) (.cells #[.int .i64 xa, .int .i64 xn, .int .i64 xb, .int .i64 xm, .string xh, .slice av N cv] 37)
  have hkH := heap_alloc_new w (.cells #[.int .i64 xa, .int .i64 xn, .int .i64 xb, .int .i64 xm, .string xh, .slice av N cv] 37)
  have i1 : IntKind.i64.wrap ((N : Int) - 1) = (N : Int) - 1 := wrapOk (by omega) (by omega)
  have h3 : ¬ (k : Int) < 1 := by omega
  have h4 : ¬ (N : Int) - 1 < (k : Int) := by omega
  clear hv hz hN hk hvl hpl hPQ hkd hA
  go_enter Tryz.func19, Tryz.ntmps19
  have q0 := cell_of_blk hkH 0
  have q1 := cell_of_blk hkH 1
  have q2 := cell_of_blk hkH 2
  have q3 := cell_of_blk hkH 3
  have q4 := cell_of_blk hkH 4
  have q5 := cell_of_blk hkH 5
  go_wp2_with fail
  clear q0 q1 q2 q3 q4 q5
  obtain ⟨H, hH⟩ : ∃ H, H = w.heap.size := ⟨_, rfl⟩
  have HH := hid hH
  rw [← hH] at hkH ⊢
  generalize w.alloc (.cells #[.int .i64 xa, .int .i64 xn, .int .i64 xb, .int .i64 xm, .string xh, .slice av N cv] 37) = w1 at hbH hkH ⊢
  have HB1 := hid hbH
  have HK1 := hid hkH
  clear hH hbH hkH
  refine (HVA.out w1 HB1.out).mono ?_
  rintro e w2 ⟨rfl, hb2⟩
  have HB2 := hid (HB1.out.trans (hb2.mono HB1.out.size))
  have HK2 := hid ((hb2.block H (lt_of_heap HK1.out)).trans HK1.out)
  clear hb2 HVA HB1 HK1
  have q0 : w2.cell? ⟨H, 0, none⟩ = some (.int .i64 xa) := cell_of_blk HK2.out 0
  have q1 : w2.cell? ⟨H, 1, none⟩ = some (.int .i64 xn) := cell_of_blk HK2.out 1
  have q2 : w2.cell? ⟨H, 2, none⟩ = some (.int .i64 xb) := cell_of_blk HK2.out 2
  have q3 : w2.cell? ⟨H, 3, none⟩ = some (.int .i64 xm) := cell_of_blk HK2.out 3
  have q4 : w2.cell? ⟨H, 4, none⟩ = some (.string xh) := cell_of_blk HK2.out 4
  have q5 : w2.cell? ⟨H, 5, none⟩ = some (.slice av N cv) := cell_of_blk HK2.out 5
  go_wp2_with fail
  refine (HC1.out w2 HB2.out).mono ?_
  rintro e w3 ⟨v3, rfl, hO3, hb3⟩
  obtain ⟨a3, c3, e3⟩ := own_shape hO3
  obtain ⟨l3, hl3⟩ : ∃ l3, l3 = yr.length := ⟨_, rfl⟩
  rw [← hl3] at e3
  subst e3
  have HL3 := hid hl3
  have HR3 := hid (own_rd hO3)
  have HB3 := hid (HB2.out.trans (hb3.mono HB2.out.size))
  have HK3 := hid ((hb3.block H (lt_of_heap HK2.out)).trans HK2.out)
  clear hO3 hb3 hl3 q0 q1 q2 q3 q4 q5 HC1 HB2 HK2
  have hbA := (Below.refl w3.heap.size w3).alloc (Nat.le_refl _) (.cells #[.int .i64 ya, .int .i64 yn, .int .i64 yb, .int .i64 ym, .string yh, .slice a3 l3 c3] 37)
  have e4 := cell_of_blk ((hbA.block H (lt_of_heap HK3.out)).trans HK3.out) 4
  have hbB := (Below.refl w3.heap.size w3).alloc (Nat.le_refl _) (.cells #[.int .i64 ya, .int .i64 yn, .int .i64 yb, .int .i64 ym, .string xh, .slice a3 l3 c3] 37)
  have hkB := heap_alloc_new w3 (.cells #[.int .i64 ya, .int .i64 yn, .int .i64 yb, .int .i64 ym, .string xh, .slice a3 l3 c3] 37)
  have hKB := (hbB.block H (lt_of_heap HK3.out)).trans HK3.out
  have q0 := cell_of_blk hKB 0
  have q1 := cell_of_blk hKB 1
  have q2 := cell_of_blk hKB 2
  have q3 := cell_of_blk hKB 3
  have q4 := cell_of_blk hKB 4
  have q5 := cell_of_blk hKB 5
  go_wp2_with fail
  clear q0 q1 q2 q3 q4 q5 e4 hbA
  obtain ⟨A, hA⟩ : ∃ A, A = w3.heap.size := ⟨_, rfl⟩
  rw [← hA] at hkB ⊢
  have HB4 := hid (HB3.out.trans (hbB.mono HB3.out.size))
  have HR4 := hid (HR3.out.below hbB)
  have HK4 := hid hKB
  have HA4 := hid hkB
  clear hA hbB hkB hKB HB3 HR3 HK3
  generalize w3.alloc (.cells #[.int .i64 ya, .int .i64 yn, .int .i64 yb, .int .i64 ym, .string xh, .slice a3 l3 c3] 37) = w4 at HB4 HR4 HK4 HA4 ⊢
  refine (HC2.out w4 HB4.out).mono ?_
  rintro e w5 ⟨v5, rfl, hO5, hb5⟩
  obtain ⟨a5, c5, e5⟩ := own_shape hO5
  obtain ⟨l5, hl5⟩ : ∃ l5, l5 = zr.length := ⟨_, rfl⟩
  rw [← hl5] at e5
  subst e5
  have HL5 := hid hl5
  have HZ5 := hid (own_rd hO5)
  have HB5 := hid (HB4.out.trans (hb5.mono HB4.out.size))
  have HR5 := hid (HR4.out.below hb5)
  have HA5 := hid ((hb5.block A (lt_of_heap HA4.out)).trans HA4.out)
  clear hO5 hb5 hl5 HC2 HB4 HR4 HK4 HA4
  have hbD := (Below.refl w5.heap.size w5).alloc (Nat.le_refl _) (.cells #[.int .i64 za, .int .i64 zn, .int .i64 zb, .int .i64 zm, .string zh, .slice a5 l5 c5] 37)
  have hkD := heap_alloc_new w5 (.cells #[.int .i64 za, .int .i64 zn, .int .i64 zb, .int .i64 zm, .string zh, .slice a5 l5 c5] 37)
  have hAD := (hbD.block A (lt_of_heap HA5.out)).trans HA5.out
  have q0 := cell_of_blk hAD 0
  have q1 := cell_of_blk hAD 1
  have q2 := cell_of_blk hAD 2
  have q3 := cell_of_blk hAD 3
  have q4 := cell_of_blk hAD 4
  have q5 := cell_of_blk hAD 5
  go_wp2_with fail
  clear q0 q1 q2 q3 q4 q5
  obtain ⟨D, hD⟩ : ∃ D, D = w5.heap.size := ⟨_, rfl⟩
  rw [← hD] at hkD ⊢
  have HB6 := hid (HB5.out.trans (hbD.mono HB5.out.size))
  have HR6 := hid (HR5.out.below hbD)
  have HZ6 := hid (HZ5.out.below hbD)
  have HA6 := hid hAD
  have HD6 := hid hkD
  clear hD hbD hkD hAD HB5 HR5 HZ5 HA5
  generalize w5.alloc (.cells #[.int .i64 za, .int .i64 zn, .int .i64 zb, .int .i64 zm, .string zh, .slice a5 l5 c5] 37) = w6 at HB6 HR6 HZ6 HA6 HD6 ⊢
  refine (HV1.out w6 _ (by show RdX _ _ yr.length _; rw [← HL3.out] at HR6 ⊢; exact HR6.out)).mono ?_
  rintro e w7 ⟨rfl, hb7⟩
  have HB7 := hid (HB6.out.trans (hb7.mono HB6.out.size))
  have HR7 := hid (HR6.out.below hb7)
  have HZ7 := hid (HZ6.out.below hb7)
  have HA7 := hid ((hb7.block A (lt_of_heap HA6.out)).trans HA6.out)
  have HD7 := hid ((hb7.block D (lt_of_heap HD6.out)).trans HD6.out)
  clear hb7
  have q0 : w7.cell? ⟨D, 0, none⟩ = some (.int .i64 za) := cell_of_blk HD7.out 0
  have q1 : w7.cell? ⟨D, 1, none⟩ = some (.int .i64 zn) := cell_of_blk HD7.out 1
  have q2 : w7.cell? ⟨D, 2, none⟩ = some (.int .i64 zb) := cell_of_blk HD7.out 2
  have q3 : w7.cell? ⟨D, 3, none⟩ = some (.int .i64 zm) := cell_of_blk HD7.out 3
  have q4 : w7.cell? ⟨D, 4, none⟩ = some (.string zh) := cell_of_blk HD7.out 4
  have q5 : w7.cell? ⟨D, 5, none⟩ = some (.slice a5 l5 c5) := cell_of_blk HD7.out 5
  go_wp2_with fail
  clear q0 q1 q2 q3 q4 q5
  refine (HV2.out w7 _ (by show RdX _ _ zr.length _; rw [← HL5.out] at HZ7 ⊢; exact HZ7.out)).mono ?_
  rintro e w8 ⟨rfl, hb8⟩
  have HB8 := hid (HB7.out.trans (hb8.mono HB7.out.size))
  have HR8 := hid (HR7.out.below hb8)
  have HZ8 := hid (HZ7.out.below hb8)
  have HA8 := hid ((hb8.block A (lt_of_heap HA7.out)).trans HA7.out)
  have HD8 := hid ((hb8.block D (lt_of_heap HD7.out)).trans HD7.out)
  clear hb8
  have q0 : w8.cell? ⟨A, 0, none⟩ = some (.int .i64 ya) := cell_of_blk HA8.out 0
  have q1 : w8.cell? ⟨A, 1, none⟩ = some (.int .i64 yn) := cell_of_blk HA8.out 1
  have q2 : w8.cell? ⟨A, 2, none⟩ = some (.int .i64 yb) := cell_of_blk HA8.out 2
  have q3 : w8.cell? ⟨A, 3, none⟩ = some (.int .i64 ym) := cell_of_blk HA8.out 3
  have q4 : w8.cell? ⟨A, 4, none⟩ = some (.string xh) := cell_of_blk HA8.out 4
  have q5 : w8.cell? ⟨A, 5, none⟩ = some (.slice a3 l3 c3) := cell_of_blk HA8.out 5
  have p0 : w8.cell? ⟨D, 0, none⟩ = some (.int .i64 za) := cell_of_blk HD8.out 0
  have p1 : w8.cell? ⟨D, 1, none⟩ = some (.int .i64 zn) := cell_of_blk HD8.out 1
  have p2 : w8.cell? ⟨D, 2, none⟩ = some (.int .i64 zb) := cell_of_blk HD8.out 2
  have p3 : w8.cell? ⟨D, 3, none⟩ = some (.int .i64 zm) := cell_of_blk HD8.out 3
  have p4 : w8.cell? ⟨D, 4, none⟩ = some (.string zh) := cell_of_blk HD8.out 4
  have p5 : w8.cell? ⟨D, 5, none⟩ = some (.slice a5 l5 c5) := cell_of_blk HD8.out 5
  have hbE := (Below.refl w8.heap.size w8).alloc (Nat.le_refl _) (.cells #[.int .i64 ya, .int .i64 yn, .int .i64 yb, .int .i64 ym, .string xh, .slice a3 l3 c3, .int .i64 za, .int .i64 zn, .int .i64 zb, .int .i64 zm, .string zh, .slice a5 l5 c5] 37)
  have hkE := heap_alloc_new w8 (.cells #[.int .i64 ya, .int .i64 yn, .int .i64 yb, .int .i64 ym, .string xh, .slice a3 l3 c3, .int .i64 za, .int .i64 zn, .int .i64 zb, .int .i64 zm, .string zh, .slice a5 l5 c5] 37)
  have HBE := hid hbE
  have HKE := hid hkE
  clear hbE hkE
  go_wp2_with fail
  go_ret2
  refine ⟨_, rfl, lit2H (x1 := ⟨ya, yn, yb, ym, xh, yr⟩) (x2 := ⟨za, zn, zb, zm, zh, zr⟩) HKE.out ?_ ?_, HB8.out.trans (HBE.out.mono HB8.out.size)⟩
  · have h := HR8.out.below HBE.out
    show RdX _ _ yr.length _
    rw [← HL3.out] at h ⊢
    exact h
  · have h := HZ8.out.below HBE.out
    show RdX _ _ zr.length _
    rw [← HL5.out] at h ⊢
    exact h
theorem rSplit_any {w : World} {h : Hk} {v : Value} {k : Int} (hv : RdW w v h.rows) (hA : ArgS v) (hz : SzH h) :
    Calls Tryz.prog 19 #[HkV h v, .int .i64 k] w fun e w' => ∃ v', e = .returned (.tuple #[v', .int .i64 (splN h k : Nat)]) ∧ RdH w' v' (splA h k) ∧ Below w.heap.size w w' := by
  by_cases hk : 1 ≤ k ∧ k ≤ (h.rows.length : Int) - 1
  · obtain ⟨n, rfl⟩ := Int.eq_ofNat_of_zero_le (a := k) (by omega)
    have hk2 : 1 ≤ n ∧ n < h.rows.length := by omega
    cases hvl : Hu.vld h with
    | false =>
      have e1 : splN h (n : Int) = 100 := by unfold splN; rw [if_pos hk, hvl]; rfl
      unfold splA
      rw [e1]
      exact (rsplit_2 hv hz hk2 hvl).mono (fun e w' ⟨h1, h2⟩ => ⟨_, h1, (OwnH.nil _ w.heap.size).rd, h2⟩)
    | true =>
      have e1 : splN h (n : Int) = if (splL h n).all Hu.vld then 0 else 100 := by unfold splN; rw [if_pos hk, hvl]; rfl
      have e2 : splA h (n : Int) = if (splL h n).all Hu.vld then splL h n else [] := by
        unfold splA
        rw [e1]
        cases (splL h n).all Hu.vld <;> rfl
      have e3 : (splL h n).all Hu.vld = (Hu.vld { cutP h 0 n with head := h.head } && (Hu.vld (cutP h n h.rows.length) && true)) := rfl
      rw [e1, e2, e3]
      cases hv1 : Hu.vld { cutP h 0 n with head := h.head } with
      | false => exact rsplit_3 hv hA hz hk2 hvl hv1
      | true =>
        cases hv2 : Hu.vld (cutP h n h.rows.length) with
        | false => exact rsplit_4 hv hA hz hk2 hvl hv1 hv2
        | true => exact rsplit_5 hv hA hz hk2 hvl hv1 hv2
  · have e1 : splN h k = 1 := by unfold splN; rw [if_neg hk]
    unfold splA
    rw [e1]
    exact (rsplit_1 hv hz hk).mono (fun e w' ⟨h1, h2⟩ => ⟨_, h1, (OwnH.nil _ w.heap.size).rd, h2⟩)
end Go.Proofs.YtddmfdjkkikapaaGreatDoor
