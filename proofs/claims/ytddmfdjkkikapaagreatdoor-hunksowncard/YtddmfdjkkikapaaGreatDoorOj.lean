/-
  Named: it comes back with hunks of its own (wip/genoj.py).
-/
import Derived.Test.YtddmfdjkkikapaaGreatDoorOi
import Derived.Test.YtddmfdjkkikapaaGreatDoorGrMa
namespace Go.Proofs.YtddmfdjkkikapaaGreatDoor
open Go.RowKit
open Hu (Rw Hk)

set_option maxHeartbeats 4000000 in
set_option maxRecDepth 100000 in
theorem named_some {w : World} {v va : Value} {l : List Hk} {a : List ByteArray} (hv : RdH w v l) (ha : RdT w va a) (hl : l.length ≤ 4294967296) (hz : ∀ h ∈ l, SzH h ∧ h.rows ≠ [] ∧ h.a ≤ 9223372036854775807) (hla : a.length < 8796093022200) (hsa : ∀ x ∈ a, x.size ≤ maxLen) (hm : MxV w) :
    Calls Tryz.prog 23 #[v, va] w fun e w' => ∃ v' hs, e = .returned v' ∧ OwnH w' w.heap.size v' hs ∧ (hs.length = l.length ∧ ∀ x ∈ hs, x.rows.length < 5864062014800) ∧ Below w.heap.size w w' := by
  obtain ⟨av, cv, rfl⟩ := hv.shape
  obtain ⟨aa, ca, rfl⟩ := ha.shape
  have HV := hid hv
  have HA := hid ha
  have HZ := hid hz
  have HSA := hid hsa
  have HM := hid hm
  have HHS := hid (headings_some ha hla)
  obtain ⟨n, hn⟩ : ∃ n, n = l.length := ⟨_, rfl⟩
  obtain ⟨L, hL⟩ : ∃ L, L = a.length := ⟨_, rfl⟩
  have HN := hid hn
  have HL := hid hL
  rw [← hn] at hl ⊢
  rw [← hL] at hla HHS ⊢
  obtain ⟨CM, hCM, hCO⟩ := mkH2 n hl
  have HCO := hid hCO
  clear hv ha hz hsa hm hn hL hCO
  go_enter Tryz.func23, Tryz.ntmps23
  go_wp2_with fail
  refine HHS.out.mono ?_
  rintro e w1 ⟨vp, ps, rfl, hOP, hps, hpl, hb1⟩
  obtain ⟨pa, pc, ep⟩ := own_shape hOP
  obtain ⟨np, hnp⟩ : ∃ np, np = ps.length := ⟨_, rfl⟩
  rw [← hnp] at ep hpl
  subst ep
  have HNP := hid hnp
  have HRP : Hid (RdI w1 (.slice pa np pc) ps) := hid (by have h := own_rd hOP; exact h)
  have HPS := hid hps
  have HB1 := hid hb1
  obtain ⟨B1, hB1⟩ : ∃ B1, B1 = w1.heap.size := ⟨_, rfl⟩
  obtain ⟨G, hG⟩ : ∃ G, G = w1.heap.size := ⟨_, rfl⟩
  have hbM := (Below.refl w1.heap.size w1).alloc (Nat.le_refl _) (.cells CM 37)
  have HM2 := hid hbM
  have HO2 : Hid (OwnH (w1.alloc (.cells CM 37)) B1 (.slice (some ⟨G, 0, none⟩) n n) (List.replicate n zH)) := hid (by rw [hB1, hG]; exact HCO.out w1)
  have hsz2 := alloc_one w1 (.cells CM 37)
  clear hOP hps hnp hb1 hbM
  go_wp2_with fail
  rw [← hG]
  have HGE : Hid (w1.heap.size ≤ G) := hid (by omega)
  have HGL : Hid (G < (w1.alloc (.cells CM 37)).heap.size) := hid (by omega)
  have HBB : Hid (B1 = w1.heap.size) := hid hB1
  generalize w1.alloc (.cells CM 37) = w2 at HM2 HO2 HGL hsz2 ⊢
  have HBW0 := hid (HB1.out.trans (HM2.out.mono HB1.out.size))
  clear hB1 hG hsz2 hCM HCO
  go_loopw [7, 8, 9, 10, 18] (fun _ _ _ _ ii wr => ∃ (k : Nat) (hs : List Hk), k ≤ n ∧ ii = .int .i64 k ∧ Hid (hs.length = n ∧ ∀ x ∈ hs, x.rows.length < 5864062014800) ∧ Hid (OwnH wr B1 (.slice (some ⟨G, 0, none⟩) n n) hs) ∧ Hid (Below w1.heap.size w1 wr)) (fun _ _ _ _ ii _ => n - (intOf ii).toNat)
  case atStart => exact ⟨0, List.replicate n zH, Nat.zero_le _, rfl, hid ⟨List.length_replicate, fun x hx => by rw [List.eq_of_mem_replicate hx]; decide⟩, HO2, HM2⟩
  case round =>
    obtain ⟨k, hs, hk, rfl, HHL, HOH, HBW⟩ := hrel
    have HGLr : Hid (G < wr.heap.size) := hid (by
      obtain ⟨cur, hcur, _⟩ := ownH_cells HOH.out
      exact lt_of_heap hcur)
    by_cases hlt : k < n
    · have HBR := hid (HB1.out.trans (HBW.out.mono HB1.out.size))
      obtain ⟨x, hx⟩ : ∃ x, l[k]? = some x := ⟨_, List.getElem?_eq_getElem (by have := HN.out; omega)⟩
      obtain ⟨b1, o1, u, e1, hb1, d0, d1, d2, d3, d4, d5, hu⟩ := rdH_at HV.out hx
      subst e1
      have HZX := hid (HZ.out x (List.mem_of_getElem? hx))
      replace d0 := (HBR.out.cell (p := ⟨b1, _, none⟩) hb1).trans d0
      replace d1 := (HBR.out.cell (p := ⟨b1, _, none⟩) hb1).trans d1
      replace d2 := (HBR.out.cell (p := ⟨b1, _, none⟩) hb1).trans d2
      replace d3 := (HBR.out.cell (p := ⟨b1, _, none⟩) hb1).trans d3
      replace d4 := (HBR.out.cell (p := ⟨b1, _, none⟩) hb1).trans d4
      replace d5 := (HBR.out.cell (p := ⟨b1, _, none⟩) hb1).trans d5
      have HU := hid (hu.below HBR.out)
      have HCL := hid (fun w5 (hb : Below wr.heap.size wr w5) => clone_any (HU.out.below hb) HZX.out.2.1 HZX.out.1.1)
      have hxa := HZX.out.2.2
      obtain ⟨ua, uc, rfl⟩ := hu.shape
      obtain ⟨xa, xn, xb, xm, xh, xr⟩ := x
      dsimp only at *
      obtain ⟨N, hN⟩ : ∃ N, N = xr.length := ⟨_, rfl⟩
      have HNX := hid hN
      rw [← hN] at d5 HCL
      obtain ⟨A', hA'⟩ : ∃ A', max xa 0 = A' := ⟨_, rfl⟩
      have HAH := hid (fun w5 => ahead_any A' xn w5 (by omega) (by omega))
      generalize Hu.plc A' xn = T at HAH
      have HBS := hid (fun w5 (hb : Below wr.heap.size wr w5) => bsearch_some ((HRP.out.below HBW.out).below hb) (by have := HNP.out; omega) T)
      rw [← HNP.out] at HBS
      have i1 : (0 : Int) ≤ (k : Int) := by omega
      have i2 : (k : Int) < (n : Int) := by omega
      have hbH := (Below.refl wr.heap.size wr).alloc (Nat.le_refl _) (.cells #[.int .i64 xa, .int .i64 xn, .int .i64 xb, .int .i64 xm, .string xh, .slice ua N uc] 37)
      have hkH := heap_alloc_new wr (.cells #[.int .i64 xa, .int .i64 xn, .int .i64 xb, .int .i64 xm, .string xh, .slice ua N uc] 37)
      have q0 := cell_of_blk hkH 0
      have q1 := cell_of_blk hkH 1
      clear hx hb1 hu hN
      go_wp2_with fail
      clear q0 q1 d0 d1 d2 d3 d4 d5
      obtain ⟨Hb, hHb⟩ : ∃ Hb, Hb = wr.heap.size := ⟨_, rfl⟩
      rw [← hHb] at hkH ⊢
      have HHB : Hid (wr.heap.size ≤ Hb) := hid (by omega)
      have HGL : Hid (G < wr.heap.size) := HGLr
      have HK3 := hid hkH
      have HRB3 := hid hbH
      clear hHb hkH hbH
      generalize wr.alloc (.cells #[.int .i64 xa, .int .i64 xn, .int .i64 xb, .int .i64 xm, .string xh, .slice ua N uc] 37) = w3 at HK3 HRB3 ⊢
      refine (HAH.out w3).mono ?_
      rintro e w3' ⟨rfl, h1⟩
      rw [h1]
      clear h1
      go_wp2_with fail
      refine (HBS.out w3 HRB3.out).mono ?_
      rintro e w3' ⟨⟨c, f, hc, rfl⟩, h1⟩
      rw [h1]
      clear h1
      have q4 : w3.cell? ⟨Hb, 4, none⟩ = some (.string xh) := cell_of_blk HK3.out 4
      have qf : ∀ j, w3.frozen? ⟨Hb, j, none⟩ = false := fun j => frozen_of_blk HK3.out j
      have hk4 := set_heap w3 Hb 4 _ _ (.string ⟨#[]⟩) HK3.out
      have HK4 : Hid ((w3.setCell ⟨Hb, 4, none⟩ (.string ⟨#[]⟩)).heap[Hb]? = some (.cells #[.int .i64 xa, .int .i64 xn, .int .i64 xb, .int .i64 xm, .string ⟨#[]⟩, .slice ua N uc] 37)) := hid hk4
      have HRB4 := hid (below_set (k := 4) (u := .string ⟨#[]⟩) HRB3.out HHB.out)
      clear hk4
      by_cases hc0 : 0 < c
      · have j0 : (0 : Int) < (c : Int) := by omega
        obtain ⟨p, hp⟩ : ∃ p, ps[c - 1]? = some p := ⟨_, List.getElem?_eq_getElem (by have := HNP.out; omega)⟩
        obtain ⟨bp, op, ep, hbp, e1⟩ := rdI_at ((HRP.out.below HBW.out).below HRB4.out) hp
        cases ep
        obtain ⟨hp0, hp1⟩ := HPS.out p (List.mem_of_getElem? hp)
        obtain ⟨P, rfl⟩ := Int.eq_ofNat_of_zero_le hp0
        obtain ⟨s, hs1⟩ : ∃ s, a[P]? = some s := ⟨_, List.getElem?_eq_getElem (by have := HL.out; omega)⟩
        obtain ⟨ba, oa, ea, hba, e2⟩ := rdT_at ((HA.out.below HBR.out).below HRB4.out) hs1
        cases ea
        have HHD := hid (fun w5 (hb : Below w.heap.size w w5) => heading_some s w5 (HSA.out s (List.mem_of_getElem? hs1)) (HM.out.below hb))
        obtain ⟨c', hc'⟩ : ∃ c', c' + 1 = c := ⟨c - 1, by omega⟩
        have hcc : c - 1 = c' := by omega
        rw [hcc] at e1
        have j1 : IntKind.i64.wrap ((c : Int) - 1) = (c' : Int) := (wrapOk (by omega) (by omega)).trans (by omega)
        have j2 : (0 : Int) ≤ (c' : Int) := by omega
        have j3 : (c' : Int) < (np : Int) := by omega
        have j4 : (0 : Int) ≤ (P : Int) := by omega
        have j5 : (P : Int) < (L : Int) := hp1
        clear hp hs1 hbp hba hp0 hp1 hcc hc'
        go_wp2_with fail
        clear q4 qf e1 e2
        generalize w3.setCell ⟨Hb, 4, none⟩ (.string ⟨#[]⟩) = w4 at HK4 HRB4 ⊢
        refine (HHD.out w4 (HBR.out.trans (HRB4.out.mono HBR.out.size))).mono ?_
        rintro e w4' ⟨⟨t, rfl⟩, hb4⟩
        have HRB4' := hid (HRB4.out.trans (hb4.mono HRB4.out.size))
        have HK4' := hid ((hb4.block Hb (lt_of_heap HK4.out)).trans HK4.out)
        have q4 : w4'.cell? ⟨Hb, 4, none⟩ = some (.string ⟨#[]⟩) := cell_of_blk HK4'.out 4
        have qf : ∀ j, w4'.frozen? ⟨Hb, j, none⟩ = false := fun j => frozen_of_blk HK4'.out j
        have hk5 := set_heap w4' Hb 4 _ _ (.string t) HK4'.out
        have HK5 : Hid ((w4'.setCell ⟨Hb, 4, none⟩ (.string t)).heap[Hb]? = some (.cells #[.int .i64 xa, .int .i64 xn, .int .i64 xb, .int .i64 xm, .string t, .slice ua N uc] 37)) := hid hk5
        have HRB5 := hid (below_set (k := 4) (u := .string t) HRB4'.out HHB.out)
        have z5 : (w4'.setCell ⟨Hb, 4, none⟩ (.string t)).cell? ⟨Hb, 5, none⟩ = some (.slice ua N uc) := cell_of_blk HK5.out 5
        clear hk5 hb4
        go_wp2_with fail
        clear q4 qf z5
        generalize w4'.setCell ⟨Hb, 4, none⟩ (.string t) = w5 at HK5 HRB5 ⊢
        have q0 : w5.cell? ⟨Hb, 0, none⟩ = some (.int .i64 xa) := cell_of_blk HK5.out 0
        have q1 : w5.cell? ⟨Hb, 1, none⟩ = some (.int .i64 xn) := cell_of_blk HK5.out 1
        have q2 : w5.cell? ⟨Hb, 2, none⟩ = some (.int .i64 xb) := cell_of_blk HK5.out 2
        have q3 : w5.cell? ⟨Hb, 3, none⟩ = some (.int .i64 xm) := cell_of_blk HK5.out 3
        have q4 : w5.cell? ⟨Hb, 4, none⟩ = some (.string t) := cell_of_blk HK5.out 4
        have q5 : w5.cell? ⟨Hb, 5, none⟩ = some (.slice ua N uc) := cell_of_blk HK5.out 5
        have qf5 : ∀ j, w5.frozen? ⟨Hb, j, none⟩ = false := fun j => frozen_of_blk HK5.out j
        refine (HCL.out w5 (HRB5.out)).mono ?_
        rintro e w6 ⟨v6, rfl, hO6, hb6⟩
        obtain ⟨a6, c6, e6⟩ := own_shape hO6
        rw [← HNX.out] at e6
        subst e6
        have HB6 := hid (HRB5.out.trans (hb6.mono HRB5.out.size))
        have HK6 := hid ((hb6.block Hb (lt_of_heap HK5.out)).trans HK5.out)
        have HO6 : Hid (OwnW w6 w5.heap.size (.slice a6 N c6) xr) := hid hO6
        have HSZ6 : Hid (Hb < w5.heap.size) := hid (lt_of_heap HK5.out)
        clear hO6 hb6 q0 q1 q2 q3 q4 q5 qf5
        have q5 : w6.cell? ⟨Hb, 5, none⟩ = some (.slice ua N uc) := cell_of_blk HK6.out 5
        have qf : ∀ j, w6.frozen? ⟨Hb, j, none⟩ = false := fun j => frozen_of_blk HK6.out j
        have hk7 := set_heap w6 Hb 5 _ _ (.slice a6 N c6) HK6.out
        have HK7 : Hid ((w6.setCell ⟨Hb, 5, none⟩ (.slice a6 N c6)).heap[Hb]? = some (.cells #[.int .i64 xa, .int .i64 xn, .int .i64 xb, .int .i64 xm, .string t, .slice a6 N c6] 37)) := hid hk7
        have HB7 := hid (below_set (k := 5) (u := .slice a6 N c6) HB6.out HHB.out)
        have HO7 : Hid (OwnW (w6.setCell ⟨Hb, 5, none⟩ (.slice a6 N c6)) w5.heap.size (.slice a6 N c6) xr) := hid (own_far HO6.out (fun g hg => set_other _ (by have := own_ge HO6.out g hg; have := HSZ6.out; omega)))
        obtain ⟨cur, hcur, hcs, hnX⟩ := ownH_cells (HOH.out.stays HB7.out)
        clear hnX
        have HCU := hid hcur
        have HCS := hid hcs
        have hGH : G ≠ Hb := by have := HGL.out; have := HHB.out; omega
        have y0 : (w6.setCell ⟨Hb, 5, none⟩ (.slice a6 N c6)).cell? ⟨Hb, 0, none⟩ = some (.int .i64 xa) := cell_of_blk HK7.out 0
        have y1 : (w6.setCell ⟨Hb, 5, none⟩ (.slice a6 N c6)).cell? ⟨Hb, 1, none⟩ = some (.int .i64 xn) := cell_of_blk HK7.out 1
        have y2 : (w6.setCell ⟨Hb, 5, none⟩ (.slice a6 N c6)).cell? ⟨Hb, 2, none⟩ = some (.int .i64 xb) := cell_of_blk HK7.out 2
        have y3 : (w6.setCell ⟨Hb, 5, none⟩ (.slice a6 N c6)).cell? ⟨Hb, 3, none⟩ = some (.int .i64 xm) := cell_of_blk HK7.out 3
        have y4 : (w6.setCell ⟨Hb, 5, none⟩ (.slice a6 N c6)).cell? ⟨Hb, 4, none⟩ = some (.string t) := cell_of_blk HK7.out 4
        have y5 : (w6.setCell ⟨Hb, 5, none⟩ (.slice a6 N c6)).cell? ⟨Hb, 5, none⟩ = some (.slice a6 N c6) := cell_of_blk HK7.out 5
        have r0 := cell_there HCU.out (show k * 6 < cur.size by have := HCS.out; omega)
        have r1 := cell_there HCU.out (show k * 6 + 1 < cur.size by have := HCS.out; omega)
        have r2 := cell_there HCU.out (show k * 6 + 2 < cur.size by have := HCS.out; omega)
        have r3 := cell_there HCU.out (show k * 6 + 3 < cur.size by have := HCS.out; omega)
        have r4 := cell_there HCU.out (show k * 6 + 4 < cur.size by have := HCS.out; omega)
        have r5 := cell_there HCU.out (show k * 6 + 5 < cur.size by have := HCS.out; omega)
        have rf : ∀ j, (w6.setCell ⟨Hb, 5, none⟩ (.slice a6 N c6)).frozen? ⟨G, j, none⟩ = false := fun j => frozen_of_blk HCU.out j
        clear hk7 hcur
        go_wp2_with fail
        clear q5 qf y0 y1 y2 y3 y4 y5 r0 r1 r2 r3 r4 r5 rf
        obtain ⟨x0, hx0⟩ : ∃ x0, hs[k]? = some x0 := ⟨_, List.getElem?_eq_getElem (by have := HHL.out.1; omega)⟩
        have HOH7 := hid (HOH.out.stays HB7.out)
        generalize (w6.setCell ⟨Hb, 5, none⟩ (.slice a6 N c6)) = w7 at HK7 HB7 HO7 HCU HOH7 ⊢
        have HO9 := hid (ownH_put (k := ⟨xa, xn, xb, xm, t, xr⟩) (o := k * 6) HOH7.out hx0 rfl (show OwnW w7 B1 (.slice a6 N c6) xr from own_mono HO7.out (by have := HHB.out; have := HSZ6.out; have := HBW.out.size; have := HBB.out; omega)))
        have hGB : w1.heap.size ≤ G := HGE.out
        have HB9 := hid (below_set (k := k * 6 + 5) (u := .slice a6 N c6) (below_set (k := k * 6 + 4) (u := .string t) (below_set (k := k * 6 + 3) (u := .int .i64 xm) (below_set (k := k * 6 + 2) (u := .int .i64 xb) (below_set (k := k * 6 + 1) (u := .int .i64 xn) (below_set (k := k * 6) (u := .int .i64 xa) (HBW.out.trans (HB7.out.mono HBW.out.size)) hGB) hGB) hGB) hGB) hGB) hGB)
        dsimp only at HO9
        generalize ((((((w7.setCell ⟨G, k * 6, none⟩ (.int .i64 xa)).setCell ⟨G, k * 6 + 1, none⟩ (.int .i64 xn)).setCell ⟨G, k * 6 + 2, none⟩ (.int .i64 xb)).setCell ⟨G, k * 6 + 3, none⟩ (.int .i64 xm)).setCell ⟨G, k * 6 + 4, none⟩ (.string t)).setCell ⟨G, k * 6 + 5, none⟩ (.slice a6 N c6)) = w9 at HO9 HB9 ⊢
        clear hx0 hGB hGH
        go_wp2_with fail
        go_roundw
        case rel => exact ⟨k + 1, hs.set k ⟨xa, xn, xb, xm, t, xr⟩, by omega, by go_num, hid ⟨by rw [List.length_set]; exact HHL.out.1, fun x hx => by
            rcases List.mem_or_eq_of_mem_set hx with hx | hx
            · exact HHL.out.2 x hx
            · rw [hx]; exact HZX.out.1.1⟩, HO9, HB9⟩
        case measure => simp [intOf]; omega
      · have j0 : ¬ (0 : Int) < (c : Int) := by omega
        have z5 : (w3.setCell ⟨Hb, 4, none⟩ (.string ⟨#[]⟩)).cell? ⟨Hb, 5, none⟩ = some (.slice ua N uc) := cell_of_blk HK4.out 5
        go_wp2_with fail
        clear q4 qf z5
        generalize w3.setCell ⟨Hb, 4, none⟩ (.string ⟨#[]⟩) = w4 at HK4 HRB4 ⊢
        have q0 : w4.cell? ⟨Hb, 0, none⟩ = some (.int .i64 xa) := cell_of_blk HK4.out 0
        have q1 : w4.cell? ⟨Hb, 1, none⟩ = some (.int .i64 xn) := cell_of_blk HK4.out 1
        have q2 : w4.cell? ⟨Hb, 2, none⟩ = some (.int .i64 xb) := cell_of_blk HK4.out 2
        have q3 : w4.cell? ⟨Hb, 3, none⟩ = some (.int .i64 xm) := cell_of_blk HK4.out 3
        have q4 : w4.cell? ⟨Hb, 4, none⟩ = some (.string ⟨#[]⟩) := cell_of_blk HK4.out 4
        have q5 : w4.cell? ⟨Hb, 5, none⟩ = some (.slice ua N uc) := cell_of_blk HK4.out 5
        have qf4 : ∀ j, w4.frozen? ⟨Hb, j, none⟩ = false := fun j => frozen_of_blk HK4.out j
        refine (HCL.out w4 (HRB4.out)).mono ?_
        rintro e w6 ⟨v6, rfl, hO6, hb6⟩
        obtain ⟨a6, c6, e6⟩ := own_shape hO6
        rw [← HNX.out] at e6
        subst e6
        have HB6 := hid (HRB4.out.trans (hb6.mono HRB4.out.size))
        have HK6 := hid ((hb6.block Hb (lt_of_heap HK4.out)).trans HK4.out)
        have HO6 : Hid (OwnW w6 w4.heap.size (.slice a6 N c6) xr) := hid hO6
        have HSZ6 : Hid (Hb < w4.heap.size) := hid (lt_of_heap HK4.out)
        clear hO6 hb6 q0 q1 q2 q3 q4 q5 qf4
        have q5 : w6.cell? ⟨Hb, 5, none⟩ = some (.slice ua N uc) := cell_of_blk HK6.out 5
        have qf : ∀ j, w6.frozen? ⟨Hb, j, none⟩ = false := fun j => frozen_of_blk HK6.out j
        have hk7 := set_heap w6 Hb 5 _ _ (.slice a6 N c6) HK6.out
        have HK7 : Hid ((w6.setCell ⟨Hb, 5, none⟩ (.slice a6 N c6)).heap[Hb]? = some (.cells #[.int .i64 xa, .int .i64 xn, .int .i64 xb, .int .i64 xm, .string ⟨#[]⟩, .slice a6 N c6] 37)) := hid hk7
        have HB7 := hid (below_set (k := 5) (u := .slice a6 N c6) HB6.out HHB.out)
        have HO7 : Hid (OwnW (w6.setCell ⟨Hb, 5, none⟩ (.slice a6 N c6)) w4.heap.size (.slice a6 N c6) xr) := hid (own_far HO6.out (fun g hg => set_other _ (by have := own_ge HO6.out g hg; have := HSZ6.out; omega)))
        obtain ⟨cur, hcur, hcs, hnX⟩ := ownH_cells (HOH.out.stays HB7.out)
        clear hnX
        have HCU := hid hcur
        have HCS := hid hcs
        have hGH : G ≠ Hb := by have := HGL.out; have := HHB.out; omega
        have y0 : (w6.setCell ⟨Hb, 5, none⟩ (.slice a6 N c6)).cell? ⟨Hb, 0, none⟩ = some (.int .i64 xa) := cell_of_blk HK7.out 0
        have y1 : (w6.setCell ⟨Hb, 5, none⟩ (.slice a6 N c6)).cell? ⟨Hb, 1, none⟩ = some (.int .i64 xn) := cell_of_blk HK7.out 1
        have y2 : (w6.setCell ⟨Hb, 5, none⟩ (.slice a6 N c6)).cell? ⟨Hb, 2, none⟩ = some (.int .i64 xb) := cell_of_blk HK7.out 2
        have y3 : (w6.setCell ⟨Hb, 5, none⟩ (.slice a6 N c6)).cell? ⟨Hb, 3, none⟩ = some (.int .i64 xm) := cell_of_blk HK7.out 3
        have y4 : (w6.setCell ⟨Hb, 5, none⟩ (.slice a6 N c6)).cell? ⟨Hb, 4, none⟩ = some (.string ⟨#[]⟩) := cell_of_blk HK7.out 4
        have y5 : (w6.setCell ⟨Hb, 5, none⟩ (.slice a6 N c6)).cell? ⟨Hb, 5, none⟩ = some (.slice a6 N c6) := cell_of_blk HK7.out 5
        have r0 := cell_there HCU.out (show k * 6 < cur.size by have := HCS.out; omega)
        have r1 := cell_there HCU.out (show k * 6 + 1 < cur.size by have := HCS.out; omega)
        have r2 := cell_there HCU.out (show k * 6 + 2 < cur.size by have := HCS.out; omega)
        have r3 := cell_there HCU.out (show k * 6 + 3 < cur.size by have := HCS.out; omega)
        have r4 := cell_there HCU.out (show k * 6 + 4 < cur.size by have := HCS.out; omega)
        have r5 := cell_there HCU.out (show k * 6 + 5 < cur.size by have := HCS.out; omega)
        have rf : ∀ j, (w6.setCell ⟨Hb, 5, none⟩ (.slice a6 N c6)).frozen? ⟨G, j, none⟩ = false := fun j => frozen_of_blk HCU.out j
        clear hk7 hcur
        go_wp2_with fail
        clear q5 qf y0 y1 y2 y3 y4 y5 r0 r1 r2 r3 r4 r5 rf
        obtain ⟨x0, hx0⟩ : ∃ x0, hs[k]? = some x0 := ⟨_, List.getElem?_eq_getElem (by have := HHL.out.1; omega)⟩
        have HOH7 := hid (HOH.out.stays HB7.out)
        generalize (w6.setCell ⟨Hb, 5, none⟩ (.slice a6 N c6)) = w7 at HK7 HB7 HO7 HCU HOH7 ⊢
        have HO9 := hid (ownH_put (k := ⟨xa, xn, xb, xm, ⟨#[]⟩, xr⟩) (o := k * 6) HOH7.out hx0 rfl (show OwnW w7 B1 (.slice a6 N c6) xr from own_mono HO7.out (by have := HHB.out; have := HSZ6.out; have := HBW.out.size; have := HBB.out; omega)))
        have hGB : w1.heap.size ≤ G := HGE.out
        have HB9 := hid (below_set (k := k * 6 + 5) (u := .slice a6 N c6) (below_set (k := k * 6 + 4) (u := .string ⟨#[]⟩) (below_set (k := k * 6 + 3) (u := .int .i64 xm) (below_set (k := k * 6 + 2) (u := .int .i64 xb) (below_set (k := k * 6 + 1) (u := .int .i64 xn) (below_set (k := k * 6) (u := .int .i64 xa) (HBW.out.trans (HB7.out.mono HBW.out.size)) hGB) hGB) hGB) hGB) hGB) hGB)
        dsimp only at HO9
        generalize ((((((w7.setCell ⟨G, k * 6, none⟩ (.int .i64 xa)).setCell ⟨G, k * 6 + 1, none⟩ (.int .i64 xn)).setCell ⟨G, k * 6 + 2, none⟩ (.int .i64 xb)).setCell ⟨G, k * 6 + 3, none⟩ (.int .i64 xm)).setCell ⟨G, k * 6 + 4, none⟩ (.string ⟨#[]⟩)).setCell ⟨G, k * 6 + 5, none⟩ (.slice a6 N c6)) = w9 at HO9 HB9 ⊢
        clear hx0 hGB hGH
        go_wp2_with fail
        go_roundw
        case rel => exact ⟨k + 1, hs.set k ⟨xa, xn, xb, xm, ⟨#[]⟩, xr⟩, by omega, by go_num, hid ⟨by rw [List.length_set]; exact HHL.out.1, fun x hx => by
            rcases List.mem_or_eq_of_mem_set hx with hx | hx
            · exact HHL.out.2 x hx
            · rw [hx]; exact HZX.out.1.1⟩, HO9, HB9⟩
        case measure => simp [intOf]; omega
    · obtain rfl : k = n := by omega
      go_wp2_with fail
      go_ret
      exact ⟨_, hs, rfl, HOH.out.mono (by rw [HBB.out]; exact HB1.out.size), HHL.out, HB1.out.trans (HBW.out.mono HB1.out.size)⟩
end Go.Proofs.YtddmfdjkkikapaaGreatDoor
