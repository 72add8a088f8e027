/-
  The walk of the law HunksNarrow.
-/
import Derived.Test.YtnamioihapnefaaGreatDoorMk
import Derived.Test.YtnamioihapnefaaGreatDoorGrKf
import Derived.Test.YtnamioihapnefaaGreatDoorGrJw
namespace Go.Proofs.YtnamioihapnefaaGreatDoor
open Go.RowKit
open Hu (Rw Hk)

set_option maxHeartbeats 1500000 in
set_option maxRecDepth 100000 in
theorem narrow_any {w : World} {h : Hk} {v : Value} {ctx : Int} (hv : RdW w v h.rows) (hz : SzH h) :
    Calls Tryz.prog 35 #[HkV h v, .int .i64 ctx] w fun e w' => ∃ v', e = .returned (.tuple #[v', errV (narN h ctx)]) ∧ OwnH w' w.heap.size v' (narA h ctx) ∧ Below w.heap.size w w' := by
  by_cases hc : ctxOk ctx = true
  · have hc2 := hc
    unfold ctxOk at hc2
    simp at hc2
    by_cases hvl : Hu.vld h = true
    · have e1 : narN h ctx = 0 := by unfold narN; rw [if_pos hc, if_pos hvl]
      have := narrow_ok hv hz hvl hc2.1 hc2.2
      unfold narA
      rw [if_pos e1, e1, errV_zero]
      obtain ⟨c, rfl⟩ := Int.eq_ofNat_of_zero_le hc2.1
      rw [Int.toNat_natCast] at this ⊢
      rw [nD_groups (Hu.vld_parts hvl).1]
      exact this
    · have e1 : narN h ctx = 100 := by unfold narN; rw [if_pos hc, if_neg hvl]
      have e2 : narA h ctx = [] := by unfold narA; rw [e1]; rfl
      rw [e1, e2]
      have HIC := hid (fun w1 => isContext_any ctx w1)
      rw [hc] at HIC
      have HVA := hid (fun w1 (hb : Below w.heap.size w w1) => hvalid_any (h := h) (hv.below hb) hz)
      rw [show vldN h = 100 by unfold vldN; rw [if_neg hvl], errV_pos (by decide)] at HVA
      rw [errV_pos (by decide)]
      obtain ⟨av, cv, rfl⟩ := hv.shape
      obtain ⟨xa, xn, xb, xm, xh, xr⟩ := h
      dsimp only at HVA ⊢
      unfold HkV at HVA ⊢
      dsimp only at HVA ⊢
      obtain ⟨N, hN⟩ : ∃ N, N = xr.length := ⟨_, rfl⟩
      rw [← hN] at HVA ⊢
      have hbH := (Below.refl w.heap.size w).alloc (Nat.le_refl _) (.cells #[.int .i64 xa, .int .i64 xn, .int .i64 xb, .int .i64 xm, .string xh, .slice av N cv] 29)
      have hkH := heap_alloc_new w (.cells #[.int .i64 xa, .int .i64 xn, .int .i64 xb, .int .i64 xm, .string xh, .slice av N cv] 29)
      clear hv hz hvl hc e1 e2 hN hc2
      go_enter Tryz.func35, Tryz.ntmps35
      go_wp2_with fail
      obtain ⟨H, hH⟩ : ∃ H, H = w.heap.size := ⟨_, rfl⟩
      have HH := hid hH
      rw [← hH] at hkH ⊢
      generalize w.alloc (.cells #[.int .i64 xa, .int .i64 xn, .int .i64 xb, .int .i64 xm, .string xh, .slice av N cv] 29) = w1 at hbH hkH ⊢
      refine (HIC.out w1).mono ?_
      rintro e w1' ⟨rfl, h1⟩
      rw [h1]
      clear h1 hH
      have q0 : w1.cell? ⟨H, 0, none⟩ = some (.int .i64 xa) := cell_of_blk hkH 0
      have q1 : w1.cell? ⟨H, 1, none⟩ = some (.int .i64 xn) := cell_of_blk hkH 1
      have q2 : w1.cell? ⟨H, 2, none⟩ = some (.int .i64 xb) := cell_of_blk hkH 2
      have q3 : w1.cell? ⟨H, 3, none⟩ = some (.int .i64 xm) := cell_of_blk hkH 3
      have q4 : w1.cell? ⟨H, 4, none⟩ = some (.string xh) := cell_of_blk hkH 4
      have q5 : w1.cell? ⟨H, 5, none⟩ = some (.slice av N cv) := cell_of_blk hkH 5
      clear hkH
      go_wp2_with fail
      refine (HVA.out w1 hbH).mono ?_
      rintro e w2 ⟨rfl, hb2⟩
      have HB2 := hid (hbH.trans (hb2.mono hbH.size))
      clear hbH hb2 HVA q0 q1 q2 q3 q4 q5
      go_wp2_with fail
      go_ret2
      exact ⟨_, rfl, OwnH.nil _ _, HH.out ▸ HB2.out⟩
  · have e1 : narN h ctx = 1 := by unfold narN; rw [if_neg hc]
    have e2 : narA h ctx = [] := by unfold narA; rw [e1]; rfl
    rw [e1, e2, errV_pos (by decide)]
    have HIC := hid (fun w1 => isContext_any ctx w1)
    rw [Bool.not_eq_true] at hc
    rw [hc] at HIC
    obtain ⟨av, cv, rfl⟩ := hv.shape
    obtain ⟨xa, xn, xb, xm, xh, xr⟩ := h
    dsimp only
    unfold HkV
    dsimp only
    have hbH := (Below.refl w.heap.size w).alloc (Nat.le_refl _) (.cells #[.int .i64 xa, .int .i64 xn, .int .i64 xb, .int .i64 xm, .string xh, .slice av xr.length cv] 29)
    clear hv hz e1 e2 hc
    go_enter Tryz.func35, Tryz.ntmps35
    go_wp2_with fail
    refine (HIC.out _).mono ?_
    rintro e w1' ⟨rfl, h1⟩
    rw [h1]
    clear h1
    go_wp2_with fail
    go_ret2
    exact ⟨_, rfl, OwnH.nil _ _, hbH⟩
set_option maxHeartbeats 8000000 in
set_option maxRecDepth 100000 in
theorem hunksNarrow_walk {w : World} {v : Value} {l : List Hk} {ctx : Int} (hv : RdH w v l) (hA : ArgH w v l.length) (hl : l.length < 1954687338260) (hz : ∀ h ∈ l, SzH h) (hg : ErrVar w) :
    Calls Tryz.prog 8 #[v, .int .i64 ctx] w fun e w' => e = .returned (.bool true) ∧ Below w.heap.size w w' := by
  obtain ⟨av, cv, rfl⟩ := hv.shape
  have HV := hid hv
  have HA := hid hA
  have HZ := hid hz
  have HG := hid hg
  obtain ⟨n, hn⟩ : ∃ n, n = l.length := ⟨_, rfl⟩
  have HN := hid hn
  rw [← hn] at HV HA hl ⊢
  clear hv hn hz hA hg
  go_enter Tryz.func8, Tryz.ntmps8
  go_wp2_with fail
  go_loopw [5] (fun ii wr => ∃ (k : Nat), k ≤ n ∧ ii = .int .i64 k ∧ Hid (Below w.heap.size w wr)) (fun ii _ => n - (intOf ii).toNat)
  case atStart => exact ⟨0, Nat.zero_le _, rfl, Below.refl _ _⟩
  case round =>
    obtain ⟨k, hk, rfl, HB⟩ := hrel
    by_cases hlt : k < n
    · obtain ⟨x, hx⟩ : ∃ x, l[k]? = some x := ⟨_, List.getElem?_eq_getElem (by have := HN.out; omega)⟩
      obtain ⟨b1, o1, u, e1, hb1, d0, d1, d2, d3, d4, d5, hu⟩ := rdH_at HV.out hx
      subst e1
      have HAU := hid (HA.out b1 o1 _ _ rfl k hlt u d5)
      have HSX := hid (HZ.out x (List.mem_of_getElem? hx))
      have HTW := hid (fun w1 (hb : Below w.heap.size w w1) => twinH_any (h := x) (hu.below hb) HAU.out HSX.out.1)
      have HNA := hid (fun w1 v1 (hr : RdW w1 v1 x.rows) => narrow_any (ctx := ctx) (h := x) hr HSX.out)
      have HRN := hid (fun w1 (hb : Below w.heap.size w w1) => rNarrow_any (ctx := ctx) (h := x) (hu.below hb) HAU.out HSX.out)
      have HSA := hid (fun w1 v1 v2 (h1 : RdH w1 v1 (narA x ctx)) (h2 : RdH w1 v2 (narA x ctx)) => sameAll_yes h1 h2 narA_len (narA_sz HSX.out))
      have HSM := hid (fun w1 v1 (hb : Below w.heap.size w w1) (h1 : RdW w1 v1 x.rows) => same_yes (h := x) h1 (hu.below hb) HSX.out.1)
      generalize narN x ctx = K at HNA HRN
      generalize narA x ctx = J at HNA HRN HSA
      have HNU := hid (fun w1 (hb : Below w.heap.size w w1) => num_any K w1 (HG.out.below hb))
      have HCL := hid (fun w1 (h : Below w.heap.size w w1) => And.intro ((h.cell (p := ⟨b1, _, none⟩) hb1).trans d0) (And.intro ((h.cell (p := ⟨b1, _, none⟩) hb1).trans d1) (And.intro ((h.cell (p := ⟨b1, _, none⟩) hb1).trans d2) (And.intro ((h.cell (p := ⟨b1, _, none⟩) hb1).trans d3) (And.intro ((h.cell (p := ⟨b1, _, none⟩) hb1).trans d4) ((h.cell (p := ⟨b1, _, none⟩) hb1).trans d5))))))
      obtain ⟨xa, xn, xb, xm, xh, xr⟩ := x
      dsimp only at HTW HNA HRN HSM HCL hu
      obtain ⟨ua, uc, rfl⟩ := hu.shape
      unfold HkV at HTW HNA HRN HSM
      dsimp only at HTW HNA HRN HSM
      obtain ⟨N, hN⟩ : ∃ N, N = xr.length := ⟨_, rfl⟩
      have HNX := hid hN
      rw [← hN] at HTW HRN HSM HCL
      clear d0 d1 d2 d3 d4 d5 hb1 hx hu hN HAU
      have i1 : (0 : Int) ≤ (k : Int) := by omega
      have i2 : (k : Int) < (n : Int) := by omega
      have z1 : ((K : Int) == (K : Int)) = true := zeq rfl
      obtain ⟨d0, d1, d2, d3, d4, d5⟩ := HCL.out _ HB.out
      go_wp2_with fail
      refine (HTW.out _ HB.out).mono ?_
      rintro e w2 ⟨v2, rfl, hO2, hb2⟩
      obtain ⟨a2, c2, e2⟩ := own_shape hO2
      rw [← HNX.out] at e2
      subst e2
      have HR2 := hid (own_rd hO2)
      have HB2 := hid (HB.out.trans (hb2.mono HB.out.size))
      have hbG := (Below.refl w2.heap.size w2).alloc (Nat.le_refl _) (.cells #[.int .i64 xa, .int .i64 xn, .int .i64 xb, .int .i64 xm, .string xh, .slice a2 N c2] 29)
      have hkG := heap_alloc_new w2 (.cells #[.int .i64 xa, .int .i64 xn, .int .i64 xb, .int .i64 xm, .string xh, .slice a2 N c2] 29)
      clear hO2 hb2 d0 d1 d2 d3 d4 d5
      go_wp2_with fail
      obtain ⟨G, hG⟩ : ∃ G, G = w2.heap.size := ⟨_, rfl⟩
      have HB3 := hid (HB2.out.trans (hbG.mono HB2.out.size))
      have HR3 := hid (HR2.out.below hbG)
      have HK3 := hid hkG
      rw [← hG] at HK3 ⊢
      generalize w2.alloc (.cells #[.int .i64 xa, .int .i64 xn, .int .i64 xb, .int .i64 xm, .string xh, .slice a2 N c2] 29) = w3 at HB3 HR3 HK3 ⊢
      clear hG hbG hkG HR2 HB2
      have q0 : w3.cell? ⟨G, 0, none⟩ = some (.int .i64 xa) := cell_of_blk HK3.out 0
      have q1 : w3.cell? ⟨G, 1, none⟩ = some (.int .i64 xn) := cell_of_blk HK3.out 1
      have q2 : w3.cell? ⟨G, 2, none⟩ = some (.int .i64 xb) := cell_of_blk HK3.out 2
      have q3 : w3.cell? ⟨G, 3, none⟩ = some (.int .i64 xm) := cell_of_blk HK3.out 3
      have q4 : w3.cell? ⟨G, 4, none⟩ = some (.string xh) := cell_of_blk HK3.out 4
      have q5 : w3.cell? ⟨G, 5, none⟩ = some (.slice a2 N c2) := cell_of_blk HK3.out 5
      go_wp2_with fail
      refine (HNA.out _ _ HR3.out).mono ?_
      rintro e w4 ⟨v4, rfl, hO4, hb4⟩
      obtain ⟨a4, c4, e4⟩ := hO4.shape
      subst e4
      have HO4 := hid hO4.rd
      have HB4 := hid (HB3.out.trans (hb4.mono HB3.out.size))
      have HR4 := hid (HR3.out.below hb4)
      have HK4 := hid ((hb4.block G (lt_of_heap HK3.out)).trans HK3.out)
      clear hO4 hb4 q0 q1 q2 q3 q4 q5 HB3 HR3 HK3
      obtain ⟨d0, d1, d2, d3, d4, d5⟩ := HCL.out _ HB4.out
      go_wp2_with fail
      refine (HRN.out _ HB4.out).mono ?_
      rintro e w5 ⟨v5, rfl, hO5, hb5⟩
      obtain ⟨a5, c5, e5⟩ := hO5.shape
      subst e5
      have HO5 := hid hO5.rd
      have HP5 := hid (HO4.out.below hb5)
      have hbb : Below w.heap.size w w5 := HB4.out.trans (hb5.mono HB4.out.size)
      have HR5 := hid (HR4.out.below hb5)
      have HK5 := hid ((hb5.block G (lt_of_heap HK4.out)).trans HK4.out)
      clear hO5 hb5 HB4 HR4 HK4 HO4 d0 d1 d2 d3 d4 d5
      have HCQ : Hid (∀ w1, Below w5.heap.size w5 w1 → Below w.heap.size w w1 ∧ RdH w1 (.slice a4 J.length c4) J ∧ RdH w1 (.slice a5 J.length c5) J ∧ RdW w1 (.slice a2 N c2) xr) := hid (fun w1 hb => ⟨hbb.trans (hb.mono hbb.size), HP5.out.below hb, HO5.out.below hb, HR5.out.below hb⟩)
      have HCG : Hid (∀ w1, Below w5.heap.size w5 w1 → (w1.cell? ⟨G, 0, none⟩ = some (.int .i64 xa) ∧ w1.cell? ⟨G, 1, none⟩ = some (.int .i64 xn) ∧ w1.cell? ⟨G, 2, none⟩ = some (.int .i64 xb) ∧ w1.cell? ⟨G, 3, none⟩ = some (.int .i64 xm) ∧ w1.cell? ⟨G, 4, none⟩ = some (.string xh) ∧ w1.cell? ⟨G, 5, none⟩ = some (.slice a2 N c2)) ∧ w1.cell? ⟨b1, o1 + k * 6, none⟩ = some (.int .i64 xa) ∧ w1.cell? ⟨b1, o1 + k * 6 + 1, none⟩ = some (.int .i64 xn) ∧ w1.cell? ⟨b1, o1 + k * 6 + 2, none⟩ = some (.int .i64 xb) ∧ w1.cell? ⟨b1, o1 + k * 6 + 3, none⟩ = some (.int .i64 xm) ∧ w1.cell? ⟨b1, o1 + k * 6 + 4, none⟩ = some (.string xh) ∧ w1.cell? ⟨b1, o1 + k * 6 + 5, none⟩ = some (.slice ua N uc)) := hid (fun w1 hb => ⟨by
        have h5 := (hb.block G (lt_of_heap HK5.out)).trans HK5.out
        exact ⟨cell_of_blk h5 0, cell_of_blk h5 1, cell_of_blk h5 2, cell_of_blk h5 3, cell_of_blk h5 4, cell_of_blk h5 5⟩, HCL.out _ (HCQ.out w1 hb).1⟩)
      have hb0 : Below w5.heap.size w5 w5 := Below.refl _ _
      obtain ⟨⟨q0, q1, q2, q3, q4, q5⟩, d0, d1, d2, d3, d4, d5⟩ := HCG.out _ hb0
      clear HK5 HR5 HO5 HP5 HCL
      go_wp2_with fail
      go_region_with (first | (go_at_call 15; refine (HSA.out _ _ _ (HCQ.out _ (by first | assumption | exact below_drewN (by assumption) _)).2.1 (HCQ.out _ (by first | assumption | exact below_drewN (by assumption) _)).2.2.1).mono ?_; rintro e w6 ⟨rfl, h2⟩; have hb6 : Below w5.heap.size w5 w6 := Below.trans (by first | assumption | exact below_drewN (by assumption) _) (h2.mono (Below.size (by first | assumption | exact below_drewN (by assumption) _))); clear h2; obtain ⟨⟨q0, q1, q2, q3, q4, q5⟩, d0, d1, d2, d3, d4, d5⟩ := HCG.out _ hb6) | (go_at_call 9; refine (HNU.out _ (HCQ.out _ (by first | assumption | exact below_drewN (by assumption) _)).1).mono ?_; rintro e w7 ⟨rfl, h2⟩; have hb7 : Below w5.heap.size w5 w7 := Below.trans (by first | assumption | exact below_drewN (by assumption) _) (h2.mono (Below.size (by first | assumption | exact below_drewN (by assumption) _))); clear h2; obtain ⟨⟨q0, q1, q2, q3, q4, q5⟩, d0, d1, d2, d3, d4, d5⟩ := HCG.out _ hb7) | (go_at_call 27; refine (HSM.out _ _ (HCQ.out _ (by first | assumption | exact below_drewN (by assumption) _)).1 (HCQ.out _ (by first | assumption | exact below_drewN (by assumption) _)).2.2.2).mono ?_; rintro e w8 ⟨rfl, h2⟩; have hb8 : Below w5.heap.size w5 w8 := Below.trans (by first | assumption | exact below_drewN (by assumption) _) (h2.mono (Below.size (by first | assumption | exact below_drewN (by assumption) _))); clear h2))
      all_goals
        go_wp2_with fail
        go_roundw
        case rel => exact ⟨k + 1, by omega, by go_num, hid (HCQ.out _ (by first | assumption | exact below_drewN (by assumption) _)).1⟩
        case measure => simp [intOf]; omega
    · obtain rfl : k = n := by omega
      go_wp2_with fail
      refine (works_any wr (HG.out.below HB.out)).mono ?_
      rintro e w7 ⟨rfl, hb7⟩
      have HB7 := hid (HB.out.trans (hb7.mono HB.out.size))
      clear hb7
      go_wp2_with fail
      go_ret
      exact ⟨rfl, HB7.out⟩
end Go.Proofs.YtnamioihapnefaaGreatDoor
