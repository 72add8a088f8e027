/-
  Several texts in one: Mk, Ml.
-/
import Derived.Test.YtddmfdjkkikapaaGreatDoorGrMa
import Derived.Test.YtddmfdjkkikapaaGreatDoorGrKc
import Derived.Test.YtddmfdjkkikapaaGreatDoorGrMb
import Derived.Test.YtddmfdjkkikapaaGreatDoorGrJd
import Derived.Test.YtddmfdjkkikapaaGreatDoorGrKf
import Derived.Test.YtddmfdjkkikapaaGreatDoorGrJw
/-
  The program's Narrow.
-/
namespace Go.Proofs.YtddmfdjkkikapaaGreatDoor
open Go.RowKit
open Hu (Rw Hk)

set_option maxHeartbeats 1500000 in
set_option maxRecDepth 100000 in
theorem narrow_ok {w : World} {h : Hk} {v : Value} {ctx : Int} (hv : RdW w v h.rows) (hz : SzH h) (hvl : Hu.vld h = true) (hc0 : 0 ≤ ctx) (hc1 : ctx ≤ 2147483647) :
    Calls Tryz.prog 11 #[HkV h v, .int .i64 ctx] w fun e w' => ∃ v', e = .returned (.tuple #[v', .nilIface]) ∧ OwnH w' w.heap.size v' (headed h.head (((gfold ctx (Hu.runsR h.rows 0 0)).map (widS ctx.toNat h.rows.length)).map fun s => cutP h s.1 s.2)) ∧ Below w.heap.size w w' := by
  obtain ⟨c, rfl⟩ := Int.eq_ofNat_of_zero_le hc0
  rw [Int.toNat_natCast]
  have HIC := hid (fun w1 => isContext_any (c : Int) w1)
  rw [show ctxOk (c : Int) = true by unfold ctxOk; simp; omega] at HIC
  have HVA := hid (fun w1 (hb : Below w.heap.size w w1) => hvalid_any (h := h) (hv.below hb) hz)
  rw [show vldN h = 0 by unfold vldN; rw [hvl]; rfl, errV_zero] at HVA
  obtain ⟨hNs, hkd, hPQ⟩ := vld_small hvl
  have hpl := vld_pl hvl
  have HGR := hid (fun w1 (hb : Below w.heap.size w w1) => groups_any (hv.below hb) hz.1 hc0 hc1)
  have hin : ∀ s ∈ (gfold (c : Int) (Hu.runsR h.rows 0 0)).map (widS c h.rows.length), s.1 < s.2 ∧ s.2 ≤ h.rows.length := fun s hs => wid_in hs
  have hord : ∀ i s t, ((gfold (c : Int) (Hu.runsR h.rows 0 0)).map (widS c h.rows.length))[i]? = some s → ((gfold (c : Int) (Hu.runsR h.rows 0 0)).map (widS c h.rows.length))[i + 1]? = some t → s.1 ≤ t.1 := fun i s t hs ht => wid_ord i s t hs ht
  have hne : (gfold (c : Int) (Hu.runsR h.rows 0 0)).map (widS c h.rows.length) ≠ [] := by rw [← nD_groups (Hu.vld_parts hvl).1]; exact nD_ne _ _ _ _ _ _
  have hgl : (gfold (c : Int) (Hu.runsR h.rows 0 0)).length ≤ 4294967296 := by
    have h1 := gfold_len (c : Int) (Hu.runsR h.rows 0 0)
    have h2 := runsR_len h.rows 0 0
    omega
  have hLin : ∀ s ∈ gfold (c : Int) (Hu.runsR h.rows 0 0), s.2 ≤ 4294967296 := fun s hs => by
    have := gfold_le (c : Int) h.rows.length (Hu.runsR h.rows 0 0) [] runs_le (by simp) s hs
    omega
  have hLin1 : ∀ s ∈ gfold (c : Int) (Hu.runsR h.rows 0 0), s.1 < s.2 := fun s hs => by
    rw [gfold_gR] at hs
    have h1 := runs_chn h.rows 0 0 (Nat.le_refl _)
    rw [Nat.zero_add] at h1
    exact (chn_in ((gR_chn c h.rows.length _ 0).1 h1) s hs).2.1
  generalize gfold (c : Int) (Hu.runsR h.rows 0 0) = L at HGR hin hord hne hgl hLin hLin1 ⊢
  have HPI := hid (fun w1 vs (hb : Below w.heap.size w w1) (hs : RdSp w1 vs (L.map (widS c h.rows.length))) => pieces_any (h := h) (v := v) (hv.below hb) hs (by omega) hkd hPQ hpl hne (by rw [List.length_map]; exact hgl) hin hord)
  obtain ⟨av, cv, rfl⟩ := hv.shape
  have HV := hid hv
  obtain ⟨xa, xn, xb, xm, xh, xr⟩ := h
  dsimp only at HV HVA HGR HPI hNs ⊢
  unfold HkV at HVA HPI ⊢
  dsimp only at HVA HPI ⊢
  obtain ⟨N, hN⟩ : ∃ N, N = xr.length := ⟨_, rfl⟩
  have HN := hid hN
  rw [← hN] at HVA HGR HPI hNs ⊢
  obtain ⟨n, hn⟩ : ∃ n, n = L.length := ⟨_, rfl⟩
  have HNN := hid hn
  rw [← hn] at hgl
  generalize headed xh ((L.map (widS c N)).map fun s => cutP ⟨xa, xn, xb, xm, xh, xr⟩ s.1 s.2) = J at HPI ⊢
  have HLI := hid hLin
  have HL1 := hid hLin1
  have hbH := (Below.refl w.heap.size w).alloc (Nat.le_refl _) (.cells #[.int .i64 xa, .int .i64 xn, .int .i64 xb, .int .i64 xm, .string xh, .slice av N cv] 37)
  have hkH := heap_alloc_new w (.cells #[.int .i64 xa, .int .i64 xn, .int .i64 xb, .int .i64 xm, .string xh, .slice av N cv] 37)
  clear hv hz hvl hPQ hpl hkd hN hn hc0 hin hord hne hLin hLin1
  go_enter Tryz.func11, Tryz.ntmps11
  go_wp2_with fail
  obtain ⟨H, hH⟩ : ∃ H, H = w.heap.size := ⟨_, rfl⟩
  have HH := hid hH
  rw [← hH] at hkH ⊢
  generalize w.alloc (.cells #[.int .i64 xa, .int .i64 xn, .int .i64 xb, .int .i64 xm, .string xh, .slice av N cv] 37) = w1 at hbH hkH ⊢
  refine (HIC.out w1).mono ?_
  rintro e w1' ⟨rfl, h1⟩
  rw [h1]
  clear h1 hH
  have q0 : w1.cell? ⟨H, 0, none⟩ = some (.int .i64 xa) := cell_of_blk hkH 0
  have q1 : w1.cell? ⟨H, 1, none⟩ = some (.int .i64 xn) := cell_of_blk hkH 1
  have q2 : w1.cell? ⟨H, 2, none⟩ = some (.int .i64 xb) := cell_of_blk hkH 2
  have q3 : w1.cell? ⟨H, 3, none⟩ = some (.int .i64 xm) := cell_of_blk hkH 3
  have q4 : w1.cell? ⟨H, 4, none⟩ = some (.string xh) := cell_of_blk hkH 4
  have q5 : w1.cell? ⟨H, 5, none⟩ = some (.slice av N cv) := cell_of_blk hkH 5
  have HK1 := hid hkH
  have HB1 := hid hbH
  clear hkH hbH
  go_wp2_with fail
  refine (HVA.out w1 HB1.out).mono ?_
  rintro e w2 ⟨rfl, hb2⟩
  have HB2 := hid (HB1.out.trans (hb2.mono HB1.out.size))
  have HK2 := hid ((hb2.block H (lt_of_heap HK1.out)).trans HK1.out)
  clear hb2 HVA q0 q1 q2 q3 q4 q5 HK1 HB1
  have q5 : w2.cell? ⟨H, 5, none⟩ = some (.slice av N cv) := cell_of_blk HK2.out 5
  go_wp2_with fail
  refine (HGR.out w2 HB2.out).mono ?_
  rintro e w3 ⟨v3, rfl, hO3, hb3⟩
  obtain ⟨a3, c3, e3⟩ := own_shape hO3
  rw [← HNN.out] at e3
  subst e3
  have HO3 := hid (own_rd hO3)
  have HB3 := hid (HB2.out.trans (hb3.mono HB2.out.size))
  have HK3 := hid ((hb3.block H (lt_of_heap HK2.out)).trans HK2.out)
  clear hO3 hb3 HGR q5 HK2 HB2
  go_wp2_with fail
  go_loopw [7, 24] (fun vo ii wr => ∃ (k : Nat) (X : List Sp), k ≤ n ∧ ii = .int .i64 k ∧ Hid (X = (L.take k).map (widS c N)) ∧ Hid (X.length = k) ∧ Hid (OwnSp wr w3.heap.size vo X) ∧ Hid (Below w3.heap.size w3 wr)) (fun _ ii _ => n - (intOf ii).toNat)
  case atStart => exact ⟨0, [], Nat.zero_le _, rfl, hid rfl, hid rfl, hid (World.ownsRow_nil _ _ _ _), Below.refl _ _⟩
  case round =>
    obtain ⟨k, X, hk, rfl, HX, HXL, HO, HB⟩ := hrel
    obtain ⟨ao, co, rfl⟩ := own_shape HO.out
    have HKr := hid ((HB.out.block H (lt_of_heap HK3.out)).trans HK3.out)
    by_cases hlt : k < n
    · obtain ⟨s, hs⟩ : ∃ s, L[k]? = some s := ⟨_, List.getElem?_eq_getElem (by have := HNN.out; omega)⟩
      obtain ⟨b1, o1, e1, hb1, d0, d1⟩ := rdSp_at HO3.out hs
      subst e1
      replace d0 := (HB.out.cell (p := ⟨b1, _, none⟩) hb1).trans d0
      replace d1 := (HB.out.cell (p := ⟨b1, _, none⟩) hb1).trans d1
      have hs2 := HLI.out s (List.mem_of_getElem? hs)
      have hs1 := HL1.out s (List.mem_of_getElem? hs)
      have HX2 : Hid (X ++ [widS c N s] = (L.take (k + 1)).map (widS c N)) := hid (by rw [HX.out, List.take_add_one, hs, List.map_append]; rfl)
      obtain ⟨f, t⟩ := s
      dsimp only at d0 d1 hs1 hs2
      have i1 : (0 : Int) ≤ (k : Int) := by omega
      have i2 : (k : Int) < (n : Int) := by omega
      have k1 : IntKind.i64.wrap ((f : Int) - (c : Int)) = (f : Int) - (c : Int) := wrapOk (by omega) (by omega)
      have k2 : IntKind.i64.wrap ((t : Int) + (c : Int)) = (t : Int) + (c : Int) := wrapOk (by omega) (by omega)
      obtain ⟨P, Q, hPQ⟩ : ∃ P Q : Nat, (P, Q) = widS c N (f, t) := ⟨_, _, rfl⟩
      rw [← hPQ] at HX2
      have hP : P = f - c := congrArg Prod.fst hPQ
      have hQ : Q = min (t + c) N := congrArg Prod.snd hPQ
      have k3 : max ((f : Int) - (c : Int)) 0 = (P : Int) := by omega
      have k4 : min ((t : Int) + (c : Int)) (N : Int) = (Q : Int) := by omega
      have hXl : X.length < 6000000000000 := by have := HXL.out; omega
      have hbG := (Below.refl wr.heap.size wr).alloc (Nat.le_refl _) (.cells #[.int .i64 f, .int .i64 t] 75)
      have hkG := heap_alloc_new wr (.cells #[.int .i64 f, .int .i64 t] 75)
      have q5 : (wr.alloc (.cells #[.int .i64 f, .int .i64 t] 75)).cell? ⟨H, 5, none⟩ = some (.slice av N cv) := cell_of_blk ((hbG.block H (lt_of_heap HKr.out)).trans HKr.out) 5
      have hbP := (Below.refl (wr.alloc (.cells #[.int .i64 f, .int .i64 t] 75)).heap.size (wr.alloc (.cells #[.int .i64 f, .int .i64 t] 75))).alloc (Nat.le_refl _) (.cells #[.int .i64 P, .int .i64 Q] 75)
      have HOP := hid (own_stays (own_stays HO.out hbG) hbP)
      have HBP := hid ((HB.out.trans (hbG.mono HB.out.size)).trans (hbP.mono (HB.out.trans (hbG.mono HB.out.size)).size))
      have HGE := hid (own_ge HOP.out)
      have HT3 := hid ((two' wr (.cells #[.int .i64 f, .int .i64 t] 75) (.cells #[.int .i64 P, .int .i64 Q] 75)).2.2.1)
      clear hs hb1 hPQ hP hQ hbG hkG hbP
      go_wp2_with (at_builtin; refine wpList_append_sp rfl _ _ rfl w3.heap.size _ X rfl HOP.out (wr.heap.size + 1) (P, Q) rfl HT3.out hXl HBP.out.size ?_; intro v8 w8 hO8 hg8 hl8; have HO8 := hid hO8; have HB8 := hid (HBP.out.grown hg8 HBP.out.size HGE.out); clear hO8 hg8 hl8)
      go_roundw
      case rel => exact ⟨k + 1, X ++ [(P, Q)], by omega, by go_num, HX2, hid (by rw [List.length_append, List.length_singleton, HXL.out]), HO8, HB8⟩
      case measure => simp [intOf]; omega
    · obtain rfl : k = n := by omega
      have HE : Hid (X = L.map (widS c N)) := hid (by rw [HX.out]; rw [List.take_of_length_le (by have := HNN.out; omega)])
      have HBW := hid (HB3.out.trans (HB.out.mono HB3.out.size))
      have HRS : Hid (RdSp wr (.slice ao X.length co) (L.map (widS c N))) := hid (by have h := own_rd HO.out; rw [HE.out] at h ⊢; exact h)
      obtain ⟨q0, q1, q2, q3, q4, q5⟩ : wr.cell? ⟨H, 0, none⟩ = some (.int .i64 xa) ∧ wr.cell? ⟨H, 1, none⟩ = some (.int .i64 xn) ∧ wr.cell? ⟨H, 2, none⟩ = some (.int .i64 xb) ∧ wr.cell? ⟨H, 3, none⟩ = some (.int .i64 xm) ∧ wr.cell? ⟨H, 4, none⟩ = some (.string xh) ∧ wr.cell? ⟨H, 5, none⟩ = some (.slice av N cv) := ⟨cell_of_blk HKr.out 0, cell_of_blk HKr.out 1, cell_of_blk HKr.out 2, cell_of_blk HKr.out 3, cell_of_blk HKr.out 4, cell_of_blk HKr.out 5⟩
      obtain ⟨xl, hxl⟩ : ∃ xl, xl = X.length := ⟨_, rfl⟩
      rw [← hxl] at HRS ⊢
      clear hxl
      go_wp2_with fail
      refine (HPI.out _ _ HBW.out HRS.out).mono ?_
      rintro e w5 ⟨v5, rfl, hO5, hb5⟩
      obtain ⟨a5, c5, e5⟩ := hO5.shape
      subst e5
      have HO5 := hid (hO5.mono HBW.out.size)
      have HB5 := hid (HBW.out.trans (hb5.mono HBW.out.size))
      clear hO5 hb5
      go_wp2_with fail
      go_ret2
      exact ⟨_, rfl, HO5.out, HB5.out⟩
end Go.Proofs.YtddmfdjkkikapaaGreatDoor
/-
  The walk of the law HunksNarrow.
-/
namespace Go.Proofs.YtddmfdjkkikapaaGreatDoor
open Go.RowKit
open Hu (Rw Hk)

set_option maxHeartbeats 1500000 in
set_option maxRecDepth 100000 in
theorem narrow_any {w : World} {h : Hk} {v : Value} {ctx : Int} (hv : RdW w v h.rows) (hz : SzH h) :
    Calls Tryz.prog 11 #[HkV h v, .int .i64 ctx] w fun e w' => ∃ v', e = .returned (.tuple #[v', errV (narN h ctx)]) ∧ OwnH w' w.heap.size v' (narA h ctx) ∧ Below w.heap.size w w' := by
  by_cases hc : ctxOk ctx = true
  · have hc2 := hc
    unfold ctxOk at hc2
    simp at hc2
    by_cases hvl : Hu.vld h = true
    · have e1 : narN h ctx = 0 := by unfold narN; rw [if_pos hc, if_pos hvl]
      have := narrow_ok hv hz hvl hc2.1 hc2.2
      unfold narA
      rw [if_pos e1, e1, errV_zero]
      obtain ⟨c, rfl⟩ := Int.eq_ofNat_of_zero_le hc2.1
      rw [Int.toNat_natCast] at this ⊢
      rw [nD_groups (Hu.vld_parts hvl).1]
      exact this
    · have e1 : narN h ctx = 100 := by unfold narN; rw [if_pos hc, if_neg hvl]
      have e2 : narA h ctx = [] := by unfold narA; rw [e1]; rfl
      rw [e1, e2]
      have HIC := hid (fun w1 => isContext_any ctx w1)
      rw [hc] at HIC
      have HVA := hid (fun w1 (hb : Below w.heap.size w w1) => hvalid_any (h := h) (hv.below hb) hz)
      rw [show vldN h = 100 by unfold vldN; rw [if_neg hvl], errV_pos (by decide)] at HVA
      rw [errV_pos (by decide)]
      obtain ⟨av, cv, rfl⟩ := hv.shape
      obtain ⟨xa, xn, xb, xm, xh, xr⟩ := h
      dsimp only at HVA ⊢
      unfold HkV at HVA ⊢
      dsimp only at HVA ⊢
      obtain ⟨N, hN⟩ : ∃ N, N = xr.length := ⟨_, rfl⟩
      rw [← hN] at HVA ⊢
      have hbH := (Below.refl w.heap.size w).alloc (Nat.le_refl _) (.cells #[.int .i64 xa, .int .i64 xn, .int .i64 xb, .int .i64 xm, .string xh, .slice av N cv] 37)
      have hkH := heap_alloc_new w (.cells #[.int .i64 xa, .int .i64 xn, .int .i64 xb, .int .i64 xm, .string xh, .slice av N cv] 37)
      clear hv hz hvl hc e1 e2 hN hc2
      go_enter Tryz.func11, Tryz.ntmps11
      go_wp2_with fail
      obtain ⟨H, hH⟩ : ∃ H, H = w.heap.size := ⟨_, rfl⟩
      have HH := hid hH
      rw [← hH] at hkH ⊢
      generalize w.alloc (.cells #[.int .i64 xa, .int .i64 xn, .int .i64 xb, .int .i64 xm, .string xh, .slice av N cv] 37) = w1 at hbH hkH ⊢
      refine (HIC.out w1).mono ?_
      rintro e w1' ⟨rfl, h1⟩
      rw [h1]
      clear h1 hH
      have q0 : w1.cell? ⟨H, 0, none⟩ = some (.int .i64 xa) := cell_of_blk hkH 0
      have q1 : w1.cell? ⟨H, 1, none⟩ = some (.int .i64 xn) := cell_of_blk hkH 1
      have q2 : w1.cell? ⟨H, 2, none⟩ = some (.int .i64 xb) := cell_of_blk hkH 2
      have q3 : w1.cell? ⟨H, 3, none⟩ = some (.int .i64 xm) := cell_of_blk hkH 3
      have q4 : w1.cell? ⟨H, 4, none⟩ = some (.string xh) := cell_of_blk hkH 4
      have q5 : w1.cell? ⟨H, 5, none⟩ = some (.slice av N cv) := cell_of_blk hkH 5
      clear hkH
      go_wp2_with fail
      refine (HVA.out w1 hbH).mono ?_
      rintro e w2 ⟨rfl, hb2⟩
      have HB2 := hid (hbH.trans (hb2.mono hbH.size))
      clear hbH hb2 HVA q0 q1 q2 q3 q4 q5
      go_wp2_with fail
      go_ret2
      exact ⟨_, rfl, OwnH.nil _ _, HH.out ▸ HB2.out⟩
  · have e1 : narN h ctx = 1 := by unfold narN; rw [if_neg hc]
    have e2 : narA h ctx = [] := by unfold narA; rw [e1]; rfl
    rw [e1, e2, errV_pos (by decide)]
    have HIC := hid (fun w1 => isContext_any ctx w1)
    rw [Bool.not_eq_true] at hc
    rw [hc] at HIC
    obtain ⟨av, cv, rfl⟩ := hv.shape
    obtain ⟨xa, xn, xb, xm, xh, xr⟩ := h
    dsimp only
    unfold HkV
    dsimp only
    have hbH := (Below.refl w.heap.size w).alloc (Nat.le_refl _) (.cells #[.int .i64 xa, .int .i64 xn, .int .i64 xb, .int .i64 xm, .string xh, .slice av xr.length cv] 37)
    clear hv hz e1 e2 hc
    go_enter Tryz.func11, Tryz.ntmps11
    go_wp2_with fail
    refine (HIC.out _).mono ?_
    rintro e w1' ⟨rfl, h1⟩
    rw [h1]
    clear h1
    go_wp2_with fail
    go_ret2
    exact ⟨_, rfl, OwnH.nil _ _, hbH⟩
end Go.Proofs.YtddmfdjkkikapaaGreatDoor
