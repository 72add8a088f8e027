/-
  Several texts in one: Ma, Md, Me, Mf, Mg, Mh, Mi, Mj.
-/
import Derived.Test.YtddmfdjkkikapaaGreatDoorGrC
import Derived.Test.YtddmfdjkkikapaaGreatDoorGrKa
import Derived.Test.YtddmfdjkkikapaaGreatDoorGrJ9
import Derived.Test.YtddmfdjkkikapaaGreatDoorGrLb
import Derived.Test.YtddmfdjkkikapaaGreatDoorGrD2
import Derived.Test.YtddmfdjkkikapaaGreatDoorGrKc
import Derived.Test.YtddmfdjkkikapaaGreatDoorGrMb
import Derived.Test.YtddmfdjkkikapaaGreatDoorGrJd
/-
  slices.Clone of rows; the document's cut.
-/
namespace Go.Proofs.YtddmfdjkkikapaaGreatDoor
open Go.RowKit
open Hu (Rw Hk)
open Ed (Ch)

set_option maxHeartbeats 1000000 in
set_option maxRecDepth 100000 in
theorem clone_any {w : World} {v : Value} {l : List Rw} (hv : RdW w v l) (hne : l ≠ []) (hl : l.length < 5864062014800) :
    Calls Tryz.prog 63 #[v] w fun e w' => ∃ v', e = .returned v' ∧ OwnW w' w.heap.size v' l ∧ Below w.heap.size w w' := by
  have hpos : 0 < l.length := List.length_pos_iff.2 hne
  rcases hv with ⟨h0, _⟩ | ⟨b, o, c, rfl, hc, hb, hX⟩
  · omega
  have hb1 := (Below.refl w.heap.size w).alloc (Nat.le_refl _) (.cells #[] 59)
  have HB1 := hid hb1
  have hk1 := heap_alloc_new w (.cells #[] 59)
  have HX : Hid (∀ j u, (rwsC l)[j]? = some u → (w.alloc (.cells #[] 59)).cell? ((⟨b, o, none⟩ : Addr).add j) = some u) := hid (fun j u hj => by
    rw [Go.WideShapes.add_plain]
    exact (hb1.cell (p := ⟨b, o + j, none⟩) hb).trans (hX j u hj))
  have HO1 : Hid ((w.alloc (.cells #[] 59)).ownsRow w.heap.size 59 2 (.slice (some ⟨w.heap.size, 0, none⟩) 0 0) 0 []) := hid ⟨rfl, .inr ⟨w.heap.size, 0, #[], rfl, Nat.le_refl _, hk1, Nat.le_refl _, by decide, rfl, rfl⟩⟩
  obtain ⟨i0, hi, hz0, hz1, hz2⟩ := info_parts Tryz.infoRow
  obtain ⟨n, hn⟩ : ∃ n, n = l.length := ⟨_, rfl⟩
  have HN := hid hn
  rw [← hn] at hpos hl hc ⊢
  have HRL : Hid ((rwsC l).length = n * 2) := hid (by rw [rwsC_length, hn])
  have hrun : (binOp .eql 35 (.slice (some ⟨b, o, none⟩) n c) (.slice none 0 0)).run Tryz.prog w = .ok (.bool false) w := by kernel_rfl
  clear hn hb1 hX hk1
  go_enter Tryz.func63, Tryz.ntmps63
  go_wp2_with (at_builtin; refine wpList_append_lies _ rfl _ _ 35 rfl w.heap.size 59 i0 (.agg #[.int .i64 0, .string .empty]) 2 24 Tryz.underlying35 hi hz0 hz1 hz2 rfl (by decide) _ 0 [] rfl HO1.out ⟨b, o, none⟩ n c (rwsC l) rfl HRL.out HX.out (rwsC_one l) hpos (by unfold maxLen; omega) (by omega) (Below.size HB1.out) w.heap.size.succ (by simp) ?_; intro g cap w2 g2 g3 g4 g5; have HO2 := hid g2; have HB2 := hid (HB1.out.grown g3 (Below.size HB1.out) (own_ge HO1.out)); clear g2 g3 g4 g5)
  go_ret
  refine ⟨_, rfl, ?_, HB2.out⟩
  have h2 := HO2.out
  rw [Nat.zero_add, List.nil_append] at h2
  show World.ownsRow _ _ _ _ _ l.length _
  rw [← HN.out]
  exact h2
theorem rdW_take {w : World} {a : Option Addr} {c n : Nat} {l : List Rw} (h : RdW w (.slice a l.length c) l) (hn : n ≤ l.length) : RdW w (.slice a n c) (l.take n) := by
  have hlen : (l.take n).length = n := by rw [List.length_take]; omega
  show RdX _ _ _ _
  rw [hlen]
  rcases Nat.eq_zero_or_pos n with rfl | hpos
  · exact .inl ⟨rfl, _, _, rfl⟩
  · rcases h with ⟨h0, _⟩ | ⟨b, o, c', hv, hc, hb, hX⟩
    · omega
    · cases hv
      refine .inr ⟨b, o, c, rfl, by omega, hb, fun j u hj => hX j u ?_⟩
      have hjl : j < (rwsC (l.take n)).length := (List.getElem?_eq_some_iff.1 hj).1
      have e : rwsC l = rwsC (l.take n) ++ rwsC (l.drop n) := by rw [← rwsC_append, List.take_append_drop]
      rw [e, List.getElem?_append_left hjl]
      exact hj
theorem arg_sliced {a : Option Addr} {n c x y s : Nat} (h : ArgS (.slice a n c)) (hx : x ≤ y) (hy : y ≤ n) : ArgS (.slice (if c = x then a else a.map (·.add s)) (y - x) (c - x)) := by
  rcases h with h | ⟨ad, n', c', h⟩
  · cases h
    obtain rfl : y = 0 := by omega
    obtain rfl : x = 0 := by omega
    exact .inl rfl
  · cases h
    split
    · exact .inr ⟨_, _, _, rfl⟩
    · exact .inr ⟨_, _, _, rfl⟩
/-- the document's piece of a hunk -/
def cutP (h : Hk) (f t : Nat) : Hk := Hu.hunkAt (Hu.plc h.a h.n + (Hu.olds (h.rows.take f)).length) (Hu.plc h.b h.m + (Hu.fres (h.rows.take f)).length) (Hu.sub h.rows f t)
set_option maxHeartbeats 1000000 in
set_option maxRecDepth 100000 in
theorem rCut_any {w : World} {h : Hk} {v : Value} {f t : Nat} (hv : RdW w v h.rows) (hA : ArgS v) (hl : h.rows.length < 5864062014800) (hp : 0 ≤ Hu.plc h.a h.n ∧ Hu.plc h.a h.n ≤ 4294967296 ∧ 0 ≤ Hu.plc h.b h.m ∧ Hu.plc h.b h.m ≤ 4294967296) (hpl : PlH h) (hft : f ≤ t) (ht : t ≤ h.rows.length) :
    Calls Tryz.prog 53 #[HkV h v, .int .i64 f, .int .i64 t] w fun e w' => ∃ v', e = .returned (HkV (cutP h f t) v') ∧ OwnW w' w.heap.size v' (cutP h f t).rows ∧ Below w.heap.size w w' := by
  obtain ⟨av, cv, rfl⟩ := hv.shape
  have hcap := rd_cap hv
  have HV := hid hv
  obtain ⟨xa, xn, xb, xm, xh, xr⟩ := h
  unfold HkV
  dsimp only at HV hl hp ht hcap ⊢
  obtain ⟨n, hn⟩ : ∃ n, n = xr.length := ⟨_, rfl⟩
  have HTK := hid (fun w1 (hb : Below w.heap.size w w1) => rCounts_any (rdW_take (HV.out.below hb) (show f ≤ xr.length by omega)) (show (xr.take f).length < 5864062014800 by rw [List.length_take]; omega))
  obtain ⟨A1, hA1⟩ : ∃ A1, (if cv = f then av else av.map (·.add (f * 2))) = A1 := ⟨_, rfl⟩
  have HSL := hid (fun w1 (hb : Below w.heap.size w w1) => rdW_sliced (HV.out.below hb) (x := f) (y := t) hft ht)
  rw [hA1] at HSL
  have HAS := hid (arg_sliced (s := f * 2) hA hft ht)
  rw [hA1] at HAS
  obtain ⟨RW, hRW⟩ : ∃ RW, RW = Hu.sub xr f t := ⟨_, rfl⟩
  have hRl : RW.length = t - f := by rw [hRW]; unfold Hu.sub; rw [List.length_take, List.length_drop]; omega
  have HSL2 : Hid (∀ w1, Below w.heap.size w w1 → RdX w1 (.slice A1 (t - f) (cv - f)) (t - f) (rwsC RW)) := hid (fun w1 hb => by
    have := HSL.out w1 hb
    show RdX _ _ _ _
    have e : RW = (xr.drop f).take (t - f) := hRW
    rw [← e] at this
    have h2 : RdX w1 (.slice A1 (t - f) (cv - f)) RW.length (rwsC RW) := this
    rw [hRl] at h2
    exact h2)
  have hol := Hu.olds_len (xr.take f)
  have hfl := Hu.fres_len (xr.take f)
  have htl : (xr.take f).length ≤ n := by rw [hn]; exact List.length_take_le' _ _
  rw [← hn] at hl ht hcap ⊢
  obtain ⟨O1, hO1⟩ : ∃ O1 : Nat, O1 = (Hu.olds (xr.take f)).length := ⟨_, rfl⟩
  obtain ⟨F1, hF1⟩ : ∃ F1 : Nat, F1 = (Hu.fres (xr.take f)).length := ⟨_, rfl⟩
  rw [← hO1, ← hF1] at HTK
  obtain ⟨P, hP⟩ : ∃ P, P = Hu.plc xa xn := ⟨_, rfl⟩
  obtain ⟨Q, hQ⟩ : ∃ Q, Q = Hu.plc xb xm := ⟨_, rfl⟩
  have HP1 := hid (fun w1 => rPlace_any xa xn w1 hpl.1 hpl.2.1)
  have HP2 := hid (fun w1 => rPlace_any xb xm w1 hpl.2.2.1 hpl.2.2.2)
  rw [← hP] at HP1 hp
  rw [← hQ] at HP2 hp
  obtain ⟨PA, hPA⟩ : ∃ PA : Int, PA = P + O1 := ⟨_, rfl⟩
  obtain ⟨PB, hPB⟩ : ∃ PB : Int, PB = Q + F1 := ⟨_, rfl⟩
  have s1 : IntKind.i64.wrap (P + (O1 : Int)) = PA := (wrapOk (by omega) (by omega)).trans hPA.symm
  have s2 : IntKind.i64.wrap (Q + (F1 : Int)) = PB := (wrapOk (by omega) (by omega)).trans hPB.symm
  have hPAb : 0 ≤ PA ∧ PA ≤ 5868357000000 ∧ 0 ≤ PB ∧ PB ≤ 5868357000000 := by omega
  have HCT : Hid (cutP ⟨xa, xn, xb, xm, xh, xr⟩ f t = Hu.hunkAt PA PB RW) := hid (by unfold cutP; simp only; rw [← hP, ← hQ, ← hO1, ← hF1, ← hPA, ← hPB, ← hRW])
  have hrl : RW.length < 5864062014800 := by omega
  have HRL := hid hRl
  have hTFl : t - f < 5864062014800 := by omega
  have j1 : (0 : Int) ≤ (f : Int) := by omega
  have j2 : (f : Int) ≤ (t : Int) := by omega
  have j3 : (t : Int) ≤ (cv : Int) := by omega
  have j4 : (f : Int) ≤ (cv : Int) := by omega
  obtain ⟨t1, t2, t3, t4⟩ := two' w (.cells #[.int .i64 xa, .int .i64 xn, .int .i64 xb, .int .i64 xm, .string xh, .slice av n cv] 37) (.cells #[.int .i64 0, .int .i64 0, .int .i64 0, .int .i64 0, .string ⟨#[]⟩, .slice none 0 0] 37)
  clear hn hRW hRl hol hfl htl hO1 hF1 hP hQ hPA hPB hA hv hpl hp
  go_enter Tryz.func53, Tryz.ntmps53
  go_wp2_with fail
  obtain ⟨H, hH⟩ : ∃ H, H = w.heap.size := ⟨_, rfl⟩
  obtain ⟨R, hR⟩ : ∃ R, R = H + 1 := ⟨_, rfl⟩
  rw [← hH] at t2 t3 ⊢
  rw [← hR] at t3 ⊢
  have HH := hid hH
  have HR := hid hR
  generalize (w.alloc (.cells #[.int .i64 xa, .int .i64 xn, .int .i64 xb, .int .i64 xm, .string xh, .slice av n cv] 37)).alloc (.cells #[.int .i64 0, .int .i64 0, .int .i64 0, .int .i64 0, .string ⟨#[]⟩, .slice none 0 0] 37) = w1 at t1 t2 t3 ⊢
  clear hH hR t4
  have HB1 := hid t1
  refine (HTK.out w1 HB1.out).mono ?_
  rintro e w2 ⟨rfl, hb2⟩
  have HB2 := hid (HB1.out.trans (hb2.mono HB1.out.size))
  have m1 := (hb2.block H (lt_of_heap t2)).trans t2
  have m2 := (hb2.block R (lt_of_heap t3)).trans t3
  have M1 := hid m1
  have M2 := hid m2
  have d0 : w2.cell? ⟨H, 0, none⟩ = some (.int .i64 xa) := cell_of_blk m1 0
  have d1 : w2.cell? ⟨H, 1, none⟩ = some (.int .i64 xn) := cell_of_blk m1 1
  have d2 : w2.cell? ⟨H, 2, none⟩ = some (.int .i64 xb) := cell_of_blk m1 2
  have d3 : w2.cell? ⟨H, 3, none⟩ = some (.int .i64 xm) := cell_of_blk m1 3
  have d5 : w2.cell? ⟨H, 5, none⟩ = some (.slice av n cv) := cell_of_blk m1 5
  clear hb2 t1 t2 t3 m1 m2 HTK
  have HS1 := hid (fun (k : Nat) w9 => rStated_any PA k w9 (by omega) (by omega))
  have HS2 := hid (fun (k : Nat) w9 => rStated_any PB k w9 (by omega) (by omega))
  go_wp2_with fail
  refine (HP1.out _).mono ?_
  rintro e w3 ⟨rfl, h3⟩
  rw [h3]
  clear h3
  go_wp2_with fail
  refine (HP2.out _).mono ?_
  rintro e w3 ⟨rfl, h3⟩
  rw [h3]
  clear h3
  have HSR := hid (HSL2.out w2 HB2.out)
  have hRWl : (rwsC RW).length = (t - f) * 2 := by rw [rwsC_length, HRL.out]
  have HRWL := hid hRWl
  clear hRWl
  go_wp2_with (at_builtin; refine wpList_append_new rfl _ _ 35 59 rfl Tryz.underlying35 Tryz.infoRow rfl (by decide) rfl _ (t - f) (rwsC RW) rfl HSR.out HAS.out HRWL.out (rwsC_one RW) (by unfold maxLen; omega) (by omega) ?_; intro v4 w4 hO4 hb4; have HO4' : OwnW w4 w2.heap.size v4 RW := (by show World.ownsRow _ _ _ _ _ RW.length _; rw [HRL.out]; exact hO4); obtain ⟨a4, c4, e4⟩ := own_shape HO4'; subst e4; have HO4 := hid HO4'; have HB4 := hid (HB2.out.trans (hb4.mono HB2.out.size)); have N1 := hid ((hb4.block R (lt_of_heap M2.out)).trans M2.out); clear hO4 hb4 HO4')
  refine (rCounts_any (own_rd HO4.out) hrl).mono ?_
  rintro e w8 ⟨rfl, hb8⟩
  have HO8 := hid (own_stays HO4.out hb8)
  have HBW8 := hid (HB4.out.trans (hb8.mono HB4.out.size))
  have HR8 := hid ((hb8.block R (lt_of_heap N1.out)).trans N1.out)
  obtain ⟨ON, hON⟩ : ∃ ON : Nat, ON = (Hu.olds RW).length := ⟨_, rfl⟩
  obtain ⟨FN, hFN⟩ : ∃ FN : Nat, FN = (Hu.fres RW).length := ⟨_, rfl⟩
  obtain ⟨TX, hTX⟩ : ∃ TX, TX = Hu.told PA ON := ⟨_, rfl⟩
  obtain ⟨TY, hTY⟩ : ∃ TY, TY = Hu.told PB FN := ⟨_, rfl⟩
  rw [← hON, ← hFN]
  have HHV : Hid (∀ u, HkV (cutP ⟨xa, xn, xb, xm, xh, xr⟩ f t) u = .agg #[.int .i64 TX, .int .i64 (ON : Int), .int .i64 TY, .int .i64 (FN : Int), .string ⟨#[]⟩, u]) := hid (fun u => by rw [HCT.out, hTX, hTY, hON, hFN]; rfl)
  have HRW : Hid ((cutP ⟨xa, xn, xb, xm, xh, xr⟩ f t).rows = RW) := hid (by rw [HCT.out]; rfl)
  have HT1 := hid (HS1.out ON)
  have HT2 := hid (HS2.out FN)
  rw [← hTX] at HT1
  rw [← hTY] at HT2
  clear hb8 hTX hTY hON hFN d0 d1 d2 d3 d5 HS1 HS2
  have z0 : w8.cell? ⟨R, 0, none⟩ = some (.int .i64 0) := cell_of_blk HR8.out 0
  have z1 : w8.cell? ⟨R, 1, none⟩ = some (.int .i64 0) := cell_of_blk HR8.out 1
  have z2 : w8.cell? ⟨R, 2, none⟩ = some (.int .i64 0) := cell_of_blk HR8.out 2
  have z3 : w8.cell? ⟨R, 3, none⟩ = some (.int .i64 0) := cell_of_blk HR8.out 3
  have z4 : w8.cell? ⟨R, 4, none⟩ = some (.string ⟨#[]⟩) := cell_of_blk HR8.out 4
  have z5 : w8.cell? ⟨R, 5, none⟩ = some (.slice none 0 0) := cell_of_blk HR8.out 5
  have zf : ∀ j, w8.frozen? ⟨R, j, none⟩ = false := fun j => frozen_of_blk HR8.out j
  have HWR : Hid (w.heap.size ≤ R) := hid (by rw [HR.out, HH.out]; omega)
  have HOR : Hid (∀ q, (Value.slice a4 RW.length c4).ownBlock = some q → q ≠ R) := hid (fun q hq => by
    have := own_ge HO8.out q hq
    have := lt_of_heap M2.out
    omega)
  have hk6 := set_heap _ R 5 _ _ (.slice a4 RW.length c4) (set_heap _ R 4 _ _ (.string ⟨#[]⟩) (set_heap _ R 3 _ _ (.int .i64 (FN : Int)) (set_heap _ R 2 _ _ (.int .i64 TY) (set_heap _ R 1 _ _ (.int .i64 (ON : Int)) (set_heap _ R 0 _ _ (.int .i64 TX) HR8.out)))))
  have HB9 := hid (below_set (k := 5) (u := .slice a4 RW.length c4) (below_set (k := 4) (u := .string ⟨#[]⟩) (below_set (k := 3) (u := .int .i64 (FN : Int)) (below_set (k := 2) (u := .int .i64 TY) (below_set (k := 1) (u := .int .i64 (ON : Int)) (below_set (k := 0) (u := .int .i64 TX) HBW8.out HWR.out) HWR.out) HWR.out) HWR.out) HWR.out) HWR.out)
  have HO9 : Hid (OwnW ((((((w8.setCell ⟨R, 0, none⟩ (.int .i64 TX)).setCell ⟨R, 1, none⟩ (.int .i64 (ON : Int))).setCell ⟨R, 2, none⟩ (.int .i64 TY)).setCell ⟨R, 3, none⟩ (.int .i64 (FN : Int))).setCell ⟨R, 4, none⟩ (.string ⟨#[]⟩)).setCell ⟨R, 5, none⟩ (.slice a4 RW.length c4)) w2.heap.size (.slice a4 RW.length c4) RW) := hid (own_far HO8.out (fun q hq => by
    have hne : q ≠ R := HOR.out q hq
    exact (set_other _ hne).trans ((set_other _ hne).trans ((set_other _ hne).trans ((set_other _ hne).trans ((set_other _ hne).trans (set_other _ hne)))))))
  have HSZ : Hid (w.heap.size ≤ w2.heap.size) := hid HB2.out.size
  go_wp2_with fail
  refine (HT1.out w8).mono ?_
  rintro e w9 ⟨rfl, h9⟩
  rw [h9]
  clear h9
  go_wp2_with fail
  refine (HT2.out _).mono ?_
  rintro e w9 ⟨rfl, h9⟩
  rw [h9]
  clear h9
  go_wp2_with fail
  generalize ((((((w8.setCell ⟨R, 0, none⟩ (.int .i64 TX)).setCell ⟨R, 1, none⟩ (.int .i64 (ON : Int))).setCell ⟨R, 2, none⟩ (.int .i64 TY)).setCell ⟨R, 3, none⟩ (.int .i64 (FN : Int))).setCell ⟨R, 4, none⟩ (.string ⟨#[]⟩)).setCell ⟨R, 5, none⟩ (.slice a4 RW.length c4)) = w9 at hk6 HB9 HO9 ⊢
  have y0 : w9.cell? ⟨R, 0, none⟩ = some (.int .i64 TX) := cell_of_blk hk6 0
  have y1 : w9.cell? ⟨R, 1, none⟩ = some (.int .i64 (ON : Int)) := cell_of_blk hk6 1
  have y2 : w9.cell? ⟨R, 2, none⟩ = some (.int .i64 TY) := cell_of_blk hk6 2
  have y3 : w9.cell? ⟨R, 3, none⟩ = some (.int .i64 (FN : Int)) := cell_of_blk hk6 3
  have y4 : w9.cell? ⟨R, 4, none⟩ = some (.string ⟨#[]⟩) := cell_of_blk hk6 4
  have y5 : w9.cell? ⟨R, 5, none⟩ = some (.slice a4 RW.length c4) := cell_of_blk hk6 5
  exact bodyPost_ret (v := .agg #[.int .i64 TX, .int .i64 (ON : Int), .int .i64 TY, .int .i64 (FN : Int), .string ⟨#[]⟩, .slice a4 RW.length c4]) (by simp [results, Tryz.results53, go_sem, y0, y1, y2, y3, y4, y5]) rfl ⟨.slice a4 RW.length c4, by have h5 := HHV.out (.slice a4 RW.length c4); unfold HkV at h5; rw [h5], by rw [HRW.out]; exact own_mono HO9.out HSZ.out, HB9.out⟩
end Go.Proofs.YtddmfdjkkikapaaGreatDoor
/-
  The document's Narrow.
-/
namespace Go.Proofs.YtddmfdjkkikapaaGreatDoor
open Go.RowKit
open Hu (Rw Hk)
open Ed (Ch)

/-- the pieces' spans, as the document goes through the rows -/
def nD (c N : Nat) : List Rw → Nat → Option Nat → Nat → List Sp
  | [], _, fr, last => [(fr.getD 0, last + min c (N - last))]
  | r :: l, i, fr, last => if r.k = 1 then nD c N l (i + 1) fr last else
    match fr with
    | none => nD c N l (i + 1) (some (i - min c i)) (i + 1)
    | some f => if last + 2 * c < i then (f, last + c) :: nD c N l (i + 1) (some (i - min c i)) (i + 1) else nD c N l (i + 1) (some f) (i + 1)
theorem nD_both {c N : Nat} {r : Rw} {l : List Rw} {i last : Nat} {fr : Option Nat} (h : r.k = 1) : nD c N (r :: l) i fr last = nD c N l (i + 1) fr last := by cases fr <;> rw [nD, if_pos h]
theorem nD_none {c N : Nat} {r : Rw} {l : List Rw} {i last : Nat} (h : ¬ r.k = 1) : nD c N (r :: l) i none last = nD c N l (i + 1) (some (i - min c i)) (i + 1) := by rw [nD, if_neg h]
theorem nD_some {c N : Nat} {r : Rw} {l : List Rw} {i last f : Nat} (h : ¬ r.k = 1) : nD c N (r :: l) i (some f) last = if last + 2 * c < i then (f, last + c) :: nD c N l (i + 1) (some (i - min c i)) (i + 1) else nD c N l (i + 1) (some f) (i + 1) := by rw [nD, if_neg h]
/-- the first one has the head -/
def headed (hd : ByteArray) : List Hk → List Hk
  | [] => []
  | h :: l => { h with head := hd } :: l
def narN (h : Hk) (ctx : Int) : Nat := if ctxOk ctx then (if Hu.vld h then 0 else 100) else 1
def narA (h : Hk) (ctx : Int) : List Hk := if narN h ctx = 0 then headed h.head ((nD ctx.toNat h.rows.length h.rows 0 none 0).map fun s => cutP h s.1 s.2) else []
/-- the first hunk's head written over -/
theorem ownH_head {w : World} {B g n cap : Nat} {x : Hk} {l : List Hk} {hd : ByteArray} (h : OwnH w B (.slice (some ⟨g, 0, none⟩) n cap) (x :: l)) : OwnH (w.setCell ⟨g, 4, none⟩ (.string hd)) B (.slice (some ⟨g, 0, none⟩) n cap) (headed hd (x :: l)) := by
  obtain ⟨p, h1, h2, h3⟩ := h
  cases p with
  | nil => simp at h1
  | cons q p =>
    obtain ⟨y, u⟩ := q
    rw [List.map_cons, List.cons.injEq] at h1
    obtain ⟨rfl, h1⟩ := h1
    obtain ⟨g1, ⟨hv, _⟩ | ⟨g', cap', cur, hv, hB, hh, hc, hm, hsz, htk⟩⟩ := h2
    · cases hv
    · have hv2 : g = g' ∧ n = (y :: l).length ∧ cap = cap' := by
        simp only [Value.slice.injEq, Option.some.injEq, Addr.mk.injEq, and_true] at hv
        exact hv
      obtain ⟨rfl, rfl, rfl⟩ := hv2
      have hne : ∀ q : Hk × Value, OwnW w B q.2 q.1.rows → q.2.ownBlock ≠ some g := fun q hq => own_ne hq hh (by decide)
      refine ⟨({ y with head := hd }, u) :: p, by rw [List.map_cons, h1]; rfl, ⟨?_, .inr ⟨g, cap, cur.setIfInBounds 4 (.string hd), rfl, hB, set_heap w g 4 _ _ _ hh, hc, hm, by rw [Array.size_setIfInBounds]; exact hsz, ?_⟩⟩, fun q hq => ?_⟩
      · rw [hksC_length, List.length_cons]; rw [hksC_length, List.length_cons] at g1; exact g1
      · rw [Array.toList_setIfInBounds]
        show ((cur.toList.set 4 (.string hd)).take ((y :: l).length * 6)) = _
        rw [List.take_set, htk]
        rfl
      · rcases List.mem_cons.1 hq with rfl | hq
        · have h9 := h3 (y, u) (by simp)
          exact own_far h9 (fun k hk => set_other _ (fun e => hne (y, u) h9 (by rw [← e]; exact hk)))
        · have h9 := h3 q (by simp [hq])
          exact own_far h9 (fun k hk => set_other _ (fun e => hne q h9 (by rw [← e]; exact hk)))
/-- what holds between two rounds of the document's Narrow -/
structure NdI (h : Hk) (c i : Nat) (fr : Option Nat) (last : Nat) (D : List Sp) (X : List Hk) : Prop where
  all : nD c h.rows.length h.rows 0 none 0 = D ++ nD c h.rows.length (h.rows.drop i) i fr last
  x : X = D.map fun s => cutP h s.1 s.2
  le : last ≤ i
  fle : ∀ f, fr = some f → f ≤ last ∧ 1 ≤ last
  none_ : fr = none → D = [] ∧ last = 0
  xl : X.length ≤ i
  nn : fr = none → ∀ r ∈ h.rows.take i, r.k = 1
def frI : Option Nat → Int
  | none => -1
  | some f => f
theorem ownH_some {w : World} {B : Nat} {v : Value} {x : Hk} {l : List Hk} (h : OwnH w B v (x :: l)) : ∃ g cap cur, v = .slice (some ⟨g, 0, none⟩) (x :: l).length cap ∧ B ≤ g ∧ w.heap[g]? = some (.cells cur 37) ∧ 6 ≤ cur.size := by
  obtain ⟨p, h1, h2, h3⟩ := h
  obtain ⟨g1, ⟨hv, hn⟩ | ⟨g, cap, cur, hv, hB, hh, hc, hm, hsz, htk⟩⟩ := h2
  · simp at hn
  · refine ⟨g, cap, cur, hv, hB, hh, ?_⟩
    rw [hsz]
    rw [List.length_cons] at hc
    omega
/-- a hunk that may be has no more rows than lines -/
theorem rows_le {l : List Rw} (h : l.all (fun r => r.k == 1 || Hu.isC r) = true) : l.length ≤ (Hu.olds l).length + (Hu.fres l).length := by
  induction l with
  | nil => exact Nat.zero_le _
  | cons r l ih =>
    rw [List.all_cons, Bool.and_eq_true] at h
    have h2 := ih h.2
    have h1 := h.1
    unfold Hu.olds Hu.fres at h2 ⊢
    simp only [List.length_map] at h2 ⊢
    by_cases e : Hu.isO r
    · rw [List.filter_cons_of_pos e, List.length_cons, List.length_cons]
      have := (List.Sublist.filter Hu.isF (List.sublist_cons_self r l)).length_le
      omega
    · have f : Hu.isF r := by
        unfold Hu.isO at e
        unfold Hu.isC at h1
        unfold Hu.isF
        simp at e h1 ⊢
        omega
      rw [List.filter_cons_of_pos f, List.length_cons, List.length_cons]
      have := (List.Sublist.filter Hu.isO (List.sublist_cons_self r l)).length_le
      omega
end Go.Proofs.YtddmfdjkkikapaaGreatDoor
/-
  The document's pieces and the program's groups: the same spans.
-/
namespace Go.Proofs.YtddmfdjkkikapaaGreatDoor
open Go.RowKit
open Hu (Rw Hk)

/-- the groups, from the front -/
def gR (c : Nat) : List Sp → Option Sp → List Sp
  | [], none => []
  | [], some q => [q]
  | r :: rs, none => gR c rs (some r)
  | r :: rs, some q => if r.1 ≤ q.2 + 2 * c then gR c rs (some (q.1, r.2)) else q :: gR c rs (some r)
theorem gR_none (c : Nat) (r : Sp) (rs : List Sp) : gR c (r :: rs) none = gR c rs (some r) := by rw [gR]
theorem gR_some (c : Nat) (r q : Sp) (rs : List Sp) : gR c (r :: rs) (some q) = if r.1 ≤ q.2 + 2 * c then gR c rs (some (q.1, r.2)) else q :: gR c rs (some r) := by rw [gR]
theorem gR_fold (c : Nat) (rs : List Sp) : (∀ A q, rs.foldl (gstep c) (A ++ [q]) = A ++ gR c rs (some q)) ∧ rs.foldl (gstep c) [] = gR c rs none := by
  induction rs with
  | nil => exact ⟨fun A q => rfl, rfl⟩
  | cons r rs ih =>
    refine ⟨fun A q => ?_, ?_⟩
    · rw [List.foldl_cons]
      unfold gstep
      rw [List.getLast?_concat]
      dsimp only
      rw [gR]
      by_cases h : r.1 ≤ q.2 + 2 * c
      · rw [if_pos h, if_pos (by omega), List.dropLast_concat]
        exact ih.1 A (q.1, r.2)
      · rw [if_neg h, if_neg (by omega)]
        refine (ih.1 (A ++ [q]) r).trans ?_
        rw [List.append_assoc]
        rfl
    · rw [List.foldl_cons, gR]
      exact ih.1 [] r
theorem gfold_gR (c : Nat) (rs : List Sp) : gfold c rs = gR c rs none := (gR_fold c rs).2
/-- a run that is under way -/
theorem runs_open (l : List Rw) (i : Nat) : ∃ t rs, ∀ f, f < i → Hu.runsR l i f = (f, t) :: rs := by
  induction l generalizing i with
  | nil => exact ⟨i, [], fun f h => by rw [Hu.runsR, Hu.run1, if_pos h]⟩
  | cons r l ih =>
    by_cases e : Hu.isC r = true
    · obtain ⟨t, rs, h⟩ := ih (i + 1)
      exact ⟨t, rs, fun f hf => by rw [Hu.runsR, if_pos e]; exact h f (by omega)⟩
    · exact ⟨i, Hu.runsR l (i + 1) (i + 1), fun f hf => by rw [Hu.runsR, if_neg e, Hu.run1, if_pos hf]; rfl⟩
theorem run1_none (i : Nat) : Hu.run1 i i = [] := by rw [Hu.run1, if_neg (Nat.lt_irrefl i)]
/-- a group with its context -/
def widS (c N : Nat) (s : Sp) : Sp := (s.1 - c, min (s.2 + c) N)
theorem nD_gR (c N : Nat) (l : List Rw) : ∀ i, i + l.length = N → l.all (fun r => r.k == 1 || Hu.isC r) = true →
    (∀ last, l.any Hu.isC = true → nD c N l i none last = (gR c (Hu.runsR l i i) none).map (widS c N)) ∧
    (∀ q : Sp, q.1 ≤ q.2 → q.2 ≤ i → nD c N l i (some (q.1 - min c q.1)) q.2 = (gR c (Hu.runsR l i i) (some q)).map (widS c N)) ∧
    (∀ g, g < i → nD c N l i (some (g - min c g)) i = (gR c (Hu.runsR l i g) none).map (widS c N)) := by
  induction l with
  | nil =>
    intro i hi _
    rw [List.length_nil] at hi
    refine ⟨fun last h => (by cases h), fun q h1 h2 => ?_, fun g hg => ?_⟩
    · rw [Hu.runsR, run1_none, gR, nD]
      simp only [Option.getD_some, List.map_cons, List.map_nil, widS]
      congr 2 <;> omega
    · rw [Hu.runsR, Hu.run1, if_pos hg, gR, gR, nD]
      simp only [Option.getD_some, List.map_cons, List.map_nil, widS]
      congr 2 <;> omega
  | cons r l ih =>
    intro i hi ha
    rw [List.length_cons] at hi
    rw [List.all_cons, Bool.and_eq_true] at ha
    obtain ⟨p0, p1, p2⟩ := ih (i + 1) (by omega) ha.2
    by_cases hk : r.k = 1
    · have hc : ¬ Hu.isC r = true := by unfold Hu.isC; rw [hk]; decide
      refine ⟨fun last h => ?_, fun q h1 h2 => ?_, fun g hg => ?_⟩
      · rw [nD_both hk, Hu.runsR, if_neg hc, run1_none, List.nil_append]
        refine p0 last ?_
        rw [List.any_cons, Bool.or_eq_true] at h
        rcases h with h | h
        · exact absurd h hc
        · exact h
      · rw [nD_both hk, Hu.runsR, if_neg hc, run1_none, List.nil_append]
        exact p1 q h1 (by omega)
      · rw [nD_both hk, Hu.runsR, if_neg hc, Hu.run1, if_pos hg]
        show _ = (gR c ((g, i) :: Hu.runsR l (i + 1) (i + 1)) none).map _
        rw [gR]
        exact p1 (g, i) (by show g ≤ i; omega) (by show i ≤ i + 1; omega)
    · have hc : Hu.isC r = true := by
        have := ha.1
        rw [Bool.or_eq_true] at this
        rcases this with h | h
        · exact absurd (by simpa using h) hk
        · exact h
      refine ⟨fun last _ => ?_, fun q h1 h2 => ?_, fun g hg => ?_⟩
      · rw [nD_none hk, Hu.runsR, if_pos hc]
        exact p2 i (by omega)
      · rw [nD_some hk, Hu.runsR, if_pos hc]
        obtain ⟨t, rs, ho⟩ := runs_open l (i + 1)
        have q0 := p2 i (by omega)
        have q1 := p2 q.1 (by omega)
        rw [ho i (by omega)] at q0 ⊢
        rw [ho q.1 (by omega)] at q1
        rw [gR_none] at q0 q1
        rw [gR_some]
        by_cases hg : q.2 + 2 * c < i
        · rw [if_pos hg, if_neg (by show ¬ i ≤ _; omega), List.map_cons, q0]
          unfold widS
          congr 2 <;> omega
        · rw [if_neg hg, if_pos (by show i ≤ _; omega)]
          exact q1
      · rw [nD_some hk, Hu.runsR, if_pos hc, if_neg (by omega)]
        exact p2 g (by omega)
theorem nD_groups {c : Nat} {l : List Rw} (h : Hu.areR l = true) : nD c l.length l 0 none 0 = (gfold c (Hu.runsR l 0 0)).map (widS c l.length) := by
  unfold Hu.areR at h
  rw [Bool.and_eq_true] at h
  rw [gfold_gR]
  exact (nD_gR c l.length l 0 (by omega) h.1).1 0 h.2
end Go.Proofs.YtddmfdjkkikapaaGreatDoor
/-
  A list of hunks that is made, and written into.
-/
namespace Go.Proofs.YtddmfdjkkikapaaGreatDoor
open Go.RowKit
open Hu (Rw Hk)

def zH : Hk := ⟨0, 0, 0, 0, .empty, []⟩
def zHV : Value := .agg #[.int .i64 0, .int .i64 0, .int .i64 0, .int .i64 0, .string .empty, .slice none 0 0]
theorem mkH (n : Nat) (hn : n ≤ 4294967296) (w : World) : (Instr.makeSlice 26 (.int .i64 (n : Int)) (.int .i64 (n : Int))).run Tryz.prog w = .ok (.slice (some ⟨w.heap.size, 0, none⟩) n n) (w.alloc (.cells (madeCells zHV.cells (n * 6)) 37)) := by
  obtain ⟨i, hi, h1, h2, h3⟩ := info_parts Tryz.infoHunk
  have := run_make (P := Tryz.prog) w 26 37 i zHV Tryz.underlying26 hi h1 .i64 .i64 n n (by omega) (by omega) (by rw [h3]; omega) (by omega)
  rw [h2] at this
  simpa using this
theorem made_hks (n : Nat) : (madeCells zHV.cells (n * 6)).toList = hksC (List.replicate n (zH, .slice none 0 0)) := by
  apply List.ext_getElem?
  intro j
  by_cases hj : j < n * 6
  · have e1 : (List.replicate n (zH, (.slice none 0 0 : Value)))[j / 6]? = some (zH, .slice none 0 0) := by
      rw [List.getElem?_replicate, if_pos (by omega)]
    have e2 := hksC_get e1 (j % 6) (Nat.mod_lt _ (by decide))
    rw [show j / 6 * 6 + j % 6 = j by omega] at e2
    rw [e2]
    unfold madeCells
    rw [Array.toList_map, Array.toList_range, List.getElem?_map, List.getElem?_range hj]
    have hm : j % 6 < 6 := Nat.mod_lt _ (by decide)
    show some (zHV.cells[j % 6]!) = _
    generalize j % 6 = m at hm
    match m, hm with
    | 0, _ => rfl
    | 1, _ => rfl
    | 2, _ => rfl
    | 3, _ => rfl
    | 4, _ => rfl
    | 5, _ => rfl
  · rw [List.getElem?_eq_none (by unfold madeCells; simp; omega), List.getElem?_eq_none (by rw [hksC_length, List.length_replicate]; omega)]
theorem ownH_made (n : Nat) (hn : n ≤ 4294967296) (w : World) : OwnH (w.alloc (.cells (madeCells zHV.cells (n * 6)) 37)) w.heap.size (.slice (some ⟨w.heap.size, 0, none⟩) n n) (List.replicate n zH) := by
  refine ⟨List.replicate n (zH, .slice none 0 0), by simp, ⟨by rw [hksC_length, List.length_replicate, List.length_replicate], .inr ⟨w.heap.size, n, _, by rw [List.length_replicate], Nat.le_refl _, heap_alloc_new w _, by rw [List.length_replicate]; exact Nat.le_refl _, by unfold maxLen; omega, by unfold madeCells; simp, ?_⟩⟩, fun q hq => ?_⟩
  · rw [made_hks, List.length_replicate]
    exact List.take_of_length_le (by rw [hksC_length, List.length_replicate]; exact Nat.le_refl _)
  · rw [List.eq_of_mem_replicate hq]
    exact World.ownsRow_nil _ _ _ _
/-- one hunk of the list written over -/
theorem ownH_put {w : World} {B g n cap o i : Nat} {x k : Hk} {l : List Hk} {u : Value} (h : OwnH w B (.slice (some ⟨g, 0, none⟩) n cap) l) (hx : l[i]? = some x) (ho : o = i * 6) (hu : OwnW w B u k.rows) :
    OwnH ((((((w.setCell ⟨g, o, none⟩ (.int .i64 k.a)).setCell ⟨g, o + 1, none⟩ (.int .i64 k.n)).setCell ⟨g, o + 2, none⟩ (.int .i64 k.b)).setCell ⟨g, o + 3, none⟩ (.int .i64 k.m)).setCell ⟨g, o + 4, none⟩ (.string k.head)).setCell ⟨g, o + 5, none⟩ u) B (.slice (some ⟨g, 0, none⟩) n cap) (l.set i k) := by
  obtain ⟨p, h1, h2, h3⟩ := h
  obtain ⟨g1, ⟨hv, _⟩ | ⟨g', cap', cur, hv, hB, hh, hc, hm, hsz, htk⟩⟩ := h2
  · cases hv
  have hv2 : g = g' ∧ n = l.length ∧ cap = cap' := by
    simp only [Value.slice.injEq, Option.some.injEq, Addr.mk.injEq, and_true] at hv
    exact hv
  obtain ⟨rfl, rfl, rfl⟩ := hv2
  have hil : i < l.length := (List.getElem?_eq_some_iff.1 hx).1
  have hpl : p.length = l.length := by rw [← h1, List.length_map]
  have hne : ∀ q : Hk × Value, OwnW w B q.2 q.1.rows → q.2.ownBlock ≠ some g := fun q hq => own_ne hq hh (by decide)
  have hh6 := set_heap _ g (o + 5) _ _ u (set_heap _ g (o + 4) _ _ (.string k.head) (set_heap _ g (o + 3) _ _ (.int .i64 k.m) (set_heap _ g (o + 2) _ _ (.int .i64 k.b) (set_heap _ g (o + 1) _ _ (.int .i64 k.n) (set_heap w g o _ _ (.int .i64 k.a) hh)))))
  have hfar : ∀ j, j ≠ g → ((((((w.setCell ⟨g, o, none⟩ (.int .i64 k.a)).setCell ⟨g, o + 1, none⟩ (.int .i64 k.n)).setCell ⟨g, o + 2, none⟩ (.int .i64 k.b)).setCell ⟨g, o + 3, none⟩ (.int .i64 k.m)).setCell ⟨g, o + 4, none⟩ (.string k.head)).setCell ⟨g, o + 5, none⟩ u).heap[j]? = w.heap[j]? := by
    intro j hj
    rw [set_other _ hj, set_other _ hj, set_other _ hj, set_other _ hj, set_other _ hj, set_other _ hj]
  generalize ((((((w.setCell ⟨g, o, none⟩ (.int .i64 k.a)).setCell ⟨g, o + 1, none⟩ (.int .i64 k.n)).setCell ⟨g, o + 2, none⟩ (.int .i64 k.b)).setCell ⟨g, o + 3, none⟩ (.int .i64 k.m)).setCell ⟨g, o + 4, none⟩ (.string k.head)).setCell ⟨g, o + 5, none⟩ u) = w6 at hh6 hfar ⊢
  refine ⟨p.set i (k, u), by rw [List.map_set, h1], ⟨by rw [hksC_length, List.length_set, List.length_set, hpl], .inr ⟨g, cap, _, by rw [List.length_set], hB, hh6, by rw [List.length_set]; exact hc, hm, by simp only [Array.size_setIfInBounds]; exact hsz, ?_⟩⟩, fun q hq => ?_⟩
  · simp only [Array.toList_setIfInBounds, List.length_set, List.take_set, htk]
    obtain ⟨y, hy⟩ : ∃ y, p[i]? = some y := ⟨_, List.getElem?_eq_getElem (by omega)⟩
    have hp := List.take_append_drop i p
    have hd : p.drop i = y :: p.drop (i + 1) := List.drop_eq_getElem_cons (by omega) |>.trans (by rw [List.getElem?_eq_getElem (by omega)] at hy; cases hy; rfl)
    rw [hd] at hp
    have hA : (p.take i).length = i := by rw [List.length_take]; omega
    have hAL : (hksC (p.take i)).length = o := by rw [hksC_length, hA, ho]
    have hset : ∀ (j : Nat) (v : Value) (R : List Value), (hksC (p.take i) ++ R).set (o + j) v = hksC (p.take i) ++ R.set j v := by
      intro j v R
      rw [List.set_append_right _ _ (by omega), show o + j - (hksC (p.take i)).length = j by omega]
    have e0 : hksC p = hksC (p.take i) ++ (hkC y ++ hksC (p.drop (i + 1))) := by
      conv => lhs; rw [← hp]
      rw [hksC_append]
      rfl
    have e1 : p.set i (k, u) = p.take i ++ (k, u) :: p.drop (i + 1) := by
      rw [List.set_eq_take_append_cons_drop, if_pos (by omega)]
    rw [e1, e0, hksC_append]
    have h0 := hset 0 (.int .i64 k.a)
    rw [Nat.add_zero] at h0
    rw [h0, hset, hset, hset, hset, hset]
    rfl
  · have hq' : OwnW w B q.2 q.1.rows := by
      rcases List.mem_or_eq_of_mem_set hq with hq | rfl
      · exact h3 q hq
      · exact hu
    exact own_far hq' (fun j hj => hfar j (fun e => hne q hq' (by rw [← e]; exact hj)))
end Go.Proofs.YtddmfdjkkikapaaGreatDoor
/-
  The program's pieces.
-/
namespace Go.Proofs.YtddmfdjkkikapaaGreatDoor
open Go.RowKit
open Hu (Rw Hk)

theorem mkH2 (n : Nat) (hn : n ≤ 4294967296) : ∃ C : Array Value, (∀ w : World, (Instr.makeSlice 26 (.int .i64 (n : Int)) (.int .i64 (n : Int))).run Tryz.prog w = .ok (.slice (some ⟨w.heap.size, 0, none⟩) n n) (w.alloc (.cells C 37))) ∧ ∀ w : World, OwnH (w.alloc (.cells C 37)) w.heap.size (.slice (some ⟨w.heap.size, 0, none⟩) n n) (List.replicate n zH) := ⟨_, fun w => mkH n hn w, fun w => ownH_made n hn w⟩
/-- a store into a block of another type -/
theorem ownH_far {w : World} {B q k : Nat} {v u : Value} {l : List Hk} {cs : Array Value} {t : TypeId} (h : OwnH w B v l) (hq : w.heap[q]? = some (.cells cs t)) (h1 : 37 ≠ t) (h2 : 59 ≠ t) : OwnH (w.setCell ⟨q, k, none⟩ u) B v l := by
  obtain ⟨p, e1, e2, e3⟩ := h
  refine ⟨p, e1, own_far e2 (fun j hj => set_other _ (fun e => own_ne e2 hq h1 (by rw [← e]; exact hj))), fun x hx => ?_⟩
  have e4 := e3 x hx
  exact own_far e4 (fun j hj => set_other _ (fun e => own_ne e4 hq h2 (by rw [← e]; exact hj)))
theorem ownH_cells {w : World} {B g n cap : Nat} {l : List Hk} (h : OwnH w B (.slice (some ⟨g, 0, none⟩) n cap) l) : ∃ cur : Array Value, w.heap[g]? = some (.cells cur 37) ∧ n * 6 ≤ cur.size ∧ n = l.length := by
  obtain ⟨p, h1, h2, h3⟩ := h
  obtain ⟨g1, ⟨hv, _⟩ | ⟨g', cap', cur, hv, hB, hh, hc, hm, hsz, htk⟩⟩ := h2
  · cases hv
  have hv2 : g = g' ∧ n = l.length ∧ cap = cap' := by
    simp only [Value.slice.injEq, Option.some.injEq, Addr.mk.injEq, and_true] at hv
    exact hv
  obtain ⟨rfl, rfl, rfl⟩ := hv2
  exact ⟨cur, hh, by rw [hsz]; exact Nat.mul_le_mul_right 6 hc, rfl⟩
theorem cell_there {w : World} {g o : Nat} {cs : Array Value} {t : TypeId} (h : w.heap[g]? = some (.cells cs t)) (ho : o < cs.size) : w.cell? ⟨g, o, none⟩ = some cs[o] := by
  rw [cell_of_blk h o]; exact Array.getElem?_eq_getElem ho
theorem alloc_one (w : World) (o : Obj) : (w.alloc o).heap.size = w.heap.size + 1 := World.size_alloc ..
end Go.Proofs.YtddmfdjkkikapaaGreatDoor
/-
  The program's pieces.
-/
namespace Go.Proofs.YtddmfdjkkikapaaGreatDoor
open Go.RowKit
open Hu (Rw Hk)

set_option maxHeartbeats 1500000 in
set_option maxRecDepth 100000 in
theorem pieces_any {w : World} {h : Hk} {v vs : Value} {ss : List Sp} (hv : RdW w v h.rows) (hs : RdSp w vs ss) (hl : h.rows.length ≤ 4294967296) (hk : Kd h.rows) (hp : 0 ≤ Hu.plc h.a h.n ∧ Hu.plc h.a h.n ≤ 4294967296 ∧ 0 ≤ Hu.plc h.b h.m ∧ Hu.plc h.b h.m ≤ 4294967296) (hpl : PlH h)
    (hne : ss ≠ []) (hsl : ss.length ≤ 4294967296) (hin : ∀ s ∈ ss, s.1 < s.2 ∧ s.2 ≤ h.rows.length) (hord : ∀ i s t, ss[i]? = some s → ss[i + 1]? = some t → s.1 ≤ t.1) :
    Calls Tryz.prog 35 #[HkV h v, vs] w fun e w' => ∃ v', e = .returned v' ∧ OwnH w' w.heap.size v' (headed h.head (ss.map fun s => cutP h s.1 s.2)) ∧ Below w.heap.size w w' := by
  obtain ⟨av, cv, rfl⟩ := hv.shape
  obtain ⟨sv, sc, rfl⟩ := hs.shape
  have hcap := rd_cap hv
  have HV := hid hv
  have HS := hid hs
  have HIN := hid hin
  have HOR := hid hord
  have HBG := hid (fun w1 => begin_any (h := h) (v := .slice av h.rows.length cv) w1 hpl)
  obtain ⟨xa, xn, xb, xm, xh, xr⟩ := h
  dsimp only at *
  obtain ⟨P, hP⟩ : ∃ P, P = Hu.plc xa xn := ⟨_, rfl⟩
  obtain ⟨Q, hQ⟩ : ∃ Q, Q = Hu.plc xb xm := ⟨_, rfl⟩
  rw [← hP, ← hQ] at HBG hp
  have HP := hid hP
  have HQ := hid hQ
  unfold HkV SpV at HBG
  unfold HkV
  dsimp only at HBG ⊢
  obtain ⟨N, hN⟩ : ∃ N, N = xr.length := ⟨_, rfl⟩
  have HN := hid hN
  obtain ⟨n, hn⟩ : ∃ n, n = ss.length := ⟨_, rfl⟩
  have HNN := hid hn
  have hn0 : 0 < n := by rw [hn]; exact List.length_pos_iff.2 hne
  rw [← hN] at HBG hl hcap ⊢
  rw [← hn] at hsl ⊢
  have HKD := hid hk
  obtain ⟨C, hmk, hmo⟩ := mkH2 n hsl
  have HMO := hid hmo
  clear hmo
  clear hv hs hin hord hpl hP hQ hN hn hne hk
  go_enter Tryz.func35, Tryz.ntmps35
  go_wp2_with fail
  obtain ⟨t1, t2, t3, t4⟩ := two' w (.cells #[.int .i64 xa, .int .i64 xn, .int .i64 xb, .int .i64 xm, .string xh, .slice av N cv] 37) (.cells C 37)
  have s1 : (w.alloc (.cells #[.int .i64 xa, .int .i64 xn, .int .i64 xb, .int .i64 xm, .string xh, .slice av N cv] 37)).heap.size = w.heap.size + 1 := alloc_one _ _
  have hO := HMO.out (w.alloc (.cells #[.int .i64 xa, .int .i64 xn, .int .i64 xb, .int .i64 xm, .string xh, .slice av N cv] 37))
  rw [s1] at hO
  generalize (w.alloc (.cells #[.int .i64 xa, .int .i64 xn, .int .i64 xb, .int .i64 xm, .string xh, .slice av N cv] 37)).alloc (.cells C 37) = w1 at t1 t2 t3 t4 hO ⊢
  obtain ⟨H, hH⟩ : ∃ H, H = w.heap.size := ⟨_, rfl⟩
  have HH := hid hH
  rw [← hH] at t2 t4 hO ⊢
  refine (HBG.out w1).mono ?_
  rintro e w2 ⟨rfl, hb2⟩
  have HB2 := hid (t1.trans (hb2.mono t1.size))
  have HK2 := hid ((hb2.block H (lt_of_heap t2)).trans t2)
  have HO2 := hid ((hO.stays hb2).mono (show H ≤ H + 1 by omega))
  have hz2 : H + 2 ≤ w2.heap.size := by have := hb2.size; omega
  clear t1 t2 t3 t4 hO hb2 hmk HBG s1 hH
  have hbA := (Below.refl w2.heap.size w2).alloc (Nat.le_refl _) (.cells #[.int .i64 P, .int .i64 Q] 78)
  have hkA := heap_alloc_new w2 (.cells #[.int .i64 P, .int .i64 Q] 78)
  go_wp2_with fail
  obtain ⟨A, hA⟩ : ∃ A, A = w2.heap.size := ⟨_, rfl⟩
  have hAH : H + 2 ≤ A := by omega
  have HB3 := hid (HB2.out.trans (hbA.mono HB2.out.size))
  have HK3 := hid ((hbA.block H (lt_of_heap HK2.out)).trans HK2.out)
  have HO3 := hid (HO2.out.stays hbA)
  have HA3 := hid hkA
  rw [← hA] at HA3 ⊢
  generalize w2.alloc (.cells #[.int .i64 P, .int .i64 Q] 78) = w3 at HB3 HK3 HO3 HA3 ⊢
  clear hbA hkA HB2 HK2 HO2 hz2 hA
  go_loopw [7, 17] (fun dd ii wr => ∃ (k d : Nat) (X : List Hk), k ≤ n ∧ d ≤ N ∧ dd = .int .i64 d ∧ ii = .int .i64 k ∧ Hid (∀ s, ss[k]? = some s → d ≤ s.1) ∧ Hid (wr.heap[A]? = some (.cells #[.int .i64 (P + (Hu.olds (xr.take d)).length), .int .i64 (Q + (Hu.fres (xr.take d)).length)] 78)) ∧ Hid (wr.heap[H]? = some (.cells #[.int .i64 xa, .int .i64 xn, .int .i64 xb, .int .i64 xm, .string xh, .slice av N cv] 37)) ∧ Hid (X = ((ss.take k).map fun s => cutP ⟨xa, xn, xb, xm, xh, xr⟩ s.1 s.2) ++ List.replicate (n - k) zH) ∧ Hid (OwnH wr H (.slice (some ⟨H + 1, 0, none⟩) n n) X) ∧ Hid (Below w.heap.size w wr)) (fun _ ii _ => n - (intOf ii).toNat)
  case atStart => exact ⟨0, 0, List.replicate n zH, Nat.zero_le _, Nat.zero_le _, rfl, rfl, hid (fun _ _ => Nat.zero_le _), hid (by rw [HA3.out]; simp [Hu.olds, Hu.fres]), HK3, hid rfl, HO3, HB3⟩
  case round =>
    obtain ⟨k, d, X, hk, hd, rfl, rfl, HD, HA, HK, HX, HO, HB⟩ := hrel
    by_cases hlt : k < n
    · obtain ⟨s, hs⟩ : ∃ s, ss[k]? = some s := ⟨_, List.getElem?_eq_getElem (by have := HNN.out; omega)⟩
      obtain ⟨b1, o1, e1, hb1, d0, d1⟩ := rdSp_at HS.out hs
      subst e1
      replace d0 := (HB.out.cell (p := ⟨b1, _, none⟩) hb1).trans d0
      replace d1 := (HB.out.cell (p := ⟨b1, _, none⟩) hb1).trans d1
      have hds := HD.out s hs
      have hsi := HIN.out s (List.mem_of_getElem? hs)
      rw [← HN.out] at hsi
      have HDN : Hid (∀ t, ss[k + 1]? = some t → s.1 ≤ t.1) := hid (fun t ht => HOR.out k s t hs ht)
      have HSG := hid hs
      obtain ⟨f, t⟩ := s
      dsimp only at d0 d1 hds hsi HDN
      have i1 : (0 : Int) ≤ (k : Int) := by omega
      have i2 : (k : Int) < (n : Int) := by omega
      clear hs hb1
      have hbG := (Below.refl wr.heap.size wr).alloc (Nat.le_refl _) (.cells #[.int .i64 f, .int .i64 t] 75)
      have hkG := heap_alloc_new wr (.cells #[.int .i64 f, .int .i64 t] 75)
      go_wp2_with fail
      obtain ⟨G, hG⟩ : ∃ G, G = wr.heap.size := ⟨_, rfl⟩
      have HB4 := hid (HB.out.trans (hbG.mono HB.out.size))
      have HK4 := hid ((hbG.block H (lt_of_heap HK.out)).trans HK.out)
      have HA4 := hid ((hbG.block A (lt_of_heap HA.out)).trans HA.out)
      have HO4 := hid (HO.out.stays hbG)
      have HG4 := hid hkG
      rw [← hG] at HG4 ⊢
      generalize wr.alloc (.cells #[.int .i64 f, .int .i64 t] 75) = w4 at HB4 HK4 HO4 HA4 HG4 ⊢
      clear hbG hkG HB HK HO HA d0 d1 hG
      obtain ⟨O1, hO1⟩ : ∃ O1 : Int, O1 = P + (Hu.olds (xr.take d)).length := ⟨_, rfl⟩
      obtain ⟨F1, hF1⟩ : ∃ F1 : Int, F1 = Q + (Hu.fres (xr.take d)).length := ⟨_, rfl⟩
      obtain ⟨O2, hO2⟩ : ∃ O2 : Int, O2 = P + (Hu.olds (xr.take f)).length := ⟨_, rfl⟩
      obtain ⟨F2, hF2⟩ : ∃ F2 : Int, F2 = Q + (Hu.fres (xr.take f)).length := ⟨_, rfl⟩
      rw [← hO1, ← hF1] at HA4
      obtain ⟨e1, e2⟩ := Hu.olds_take_sub (l := xr) hds
      have hol := Hu.olds_len (xr.take f)
      have hfl := Hu.fres_len (xr.take f)
      have htl : (xr.take f).length ≤ N := by rw [HN.out]; exact List.length_take_le' _ _
      have q1 : O1 + (Hu.olds ((xr.drop d).take (f - d))).length = O2 ∧ F1 + (Hu.fres ((xr.drop d).take (f - d))).length = F2 := by unfold Hu.sub at e1 e2; omega
      have HC1 := hid (fun w1 (hr1 : RdW w1 (.slice av xr.length cv) xr) => behind_any (x := O1) (y := F1) (rdW_sliced hr1 (x := d) (y := f) hds (by have := HN.out; omega)) (by rw [List.length_take, List.length_drop]; have := HN.out; omega) (fun r hr => HKD.out r (List.mem_of_mem_drop (List.mem_of_mem_take hr))) (by omega) (by omega) (by omega) (by omega))
      rw [q1.1, q1.2] at HC1
      unfold SpV at HC1
      rw [if_neg (show ¬ cv = d by omega)] at HC1
      have hO2b : 0 ≤ O2 ∧ O2 ≤ 5868357000000 ∧ 0 ≤ F2 ∧ F2 ≤ 5868357000000 := by omega
      have HO2 := hid hO2
      have HF2 := hid hF2
      clear q1 e1 e2 hol hfl htl hO1 hF1 hO2 hF2
      have nGA : G ≠ A := blk_ne HG4.out HA4.out (by decide)
      have nHA : H ≠ A := blk_ne HK4.out HA4.out (by decide)
      have a0 : w4.cell? ⟨A, 0, none⟩ = some (.int .i64 O1) := cell_of_blk HA4.out 0
      have a1 : w4.cell? ⟨A, 1, none⟩ = some (.int .i64 F1) := cell_of_blk HA4.out 1
      have b5 : w4.cell? ⟨H, 5, none⟩ = some (.slice av N cv) := cell_of_blk HK4.out 5
      have g0 : w4.cell? ⟨G, 0, none⟩ = some (.int .i64 f) := cell_of_blk HG4.out 0
      have g1 : w4.cell? ⟨G, 1, none⟩ = some (.int .i64 t) := cell_of_blk HG4.out 1
      have z1 : (0 : Int) ≤ (d : Int) := by omega
      have z2 : (d : Int) ≤ (f : Int) := by omega
      have z3 : (f : Int) ≤ (cv : Int) := by omega
      have z4 : (f : Int) ≤ (t : Int) := by omega
      have z5 : (t : Int) ≤ (cv : Int) := by omega
      have z6 : (0 : Int) ≤ (f : Int) := by omega
      have hcd : ¬ cv = d := by omega
      have HR4 : Hid (∀ w5, Below w4.heap.size w4 w5 → RdW w5 (.slice av xr.length cv) xr) := hid (fun w5 hb => HV.out.below (HB4.out.trans (hb.mono HB4.out.size)))
      have HBD := hid (below_drew (Below.refl w4.heap.size w4))
      rw [← HN.out] at HC1
      refine wp_region_noPanic ?_
      refine wp_region_held_drew (S := fun w' => w'.cell? ⟨H, 5, none⟩ = some (.slice av N cv) ∧ w'.cell? ⟨G, 0, none⟩ = some (.int .i64 f)) (by kernel_rfl) ?S (fun hHeld => ?M)
      case S => exact ⟨(HBD.out.cell (p := ⟨H, 5, none⟩) (lt_of_heap HK4.out)).trans b5, (HBD.out.cell (p := ⟨G, 0, none⟩) (lt_of_heap HG4.out)).trans g0⟩
      refine wpAnyH_take (i := 1) (v := ?v1) rfl (by kernel_rfl) (by kernel_rfl) (by kernel_rfl) (fun _ _ _ h => h) (Or.inl ⟨by rfl, fun ww hSw => ?y1⟩) hHeld ?r1
      case y1 => (dsimp only at hSw; go_simp; all_goals with_reducible rfl)
      try simp only [Act.put]
      try simp only [List.setIfInBounds_toArray]
      try simp only [List.set]
      refine wpAnyH_take (i := 2) (v := ?v2) rfl (by kernel_rfl) (by kernel_rfl) (by kernel_rfl) (fun _ _ _ h => h) (Or.inl ⟨by rfl, fun ww hSw => ?y2⟩) hHeld ?r2
      case y2 => (dsimp only at hSw; go_simp; all_goals with_reducible rfl)
      try simp only [Act.put]
      try simp only [List.setIfInBounds_toArray]
      try simp only [List.set]
      refine wpAnyH_take (i := 3) (v := ?v3) rfl (by kernel_rfl) (by kernel_rfl) (by kernel_rfl) (fun _ _ _ h => h) (Or.inl ⟨by rfl, fun ww hSw => ?y3⟩) hHeld ?r3
      case y3 => (dsimp only at hSw; go_simp; all_goals with_reducible rfl)
      try simp only [Act.put]
      try simp only [List.setIfInBounds_toArray]
      try simp only [List.set]
      refine wpAnyH_take (i := 4) (v := ?v4) rfl (by kernel_rfl) (by kernel_rfl) (by kernel_rfl) (fun _ _ _ h => h) (Or.inl ⟨by rfl, fun ww hSw => ?y4⟩) hHeld ?r4
      case y4 => (dsimp only at hSw; go_simp; all_goals with_reducible rfl)
      try simp only [Act.put]
      try simp only [List.setIfInBounds_toArray]
      try simp only [List.set]
      refine wpAnyH_take (i := 5) (v := ?v5) rfl (by kernel_rfl) (by kernel_rfl) (by kernel_rfl) (fun _ _ _ h => h) (Or.inl ⟨by rfl, fun ww hSw => ?y5⟩) hHeld ?r5
      case y5 => (dsimp only at hSw; go_simp; all_goals with_reducible rfl)
      try simp only [Act.put]
      try simp only [List.setIfInBounds_toArray]
      try simp only [List.set]
      refine wpAnyH_take (i := 6) (v := ?v6) rfl (by kernel_rfl) (by kernel_rfl) (by kernel_rfl) (fun _ _ _ h => h) (Or.inl ⟨by rfl, fun ww hSw => ?y6⟩) hHeld ?r6
      case y6 => (dsimp only at hSw; go_simp; all_goals with_reducible rfl)
      try simp only [Act.put]
      try simp only [List.setIfInBounds_toArray]
      try simp only [List.set]
      refine wpAnyH_take (i := 8) (v := ?v8) rfl (by kernel_rfl) (by kernel_rfl) (by kernel_rfl) (fun _ _ _ h => h) (Or.inl ⟨by rfl, fun ww hSw => ?y8⟩) hHeld ?r8
      case y8 => (dsimp only at hSw; go_simp; all_goals with_reducible rfl)
      try simp only [Act.put]
      try simp only [List.setIfInBounds_toArray]
      try simp only [List.set]
      refine wpAnyH_take (i := 9) (v := ?v9) rfl (by kernel_rfl) (by kernel_rfl) (by kernel_rfl) (fun _ _ _ h => h) (Or.inl ⟨by rfl, fun ww hSw => ?y9⟩) hHeld ?r9
      case y9 => (dsimp only at hSw; go_simp; all_goals with_reducible rfl)
      try simp only [Act.put]
      try simp only [List.setIfInBounds_toArray]
      try simp only [List.set]
      refine wpAnyH_ready (rs := [0]) (by kernel_rfl) (by simp) ?p0
      refine AllReadyH.cons rfl (fun K hK => ?_) AllReadyH.nil
      go_simp
      refine hK.out _ _ ?S0 (fun hHeld => ?M0)
      case S0 => exact hHeld
      clear hK K
      try simp only [Act.put]
      try simp only [List.setIfInBounds_toArray]
      try simp only [List.set]
      refine wpAnyH_ready (rs := [7]) (by kernel_rfl) (by simp) ?p7
      refine AllReadyH.cons rfl (fun K hK => ?_) AllReadyH.nil
      go_simp
      refine (HC1.out _ (by rw [← HN.out] at HR4; exact HR4.out _ (by with_reducible exact HBD.out))).mono ?_
      rintro e w5 ⟨rfl, hbk⟩
      have HBK : Hid (Below w4.heap.size w4 w5) := hid ((below_drew (Below.refl w4.heap.size w4)).trans hbk)
      have HA5 := hid ((HBK.out.block A (lt_of_heap HA4.out)).trans HA4.out)
      have HK5 := hid ((HBK.out.block H (lt_of_heap HK4.out)).trans HK4.out)
      have HG5 := hid ((HBK.out.block G (lt_of_heap HG4.out)).trans HG4.out)
      have y0 : w5.cell? ⟨A, 0, none⟩ = some (.int .i64 O1) := cell_of_blk HA5.out 0
      have y1 : w5.cell? ⟨A, 1, none⟩ = some (.int .i64 F1) := cell_of_blk HA5.out 1
      have yf : ∀ j, w5.frozen? ⟨A, j, none⟩ = false := fun j => frozen_of_blk HA5.out j
      clear hbk
      go_wp2_with fail
      refine hK.out _ _ ?S7 (fun hHeld => ?M7)
      case S7 => exact ⟨cell_of_blk HK5.out 5, cell_of_blk HG5.out 0⟩
      clear hK K
      try simp only [Act.put]
      try simp only [List.setIfInBounds_toArray]
      try simp only [List.set]
      refine wpAnyH_ready (rs := [10]) (by kernel_rfl) (by simp) ?p10
      refine AllReadyH.cons rfl (fun K hK => ?_) AllReadyH.nil
      go_wp2_with fail
      refine hK.out _ _ ?S10 (fun hHeld => ?M10)
      case S10 => exact ⟨(cell_set_far nHA).trans ((cell_set_far nHA).trans (cell_of_blk HK5.out 5)), (cell_set_far nGA).trans ((cell_set_far nGA).trans (cell_of_blk HG5.out 0))⟩
      clear hK K
      try simp only [Act.put]
      try simp only [List.setIfInBounds_toArray]
      try simp only [List.set]
      refine wpAnyH_ready (rs := [11]) (by kernel_rfl) (by simp) ?p11
      refine AllReadyH.cons rfl (fun K hK => ?_) AllReadyH.nil
      go_simp
      refine hK.out _ _ ?S11 (fun hHeld => ?M11)
      case S11 => exact hHeld
      clear hK K
      try simp only [Act.put]
      try simp only [List.setIfInBounds_toArray]
      try simp only [List.set]
      refine wpAnyH_done (by kernel_rfl) ?_ _
      refine NoPanic.normal ?_
      have HA6 := hid (set_heap _ A 1 _ _ (.int .i64 F2) (set_heap _ A 0 _ _ (.int .i64 O2) HA5.out))
      have HK6 := hid ((set_other (w5.setCell ⟨A, 0, none⟩ (.int .i64 O2)) (k := 1) (u := .int .i64 F2) nHA).trans ((set_other w5 (k := 0) (u := .int .i64 O2) nHA).trans HK5.out))
      have HG6 := hid ((set_other (w5.setCell ⟨A, 0, none⟩ (.int .i64 O2)) (k := 1) (u := .int .i64 F2) nGA).trans ((set_other w5 (k := 0) (u := .int .i64 O2) nGA).trans HG5.out))
      have HB6 := hid (below_set (k := 1) (u := .int .i64 F2) (below_set (k := 0) (u := .int .i64 O2) (HB4.out.trans (HBK.out.mono HB4.out.size)) (show w.heap.size ≤ A by have := HH.out; omega)) (show w.heap.size ≤ A by have := HH.out; omega))
      have HO6 : Hid (OwnH ((w5.setCell ⟨A, 0, none⟩ (.int .i64 O2)).setCell ⟨A, 1, none⟩ (.int .i64 F2)) H (.slice (some ⟨H + 1, 0, none⟩) n n) X) := hid (ownH_far (ownH_far (HO4.out.stays HBK.out) HA5.out (by decide) (by decide)) (set_heap _ A 0 _ _ (.int .i64 O2) HA5.out) (by decide) (by decide))
      generalize (w5.setCell ⟨A, 0, none⟩ (.int .i64 O2)).setCell ⟨A, 1, none⟩ (.int .i64 F2) = w6 at HA6 HK6 HG6 HB6 HO6 ⊢
      clear HA5 HK5 HG5 HBK y0 y1 yf hHeld
      clear a0 a1 b5 g0 g1 HR4 HBD HC1 hcd HB4 HK4 HA4 HO4 HG4 z1 z2
      have a0 : w6.cell? ⟨A, 0, none⟩ = some (.int .i64 O2) := cell_of_blk HA6.out 0
      have a1 : w6.cell? ⟨A, 1, none⟩ = some (.int .i64 F2) := cell_of_blk HA6.out 1
      have b5 : w6.cell? ⟨H, 5, none⟩ = some (.slice av N cv) := cell_of_blk HK6.out 5
      have g0 : w6.cell? ⟨G, 0, none⟩ = some (.int .i64 f) := cell_of_blk HG6.out 0
      have g1 : w6.cell? ⟨G, 1, none⟩ = some (.int .i64 t) := cell_of_blk HG6.out 1
      have HSB := hid (fun w1 (hr1 : RdW w1 (.slice av xr.length cv) xr) => clone_any (rdW_sliced hr1 (x := f) (y := t) (Nat.le_of_lt hsi.1) (by have := HN.out; omega)) (fun e => by have := congrArg List.length e; rw [List.length_take, List.length_drop, List.length_nil] at this; have := HN.out; omega) (by rw [List.length_take, List.length_drop]; have := HN.out; omega))
      rw [if_neg (show ¬ cv = f by omega), ← HN.out] at HSB
      obtain ⟨U, hU⟩ : ∃ U, U = (xr.drop f).take (t - f) := ⟨_, rfl⟩
      have HU := hid hU
      rw [← hU] at HSB
      have HUl : Hid (U.length < 5864062014800 ∧ Kd U) := hid ⟨by rw [hU, List.length_take, List.length_drop]; have := HN.out; omega, fun r hr => HKD.out r (by rw [hU] at hr; exact List.mem_of_mem_drop (List.mem_of_mem_take hr))⟩
      clear hU
      have HHK := hid (fun w1 v1 (hr1 : RdW w1 v1 U) => hunk_any (x := O2) (y := F2) hr1 HUl.out.1 HUl.out.2 (by omega) (by omega) (by omega) (by omega))
      obtain ⟨ka, kn, kb, km, kh, kr, hhk⟩ : ∃ ka kn kb km kh kr, Hu.hunkAt O2 F2 U = ⟨ka, kn, kb, km, kh, kr⟩ := ⟨_, _, _, _, _, _, rfl⟩
      have HKE := hid hhk
      rw [hhk] at HHK
      unfold HkV SpV at HHK
      dsimp only at HHK
      have HRU : Hid (kr = U) := hid (by have := congrArg Hk.rows hhk; exact this.symm)
      clear hhk
      have HR6 : Hid (∀ w7, Below w6.heap.size w6 w7 → RdW w7 (.slice av N cv) xr) := hid (fun w7 hb => HN.out ▸ HV.out.below (HB6.out.trans (hb.mono HB6.out.size)))
      have HBD := hid (below_drew (Below.refl w6.heap.size w6))
      have hcf : ¬ cv = f := by omega
      have hk6 : k * 6 + 6 ≤ n * 6 := by omega
      have nHA6 : H + 1 ≠ A := by omega
      have nAL : A ≠ H + 1 := by omega
      have nHL : H ≠ H + 1 := by omega
      have nGL : G ≠ H + 1 := by
        obtain ⟨cur, h1, _, _⟩ := ownH_cells HO6.out
        exact blk_ne HG6.out h1 (by decide)
      go_wp2_with fail
      refine wp_region_noPanic ?_
      refine wp_region_held_drew (S := fun w' => w'.cell? ⟨A, 0, none⟩ = some (.int .i64 O2) ∧ w'.cell? ⟨A, 1, none⟩ = some (.int .i64 F2) ∧ w'.cell? ⟨H, 5, none⟩ = some (.slice av N cv) ∧ w'.cell? ⟨G, 0, none⟩ = some (.int .i64 f) ∧ w'.cell? ⟨G, 1, none⟩ = some (.int .i64 t)) (by kernel_rfl) ?Sb (fun hHeld => ?Mb)
      case Sb => exact ⟨(HBD.out.cell (p := ⟨A, 0, none⟩) (lt_of_heap HA6.out)).trans a0, (HBD.out.cell (p := ⟨A, 1, none⟩) (lt_of_heap HA6.out)).trans a1, (HBD.out.cell (p := ⟨H, 5, none⟩) (lt_of_heap HK6.out)).trans b5, (HBD.out.cell (p := ⟨G, 0, none⟩) (lt_of_heap HG6.out)).trans g0, (HBD.out.cell (p := ⟨G, 1, none⟩) (lt_of_heap HG6.out)).trans g1⟩
      refine wpAnyH_take (i := 0) (v := ?vb0) rfl (by kernel_rfl) (by kernel_rfl) (by kernel_rfl) (fun _ _ _ h => h) (Or.inl ⟨by rfl, fun ww hSw => ?yb0⟩) hHeld ?rb0
      case yb0 => (dsimp only at hSw; go_simp; all_goals with_reducible rfl)
      try simp only [Act.put]
      try simp only [List.setIfInBounds_toArray]
      try simp only [List.set]
      refine wpAnyH_take (i := 1) (v := ?vb1) rfl (by kernel_rfl) (by kernel_rfl) (by kernel_rfl) (fun _ _ _ h => h) (Or.inl ⟨by rfl, fun ww hSw => ?yb1⟩) hHeld ?rb1
      case yb1 => (dsimp only at hSw; go_simp; all_goals with_reducible rfl)
      try simp only [Act.put]
      try simp only [List.setIfInBounds_toArray]
      try simp only [List.set]
      refine wpAnyH_take (i := 2) (v := ?vb2) rfl (by kernel_rfl) (by kernel_rfl) (by kernel_rfl) (fun _ _ _ h => h) (Or.inl ⟨by rfl, fun ww hSw => ?yb2⟩) hHeld ?rb2
      case yb2 => (dsimp only at hSw; go_simp; all_goals with_reducible rfl)
      try simp only [Act.put]
      try simp only [List.setIfInBounds_toArray]
      try simp only [List.set]
      refine wpAnyH_take (i := 3) (v := ?vb3) rfl (by kernel_rfl) (by kernel_rfl) (by kernel_rfl) (fun _ _ _ h => h) (Or.inl ⟨by rfl, fun ww hSw => ?yb3⟩) hHeld ?rb3
      case yb3 => (dsimp only at hSw; go_simp; all_goals with_reducible rfl)
      try simp only [Act.put]
      try simp only [List.setIfInBounds_toArray]
      try simp only [List.set]
      refine wpAnyH_take (i := 4) (v := ?vb4) rfl (by kernel_rfl) (by kernel_rfl) (by kernel_rfl) (fun _ _ _ h => h) (Or.inl ⟨by rfl, fun ww hSw => ?yb4⟩) hHeld ?rb4
      case yb4 => (dsimp only at hSw; go_simp; all_goals with_reducible rfl)
      try simp only [Act.put]
      try simp only [List.setIfInBounds_toArray]
      try simp only [List.set]
      refine wpAnyH_take (i := 5) (v := ?vb5) rfl (by kernel_rfl) (by kernel_rfl) (by kernel_rfl) (fun _ _ _ h => h) (Or.inl ⟨by rfl, fun ww hSw => ?yb5⟩) hHeld ?rb5
      case yb5 => (dsimp only at hSw; go_simp; all_goals with_reducible rfl)
      try simp only [Act.put]
      try simp only [List.setIfInBounds_toArray]
      try simp only [List.set]
      refine wpAnyH_take (i := 6) (v := ?vb6) rfl (by kernel_rfl) (by kernel_rfl) (by kernel_rfl) (fun _ _ _ h => h) (Or.inl ⟨by rfl, fun ww hSw => ?yb6⟩) hHeld ?rb6
      case yb6 => (dsimp only at hSw; go_simp; all_goals with_reducible rfl)
      try simp only [Act.put]
      try simp only [List.setIfInBounds_toArray]
      try simp only [List.set]
      refine wpAnyH_take (i := 7) (v := ?vb7) rfl (by kernel_rfl) (by kernel_rfl) (by kernel_rfl) (fun _ _ _ h => h) (Or.inl ⟨by rfl, fun ww hSw => ?yb7⟩) hHeld ?rb7
      case yb7 => (dsimp only at hSw; go_simp; all_goals with_reducible rfl)
      try simp only [Act.put]
      try simp only [List.setIfInBounds_toArray]
      try simp only [List.set]
      refine wpAnyH_take (i := 8) (v := ?vb8) rfl (by kernel_rfl) (by kernel_rfl) (by kernel_rfl) (fun _ _ _ h => h) (Or.inl ⟨by rfl, fun ww hSw => ?yb8⟩) hHeld ?rb8
      case yb8 => (dsimp only at hSw; go_simp; all_goals with_reducible rfl)
      try simp only [Act.put]
      try simp only [List.setIfInBounds_toArray]
      try simp only [List.set]
      refine wpAnyH_take (i := 9) (v := ?vb9) rfl (by kernel_rfl) (by kernel_rfl) (by kernel_rfl) (fun _ _ _ h => h) (Or.inl ⟨by rfl, fun ww hSw => ?yb9⟩) hHeld ?rb9
      case yb9 => (dsimp only at hSw; go_simp; all_goals with_reducible rfl)
      try simp only [Act.put]
      try simp only [List.setIfInBounds_toArray]
      try simp only [List.set]
      refine wpAnyH_ready (rs := [10]) (by kernel_rfl) (by simp) ?pb10
      refine AllReadyH.cons rfl (fun K hK => ?_) AllReadyH.nil
      go_simp
      refine (HSB.out _ (HR6.out _ (by with_reducible exact HBD.out))).mono ?_
      rintro e w7 ⟨v7, rfl, hO7, hbk⟩
      obtain ⟨a7, c7, e7⟩ := own_shape hO7
      subst e7
      have HB7 : Hid (Below w6.heap.size w6 w7) := hid ((below_drew (Below.refl w6.heap.size w6)).trans hbk)
      have HW7 := hid (own_mono hO7 HBD.out.size)
      clear hO7 hbk
      go_wp2_with fail
      refine hK.out _ _ ?Sb10 (fun hHeld => ?Mb10)
      case Sb10 => exact ⟨(HB7.out.cell (p := ⟨A, 0, none⟩) (lt_of_heap HA6.out)).trans a0, (HB7.out.cell (p := ⟨A, 1, none⟩) (lt_of_heap HA6.out)).trans a1, (HB7.out.cell (p := ⟨H, 5, none⟩) (lt_of_heap HK6.out)).trans b5, (HB7.out.cell (p := ⟨G, 0, none⟩) (lt_of_heap HG6.out)).trans g0, (HB7.out.cell (p := ⟨G, 1, none⟩) (lt_of_heap HG6.out)).trans g1⟩
      clear hK K
      try simp only [Act.put]
      try simp only [List.setIfInBounds_toArray]
      try simp only [List.set]
      refine wpAnyH_ready (rs := [11]) (by kernel_rfl) (by simp) ?pb11
      refine AllReadyH.cons rfl (fun K hK => ?_) AllReadyH.nil
      go_simp
      refine (HHK.out _ _ (own_rd HW7.out)).mono ?_
      rintro e w8 ⟨rfl, hbk2⟩
      have HB8 : Hid (Below w6.heap.size w6 w8) := hid (HB7.out.trans (hbk2.mono HB7.out.size))
      have HW8 := hid (own_stays HW7.out hbk2)
      have HO8 := hid (HO6.out.stays HB8.out)
      have HA8 := hid ((HB8.out.block A (lt_of_heap HA6.out)).trans HA6.out)
      have HK8 := hid ((HB8.out.block H (lt_of_heap HK6.out)).trans HK6.out)
      have HG8 := hid ((HB8.out.block G (lt_of_heap HG6.out)).trans HG6.out)
      obtain ⟨cur, hcur, hcs, hnX⟩ := ownH_cells HO8.out
      clear hnX
      have HCU := hid hcur
      have r0 := cell_there HCU.out (show k * 6 < cur.size by omega)
      have r1 := cell_there HCU.out (show k * 6 + 1 < cur.size by omega)
      have r2 := cell_there HCU.out (show k * 6 + 2 < cur.size by omega)
      have r3 := cell_there HCU.out (show k * 6 + 3 < cur.size by omega)
      have r4 := cell_there HCU.out (show k * 6 + 4 < cur.size by omega)
      have r5 := cell_there HCU.out (show k * 6 + 5 < cur.size by omega)
      have rf : ∀ j, w8.frozen? ⟨H + 1, j, none⟩ = false := fun j => frozen_of_blk HCU.out j
      clear hcur hbk2
      go_wp2_with fail
      refine hK.out _ _ ?Sb11 (fun hHeld => ?Mb11)
      case Sb11 => exact ⟨cell_of_blk HA8.out 0, cell_of_blk HA8.out 1, cell_of_blk HK8.out 5, cell_of_blk HG8.out 0, cell_of_blk HG8.out 1⟩
      clear hK K
      try simp only [Act.put]
      try simp only [List.setIfInBounds_toArray]
      try simp only [List.set]
      refine wpAnyH_ready (rs := [12]) (by kernel_rfl) (by simp) ?pb12
      refine AllReadyH.cons rfl (fun K hK => ?_) AllReadyH.nil
      go_simp
      refine hK.out _ _ ?Sb12 (fun hHeld => ?Mb12)
      case Sb12 => exact ⟨cell_of_blk HA8.out 0, cell_of_blk HA8.out 1, cell_of_blk HK8.out 5, cell_of_blk HG8.out 0, cell_of_blk HG8.out 1⟩
      clear hK K
      try simp only [Act.put]
      try simp only [List.setIfInBounds_toArray]
      try simp only [List.set]
      refine wpAnyH_ready (rs := [13]) (by kernel_rfl) (by simp) ?pb13
      refine AllReadyH.cons rfl (fun K hK => ?_) AllReadyH.nil
      go_simp
      refine hK.out _ _ ?Sb13 (fun hHeld => ?Mb13)
      case Sb13 => exact ⟨by rw [cell_set_far nAL, cell_set_far nAL, cell_set_far nAL, cell_set_far nAL, cell_set_far nAL, cell_set_far nAL]; exact cell_of_blk HA8.out 0, by rw [cell_set_far nAL, cell_set_far nAL, cell_set_far nAL, cell_set_far nAL, cell_set_far nAL, cell_set_far nAL]; exact cell_of_blk HA8.out 1, by rw [cell_set_far nHL, cell_set_far nHL, cell_set_far nHL, cell_set_far nHL, cell_set_far nHL, cell_set_far nHL]; exact cell_of_blk HK8.out 5, by rw [cell_set_far nGL, cell_set_far nGL, cell_set_far nGL, cell_set_far nGL, cell_set_far nGL, cell_set_far nGL]; exact cell_of_blk HG8.out 0, by rw [cell_set_far nGL, cell_set_far nGL, cell_set_far nGL, cell_set_far nGL, cell_set_far nGL, cell_set_far nGL]; exact cell_of_blk HG8.out 1⟩
      clear hK K
      try simp only [Act.put]
      try simp only [List.setIfInBounds_toArray]
      try simp only [List.set]
      refine wpAnyH_done (by kernel_rfl) ?_ _
      refine NoPanic.normal ?_
      have HXk : Hid (X[k]? = some zH) := hid (by
        rw [HX.out, List.getElem?_append_right (by rw [List.length_map, List.length_take]; have := HNN.out; omega), List.length_map, List.length_take, List.getElem?_replicate, if_pos (by have := HNN.out; omega)])
      have HKc : Hid ((⟨ka, kn, kb, km, kh, kr⟩ : Hk) = cutP ⟨xa, xn, xb, xm, xh, xr⟩ f t) := hid (by
        rw [← HKE.out]; unfold cutP Hu.sub; dsimp only; rw [← HP.out, ← HQ.out, ← HO2.out, ← HF2.out, ← HU.out])
      have HX9 : Hid (X.set k ⟨ka, kn, kb, km, kh, kr⟩ = ((ss.take (k + 1)).map fun s => cutP ⟨xa, xn, xb, xm, xh, xr⟩ s.1 s.2) ++ List.replicate (n - (k + 1)) zH) := hid (by
        have hlk : ((ss.take k).map fun s => cutP ⟨xa, xn, xb, xm, xh, xr⟩ s.1 s.2).length = k := by rw [List.length_map, List.length_take]; have := HNN.out; omega
        rw [HX.out, HKc.out, List.set_append_right _ _ (by omega), hlk, Nat.sub_self, show n - k = (n - (k + 1)) + 1 by omega, List.replicate_succ, List.set_cons_zero, List.take_add_one, HSG.out, List.map_append]
        simp)
      have HO9 := hid (ownH_put (k := ⟨ka, kn, kb, km, kh, kr⟩) (o := k * 6) HO8.out HXk.out rfl (show OwnW w8 H (.slice a7 U.length c7) kr by rw [HRU.out]; exact own_mono HW8.out (show H ≤ w6.heap.size by have := lt_of_heap HK6.out; omega)))
      have HB9 := hid (below_set (k := k * 6 + 5) (u := .slice a7 U.length c7) (below_set (k := k * 6 + 4) (u := .string kh) (below_set (k := k * 6 + 3) (u := .int .i64 km) (below_set (k := k * 6 + 2) (u := .int .i64 kb) (below_set (k := k * 6 + 1) (u := .int .i64 kn) (below_set (k := k * 6) (u := .int .i64 ka) (HB6.out.trans (HB8.out.mono HB6.out.size)) (show w.heap.size ≤ H + 1 by have := HH.out; omega)) (show w.heap.size ≤ H + 1 by have := HH.out; omega)) (show w.heap.size ≤ H + 1 by have := HH.out; omega)) (show w.heap.size ≤ H + 1 by have := HH.out; omega)) (show w.heap.size ≤ H + 1 by have := HH.out; omega)) (show w.heap.size ≤ H + 1 by have := HH.out; omega))
      have HF9 : Hid (∀ j, j ≠ H + 1 → ((((((w8.setCell ⟨H + 1, k * 6, none⟩ (.int .i64 ka)).setCell ⟨H + 1, k * 6 + 1, none⟩ (.int .i64 kn)).setCell ⟨H + 1, k * 6 + 2, none⟩ (.int .i64 kb)).setCell ⟨H + 1, k * 6 + 3, none⟩ (.int .i64 km)).setCell ⟨H + 1, k * 6 + 4, none⟩ (.string kh)).setCell ⟨H + 1, k * 6 + 5, none⟩ (.slice a7 U.length c7)).heap[j]? = w8.heap[j]?) := hid (fun j hj => by rw [set_other _ hj, set_other _ hj, set_other _ hj, set_other _ hj, set_other _ hj, set_other _ hj])
      dsimp only at HO9
      generalize ((((((w8.setCell ⟨H + 1, k * 6, none⟩ (.int .i64 ka)).setCell ⟨H + 1, k * 6 + 1, none⟩ (.int .i64 kn)).setCell ⟨H + 1, k * 6 + 2, none⟩ (.int .i64 kb)).setCell ⟨H + 1, k * 6 + 3, none⟩ (.int .i64 km)).setCell ⟨H + 1, k * 6 + 4, none⟩ (.string kh)).setCell ⟨H + 1, k * 6 + 5, none⟩ (.slice a7 U.length c7)) = w9 at HO9 HB9 HF9 ⊢
      have HA9 : Hid (w9.heap[A]? = some (.cells #[.int .i64 (P + (Hu.olds (xr.take f)).length), .int .i64 (Q + (Hu.fres (xr.take f)).length)] 78)) := hid (by rw [← HO2.out, ← HF2.out]; exact (HF9.out A nAL).trans HA8.out)
      have HK9 := hid ((HF9.out H nHL).trans HK8.out)
      clear r0 r1 r2 r3 r4 r5 rf hHeld a0 a1 b5 g0 g1
      go_wp2_with fail
      go_roundw
      case rel => exact ⟨k + 1, f, X.set k ⟨ka, kn, kb, km, kh, kr⟩, by omega, by omega, rfl, by go_num, HDN, HA9, HK9, HX9, HO9, HB9⟩
      case measure => simp [intOf]; omega
    · obtain rfl : k = n := by omega
      obtain ⟨s0, S', hs0⟩ : ∃ s0 S', ss = s0 :: S' := by
        cases ss with
        | nil => exact absurd HNN.out (by simp; omega)
        | cons a b => exact ⟨a, b, rfl⟩
      have HE : Hid (X = cutP ⟨xa, xn, xb, xm, xh, xr⟩ s0.1 s0.2 :: S'.map fun s => cutP ⟨xa, xn, xb, xm, xh, xr⟩ s.1 s.2) := hid (by
        rw [HX.out, List.take_of_length_le (by have := HNN.out; omega), Nat.sub_self, hs0]; simp)
      have HO2 := hid (HE.out ▸ HO.out)
      have HEE : Hid ((ss.map fun s => cutP ⟨xa, xn, xb, xm, xh, xr⟩ s.1 s.2) = cutP ⟨xa, xn, xb, xm, xh, xr⟩ s0.1 s0.2 :: S'.map fun s => cutP ⟨xa, xn, xb, xm, xh, xr⟩ s.1 s.2) := hid (by rw [hs0]; rfl)
      obtain ⟨cur, hcur, hcs, hnX⟩ := ownH_cells HO.out
      clear hnX
      have HCU := hid hcur
      have r4 := cell_there HCU.out (show 4 < cur.size by omega)
      have rf : ∀ j, wr.frozen? ⟨H + 1, j, none⟩ = false := fun j => frozen_of_blk HCU.out j
      have b4 : wr.cell? ⟨H, 4, none⟩ = some (.string xh) := cell_of_blk HK.out 4
      have i0 : (0 : Int) < (k : Int) := by omega
      clear hcur hs0
      go_wp2_with fail
      go_ret
      refine ⟨_, rfl, ?_, below_set HB.out (show w.heap.size ≤ H + 1 by have := HH.out; omega)⟩
      rw [HEE.out]
      exact (ownH_head HO2.out).mono (show w.heap.size ≤ H by have := HH.out; omega)
end Go.Proofs.YtddmfdjkkikapaaGreatDoor
/-
  The program's Narrow: its spans, plain.
-/
namespace Go.Proofs.YtddmfdjkkikapaaGreatDoor
open Go.RowKit
open Hu (Rw Hk)

/-- spans one behind the other, from a row on -/
def Chn (N : Nat) : Nat → List Sp → Prop
  | _, [] => True
  | lo, s :: l => lo ≤ s.1 ∧ s.1 < s.2 ∧ s.2 ≤ N ∧ Chn N s.2 l
theorem Chn.low {N lo lo' : Nat} {l : List Sp} (h : Chn N lo l) (hl : lo' ≤ lo) : Chn N lo' l := by
  cases l with
  | nil => trivial
  | cons s l => exact ⟨Nat.le_trans hl h.1, h.2⟩
theorem runs_chn : ∀ (l : List Rw) (i f : Nat), f ≤ i → Chn (i + l.length) f (Hu.runsR l i f)
  | [], i, f, h => by
    rw [Hu.runsR, Hu.run1]
    split
    · exact ⟨Nat.le_refl _, by assumption, Nat.le_refl _, trivial⟩
    · trivial
  | r :: l, i, f, h => by
    rw [Hu.runsR, List.length_cons]
    split
    · have := runs_chn l (i + 1) f (by omega)
      rwa [show i + 1 + l.length = i + (l.length + 1) by omega] at this
    · have := runs_chn l (i + 1) (i + 1) (Nat.le_refl _)
      rw [show i + 1 + l.length = i + (l.length + 1) by omega] at this
      rw [Hu.run1]
      split
      · exact ⟨Nat.le_refl _, by assumption, by show i ≤ _; omega, this.low (by show i ≤ _; omega)⟩
      · exact this.low (by omega)
theorem gR_chn (c N : Nat) : ∀ (rs : List Sp) (lo : Nat), (Chn N lo rs → Chn N lo (gR c rs none)) ∧ ∀ q : Sp, lo ≤ q.1 → q.1 < q.2 → q.2 ≤ N → Chn N q.2 rs → Chn N lo (gR c rs (some q))
  | [], lo => ⟨fun _ => trivial, fun q h1 h2 h3 _ => ⟨h1, h2, h3, trivial⟩⟩
  | r :: rs, lo => by
    refine ⟨fun h => ?_, fun q h1 h2 h3 h => ?_⟩
    · rw [gR_none]
      exact (gR_chn c N rs lo).2 r h.1 h.2.1 h.2.2.1 h.2.2.2
    · rw [gR_some]
      split
      · exact (gR_chn c N rs lo).2 (q.1, r.2) h1 (by show q.1 < r.2; have := h.1; have := h.2.1; omega) h.2.2.1 h.2.2.2
      · exact ⟨h1, h2, h3, (gR_chn c N rs q.2).2 r h.1 h.2.1 h.2.2.1 h.2.2.2⟩
theorem chn_in {N : Nat} : ∀ {l : List Sp} {lo : Nat}, Chn N lo l → ∀ s ∈ l, lo ≤ s.1 ∧ s.1 < s.2 ∧ s.2 ≤ N
  | [], _, _, s, hs => by simp at hs
  | q :: l, lo, h, s, hs => by
    rcases List.mem_cons.1 hs with rfl | hs
    · exact ⟨h.1, h.2.1, h.2.2.1⟩
    · have := chn_in h.2.2.2 s hs
      have := h.1
      have := h.2.1
      omega
theorem chn_ord {N : Nat} : ∀ {l : List Sp} {lo : Nat}, Chn N lo l → ∀ (i : Nat) (s t : Sp), l[i]? = some s → l[i + 1]? = some t → s.2 ≤ t.1
  | [], _, _, i, s, t, hs, _ => by simp at hs
  | q :: l, lo, h, 0, s, t, hs, ht => by
    simp at hs ht
    subst hs
    exact (chn_in h.2.2.2 t (List.mem_of_getElem? ht)).1
  | q :: l, lo, h, i + 1, s, t, hs, ht => by
    rw [List.getElem?_cons_succ] at hs ht
    exact chn_ord h.2.2.2 i s t hs ht
theorem nD_ne (c N : Nat) : ∀ (l : List Rw) (i : Nat) (fr : Option Nat) (last : Nat), nD c N l i fr last ≠ []
  | [], i, fr, last => by rw [nD]; simp
  | r :: l, i, fr, last => by
    by_cases h : r.k = 1
    · rw [nD_both h]; exact nD_ne c N l _ _ _
    · cases fr with
      | none => rw [nD_none h]; exact nD_ne c N l _ _ _
      | some f =>
        rw [nD_some h]
        split
        · simp
        · exact nD_ne c N l _ _ _
theorem wid_in {c : Nat} {l : List Rw} {s : Sp} (h : s ∈ (gfold c (Hu.runsR l 0 0)).map (widS c l.length)) : s.1 < s.2 ∧ s.2 ≤ l.length := by
  obtain ⟨q, hq, rfl⟩ := List.mem_map.1 h
  rw [gfold_gR] at hq
  have h1 := runs_chn l 0 0 (Nat.le_refl _)
  rw [Nat.zero_add] at h1
  have := chn_in ((gR_chn c l.length _ 0).1 h1) q hq
  unfold widS
  simp only
  omega
theorem wid_ord {c : Nat} {l : List Rw} (i : Nat) (s t : Sp) (hs : ((gfold c (Hu.runsR l 0 0)).map (widS c l.length))[i]? = some s) (ht : ((gfold c (Hu.runsR l 0 0)).map (widS c l.length))[i + 1]? = some t) : s.1 ≤ t.1 := by
  rw [List.getElem?_map, Option.map_eq_some_iff] at hs ht
  obtain ⟨q, hq, rfl⟩ := hs
  obtain ⟨r, hr, rfl⟩ := ht
  have hq2 := hq
  rw [gfold_gR] at hq hr
  have h1 := runs_chn l 0 0 (Nat.le_refl _)
  rw [Nat.zero_add] at h1
  have h2 := (gR_chn c l.length _ 0).1 h1
  have h3 := chn_ord h2 i q r hq hr
  have h4 := chn_in h2 q (List.mem_of_getElem? hq)
  unfold widS
  simp only
  omega
end Go.Proofs.YtddmfdjkkikapaaGreatDoor
/-
  The program's Narrow.
-/
namespace Go.Proofs.YtddmfdjkkikapaaGreatDoor
open Go.RowKit
open Hu (Rw Hk)

theorem nD_len (c N : Nat) : ∀ (l : List Rw) (i : Nat) (fr : Option Nat) (last : Nat), (nD c N l i fr last).length ≤ l.length + 1
  | [], i, fr, last => by rw [nD]; simp
  | r :: l, i, fr, last => by
    rw [List.length_cons]
    by_cases h : r.k = 1
    · rw [nD_both h]; have := nD_len c N l (i + 1) fr last; omega
    · cases fr with
      | none => rw [nD_none h]; have := nD_len c N l (i + 1) (some (i - min c i)) (i + 1); omega
      | some f =>
        rw [nD_some h]
        split
        · have := nD_len c N l (i + 1) (some (i - min c i)) (i + 1); rw [List.length_cons]; omega
        · have := nD_len c N l (i + 1) (some f) (i + 1); omega
theorem headed_len (hd : ByteArray) (l : List Hk) : (headed hd l).length = l.length := by cases l <;> rfl
theorem narN_zero {h : Hk} {ctx : Int} (hn : narN h ctx = 0) : ctxOk ctx = true ∧ Hu.vld h = true := by
  unfold narN at hn
  split at hn
  · split at hn
    · exact ⟨by assumption, by assumption⟩
    · cases hn
  · cases hn
/-- a hunk that may be is small -/
theorem vld_small {h : Hk} (hv : Hu.vld h = true) : h.rows.length ≤ 4294967294 ∧ Kd h.rows ∧ (0 ≤ Hu.plc h.a h.n ∧ Hu.plc h.a h.n ≤ 4294967296 ∧ 0 ≤ Hu.plc h.b h.m ∧ Hu.plc h.b h.m ≤ 4294967296) := by
  obtain ⟨y1, y2, y3, y4, _, y5, y6, y7, _, _⟩ := Hu.vld_parts hv
  refine ⟨?_, ?_, ?_⟩
  · have y9 := y1
    unfold Hu.areR at y9
    rw [Bool.and_eq_true] at y9
    have := rows_le y9.1
    omega
  · intro r hr
    unfold Hu.areR at y1
    rw [Bool.and_eq_true, List.all_eq_true] at y1
    have := y1.1 r hr
    unfold Hu.isC at this
    simp at this
    exact this
  · unfold Hu.plc
    split <;> split <;> omega
theorem narA_len {h : Hk} {ctx : Int} : (narA h ctx).length < 1954687338260 := by
  unfold narA
  split
  · rename_i hn
    rw [headed_len, List.length_map]
    have := nD_len ctx.toNat h.rows.length h.rows 0 none 0
    have := (vld_small (narN_zero hn).2).1
    omega
  · simp
theorem sub_mem {l : List Rw} {f t : Nat} {r : Rw} (h : r ∈ Hu.sub l f t) : r ∈ l := by
  unfold Hu.sub at h
  exact List.mem_of_mem_drop (List.mem_of_mem_take h)
theorem sub_len (l : List Rw) (f t : Nat) : (Hu.sub l f t).length ≤ l.length := by
  unfold Hu.sub
  rw [List.length_take, List.length_drop]
  omega
theorem cutP_sz {h : Hk} {f t : Nat} (hz : SzH h) : SzH (cutP h f t) := by
  obtain ⟨h1, h2, h3⟩ := hz
  refine ⟨?_, fun r hr => h2 r (sub_mem hr), by show ByteArray.empty.size ≤ maxLen; decide⟩
  have := sub_len h.rows f t
  show (Hu.sub h.rows f t).length < _
  omega
theorem headed_sz {hd : ByteArray} {l : List Hk} (hh : hd.size ≤ maxLen) (hz : ∀ x ∈ l, SzH x) : ∀ x ∈ headed hd l, SzH x := by
  cases l with
  | nil => exact fun x hx => by cases hx
  | cons y l =>
    intro x hx
    rcases List.mem_cons.1 hx with rfl | hx
    · exact ⟨(hz y (by simp)).1, (hz y (by simp)).2.1, hh⟩
    · exact hz x (by simp [hx])
theorem narA_sz {h : Hk} {ctx : Int} (hz : SzH h) : ∀ x ∈ narA h ctx, SzH x := by
  unfold narA
  split
  · refine headed_sz hz.2.2 (fun x hx => ?_)
    obtain ⟨s, _, rfl⟩ := List.mem_map.1 hx
    exact cutP_sz hz
  · intro x hx; cases hx
end Go.Proofs.YtddmfdjkkikapaaGreatDoor
