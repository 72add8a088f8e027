/-
  slices.Clone of rows; the document's cut.
-/
import Derived.Test.YtnamioihapnefaaGreatDoorGrC
import Derived.Test.YtnamioihapnefaaGreatDoorGrKa
import Derived.Test.YtnamioihapnefaaGreatDoorGrJ9
import Derived.Test.YtnamioihapnefaaGreatDoorLb
import Derived.Test.YtnamioihapnefaaGreatDoorGrD2
namespace Go.Proofs.YtnamioihapnefaaGreatDoor
open Go.RowKit
open Hu (Rw Hk)
open Ed (Ch)

set_option maxHeartbeats 1000000 in
set_option maxRecDepth 100000 in
theorem clone_any {w : World} {v : Value} {l : List Rw} (hv : RdW w v l) (hne : l ≠ []) (hl : l.length < 5864062014800) :
    Calls Tryz.prog 64 #[v] w fun e w' => ∃ v', e = .returned v' ∧ OwnW w' w.heap.size v' l ∧ Below w.heap.size w w' := by
  have hpos : 0 < l.length := List.length_pos_iff.2 hne
  rcases hv with ⟨h0, _⟩ | ⟨b, o, c, rfl, hc, hb, hX⟩
  · omega
  have hb1 := (Below.refl w.heap.size w).alloc (Nat.le_refl _) (.cells #[] 63)
  have HB1 := hid hb1
  have hk1 := heap_alloc_new w (.cells #[] 63)
  have HX : Hid (∀ j u, (rwsC l)[j]? = some u → (w.alloc (.cells #[] 63)).cell? ((⟨b, o, none⟩ : Addr).add j) = some u) := hid (fun j u hj => by
    rw [Go.WideShapes.add_plain]
    exact (hb1.cell (p := ⟨b, o + j, none⟩) hb).trans (hX j u hj))
  have HO1 : Hid ((w.alloc (.cells #[] 63)).ownsRow w.heap.size 63 2 (.slice (some ⟨w.heap.size, 0, none⟩) 0 0) 0 []) := hid ⟨rfl, .inr ⟨w.heap.size, 0, #[], rfl, Nat.le_refl _, hk1, Nat.le_refl _, by decide, rfl, rfl⟩⟩
  obtain ⟨i0, hi, hz0, hz1, hz2⟩ := info_parts Tryz.infoRow
  obtain ⟨n, hn⟩ : ∃ n, n = l.length := ⟨_, rfl⟩
  have HN := hid hn
  rw [← hn] at hpos hl hc ⊢
  have HRL : Hid ((rwsC l).length = n * 2) := hid (by rw [rwsC_length, hn])
  have hrun : (binOp .eql 27 (.slice (some ⟨b, o, none⟩) n c) (.slice none 0 0)).run Tryz.prog w = .ok (.bool false) w := by kernel_rfl
  clear hn hb1 hX hk1
  go_enter Tryz.func64, Tryz.ntmps64
  go_wp2_with (at_builtin; refine wpList_append_lies _ rfl _ _ 27 rfl w.heap.size 63 i0 (.agg #[.int .i64 0, .string .empty]) 2 24 Tryz.underlying27 hi hz0 hz1 hz2 rfl (by decide) _ 0 [] rfl HO1.out ⟨b, o, none⟩ n c (rwsC l) rfl HRL.out HX.out (rwsC_one l) hpos (by unfold maxLen; omega) (by omega) (Below.size HB1.out) w.heap.size.succ (by simp) ?_; intro g cap w2 g2 g3 g4 g5; have HO2 := hid g2; have HB2 := hid (HB1.out.grown g3 (Below.size HB1.out) (own_ge HO1.out)); clear g2 g3 g4 g5)
  go_ret
  refine ⟨_, rfl, ?_, HB2.out⟩
  have h2 := HO2.out
  rw [Nat.zero_add, List.nil_append] at h2
  show World.ownsRow _ _ _ _ _ l.length _
  rw [← HN.out]
  exact h2
theorem rdW_take {w : World} {a : Option Addr} {c n : Nat} {l : List Rw} (h : RdW w (.slice a l.length c) l) (hn : n ≤ l.length) : RdW w (.slice a n c) (l.take n) := by
  have hlen : (l.take n).length = n := by rw [List.length_take]; omega
  show RdX _ _ _ _
  rw [hlen]
  rcases Nat.eq_zero_or_pos n with rfl | hpos
  · exact .inl ⟨rfl, _, _, rfl⟩
  · rcases h with ⟨h0, _⟩ | ⟨b, o, c', hv, hc, hb, hX⟩
    · omega
    · cases hv
      refine .inr ⟨b, o, c, rfl, by omega, hb, fun j u hj => hX j u ?_⟩
      have hjl : j < (rwsC (l.take n)).length := (List.getElem?_eq_some_iff.1 hj).1
      have e : rwsC l = rwsC (l.take n) ++ rwsC (l.drop n) := by rw [← rwsC_append, List.take_append_drop]
      rw [e, List.getElem?_append_left hjl]
      exact hj
theorem arg_sliced {a : Option Addr} {n c x y s : Nat} (h : ArgS (.slice a n c)) (hx : x ≤ y) (hy : y ≤ n) : ArgS (.slice (if c = x then a else a.map (·.add s)) (y - x) (c - x)) := by
  rcases h with h | ⟨ad, n', c', h⟩
  · cases h
    obtain rfl : y = 0 := by omega
    obtain rfl : x = 0 := by omega
    exact .inl rfl
  · cases h
    split
    · exact .inr ⟨_, _, _, rfl⟩
    · exact .inr ⟨_, _, _, rfl⟩
/-- the document's piece of a hunk -/
def cutP (h : Hk) (f t : Nat) : Hk := Hu.hunkAt (Hu.plc h.a h.n + (Hu.olds (h.rows.take f)).length) (Hu.plc h.b h.m + (Hu.fres (h.rows.take f)).length) (Hu.sub h.rows f t)
set_option maxHeartbeats 1000000 in
set_option maxRecDepth 100000 in
theorem rCut_any {w : World} {h : Hk} {v : Value} {f t : Nat} (hv : RdW w v h.rows) (hA : ArgS v) (hl : h.rows.length < 5864062014800) (hp : 0 ≤ Hu.plc h.a h.n ∧ Hu.plc h.a h.n ≤ 4294967296 ∧ 0 ≤ Hu.plc h.b h.m ∧ Hu.plc h.b h.m ≤ 4294967296) (hpl : PlH h) (hft : f ≤ t) (ht : t ≤ h.rows.length) :
    Calls Tryz.prog 76 #[HkV h v, .int .i64 f, .int .i64 t] w fun e w' => ∃ v', e = .returned (HkV (cutP h f t) v') ∧ OwnW w' w.heap.size v' (cutP h f t).rows ∧ Below w.heap.size w w' := by
  obtain ⟨av, cv, rfl⟩ := hv.shape
  have hcap := rd_cap hv
  have HV := hid hv
  obtain ⟨xa, xn, xb, xm, xh, xr⟩ := h
  unfold HkV
  dsimp only at HV hl hp ht hcap ⊢
  obtain ⟨n, hn⟩ : ∃ n, n = xr.length := ⟨_, rfl⟩
  have HTK := hid (fun w1 (hb : Below w.heap.size w w1) => rCounts_any (rdW_take (HV.out.below hb) (show f ≤ xr.length by omega)) (show (xr.take f).length < 5864062014800 by rw [List.length_take]; omega))
  obtain ⟨A1, hA1⟩ : ∃ A1, (if cv = f then av else av.map (·.add (f * 2))) = A1 := ⟨_, rfl⟩
  have HSL := hid (fun w1 (hb : Below w.heap.size w w1) => rdW_sliced (HV.out.below hb) (x := f) (y := t) hft ht)
  rw [hA1] at HSL
  have HAS := hid (arg_sliced (s := f * 2) hA hft ht)
  rw [hA1] at HAS
  obtain ⟨RW, hRW⟩ : ∃ RW, RW = Hu.sub xr f t := ⟨_, rfl⟩
  have hRl : RW.length = t - f := by rw [hRW]; unfold Hu.sub; rw [List.length_take, List.length_drop]; omega
  have HSL2 : Hid (∀ w1, Below w.heap.size w w1 → RdX w1 (.slice A1 (t - f) (cv - f)) (t - f) (rwsC RW)) := hid (fun w1 hb => by
    have := HSL.out w1 hb
    show RdX _ _ _ _
    have e : RW = (xr.drop f).take (t - f) := hRW
    rw [← e] at this
    have h2 : RdX w1 (.slice A1 (t - f) (cv - f)) RW.length (rwsC RW) := this
    rw [hRl] at h2
    exact h2)
  have hol := Hu.olds_len (xr.take f)
  have hfl := Hu.fres_len (xr.take f)
  have htl : (xr.take f).length ≤ n := by rw [hn]; exact List.length_take_le' _ _
  rw [← hn] at hl ht hcap ⊢
  obtain ⟨O1, hO1⟩ : ∃ O1 : Nat, O1 = (Hu.olds (xr.take f)).length := ⟨_, rfl⟩
  obtain ⟨F1, hF1⟩ : ∃ F1 : Nat, F1 = (Hu.fres (xr.take f)).length := ⟨_, rfl⟩
  rw [← hO1, ← hF1] at HTK
  obtain ⟨P, hP⟩ : ∃ P, P = Hu.plc xa xn := ⟨_, rfl⟩
  obtain ⟨Q, hQ⟩ : ∃ Q, Q = Hu.plc xb xm := ⟨_, rfl⟩
  have HP1 := hid (fun w1 => rPlace_any xa xn w1 hpl.1 hpl.2.1)
  have HP2 := hid (fun w1 => rPlace_any xb xm w1 hpl.2.2.1 hpl.2.2.2)
  rw [← hP] at HP1 hp
  rw [← hQ] at HP2 hp
  obtain ⟨PA, hPA⟩ : ∃ PA : Int, PA = P + O1 := ⟨_, rfl⟩
  obtain ⟨PB, hPB⟩ : ∃ PB : Int, PB = Q + F1 := ⟨_, rfl⟩
  have s1 : IntKind.i64.wrap (P + (O1 : Int)) = PA := (wrapOk (by omega) (by omega)).trans hPA.symm
  have s2 : IntKind.i64.wrap (Q + (F1 : Int)) = PB := (wrapOk (by omega) (by omega)).trans hPB.symm
  have hPAb : 0 ≤ PA ∧ PA ≤ 5868357000000 ∧ 0 ≤ PB ∧ PB ≤ 5868357000000 := by omega
  have HCT : Hid (cutP ⟨xa, xn, xb, xm, xh, xr⟩ f t = Hu.hunkAt PA PB RW) := hid (by unfold cutP; simp only; rw [← hP, ← hQ, ← hO1, ← hF1, ← hPA, ← hPB, ← hRW])
  have hrl : RW.length < 5864062014800 := by omega
  have HRL := hid hRl
  have hTFl : t - f < 5864062014800 := by omega
  have j1 : (0 : Int) ≤ (f : Int) := by omega
  have j2 : (f : Int) ≤ (t : Int) := by omega
  have j3 : (t : Int) ≤ (cv : Int) := by omega
  have j4 : (f : Int) ≤ (cv : Int) := by omega
  obtain ⟨t1, t2, t3, t4⟩ := two' w (.cells #[.int .i64 xa, .int .i64 xn, .int .i64 xb, .int .i64 xm, .string xh, .slice av n cv] 29) (.cells #[.int .i64 0, .int .i64 0, .int .i64 0, .int .i64 0, .string ⟨#[]⟩, .slice none 0 0] 29)
  clear hn hRW hRl hol hfl htl hO1 hF1 hP hQ hPA hPB hA hv hpl hp
  go_enter Tryz.func76, Tryz.ntmps76
  go_wp2_with fail
  obtain ⟨H, hH⟩ : ∃ H, H = w.heap.size := ⟨_, rfl⟩
  obtain ⟨R, hR⟩ : ∃ R, R = H + 1 := ⟨_, rfl⟩
  rw [← hH] at t2 t3 ⊢
  rw [← hR] at t3 ⊢
  have HH := hid hH
  have HR := hid hR
  generalize (w.alloc (.cells #[.int .i64 xa, .int .i64 xn, .int .i64 xb, .int .i64 xm, .string xh, .slice av n cv] 29)).alloc (.cells #[.int .i64 0, .int .i64 0, .int .i64 0, .int .i64 0, .string ⟨#[]⟩, .slice none 0 0] 29) = w1 at t1 t2 t3 ⊢
  clear hH hR t4
  have HB1 := hid t1
  refine (HTK.out w1 HB1.out).mono ?_
  rintro e w2 ⟨rfl, hb2⟩
  have HB2 := hid (HB1.out.trans (hb2.mono HB1.out.size))
  have m1 := (hb2.block H (lt_of_heap t2)).trans t2
  have m2 := (hb2.block R (lt_of_heap t3)).trans t3
  have M1 := hid m1
  have M2 := hid m2
  have d0 : w2.cell? ⟨H, 0, none⟩ = some (.int .i64 xa) := cell_of_blk m1 0
  have d1 : w2.cell? ⟨H, 1, none⟩ = some (.int .i64 xn) := cell_of_blk m1 1
  have d2 : w2.cell? ⟨H, 2, none⟩ = some (.int .i64 xb) := cell_of_blk m1 2
  have d3 : w2.cell? ⟨H, 3, none⟩ = some (.int .i64 xm) := cell_of_blk m1 3
  have d5 : w2.cell? ⟨H, 5, none⟩ = some (.slice av n cv) := cell_of_blk m1 5
  clear hb2 t1 t2 t3 m1 m2 HTK
  have HS1 := hid (fun (k : Nat) w9 => rStated_any PA k w9 (by omega) (by omega))
  have HS2 := hid (fun (k : Nat) w9 => rStated_any PB k w9 (by omega) (by omega))
  go_wp2_with fail
  refine (HP1.out _).mono ?_
  rintro e w3 ⟨rfl, h3⟩
  rw [h3]
  clear h3
  go_wp2_with fail
  refine (HP2.out _).mono ?_
  rintro e w3 ⟨rfl, h3⟩
  rw [h3]
  clear h3
  have HSR := hid (HSL2.out w2 HB2.out)
  have hRWl : (rwsC RW).length = (t - f) * 2 := by rw [rwsC_length, HRL.out]
  have HRWL := hid hRWl
  clear hRWl
  go_wp2_with (at_builtin; refine wpList_append_new rfl _ _ 27 63 rfl Tryz.underlying27 Tryz.infoRow rfl (by decide) rfl _ (t - f) (rwsC RW) rfl HSR.out HAS.out HRWL.out (rwsC_one RW) (by unfold maxLen; omega) (by omega) ?_; intro v4 w4 hO4 hb4; have HO4' : OwnW w4 w2.heap.size v4 RW := (by show World.ownsRow _ _ _ _ _ RW.length _; rw [HRL.out]; exact hO4); obtain ⟨a4, c4, e4⟩ := own_shape HO4'; subst e4; have HO4 := hid HO4'; have HB4 := hid (HB2.out.trans (hb4.mono HB2.out.size)); have N1 := hid ((hb4.block R (lt_of_heap M2.out)).trans M2.out); clear hO4 hb4 HO4')
  refine (rCounts_any (own_rd HO4.out) hrl).mono ?_
  rintro e w8 ⟨rfl, hb8⟩
  have HO8 := hid (own_stays HO4.out hb8)
  have HBW8 := hid (HB4.out.trans (hb8.mono HB4.out.size))
  have HR8 := hid ((hb8.block R (lt_of_heap N1.out)).trans N1.out)
  obtain ⟨ON, hON⟩ : ∃ ON : Nat, ON = (Hu.olds RW).length := ⟨_, rfl⟩
  obtain ⟨FN, hFN⟩ : ∃ FN : Nat, FN = (Hu.fres RW).length := ⟨_, rfl⟩
  obtain ⟨TX, hTX⟩ : ∃ TX, TX = Hu.told PA ON := ⟨_, rfl⟩
  obtain ⟨TY, hTY⟩ : ∃ TY, TY = Hu.told PB FN := ⟨_, rfl⟩
  rw [← hON, ← hFN]
  have HHV : Hid (∀ u, HkV (cutP ⟨xa, xn, xb, xm, xh, xr⟩ f t) u = .agg #[.int .i64 TX, .int .i64 (ON : Int), .int .i64 TY, .int .i64 (FN : Int), .string ⟨#[]⟩, u]) := hid (fun u => by rw [HCT.out, hTX, hTY, hON, hFN]; rfl)
  have HRW : Hid ((cutP ⟨xa, xn, xb, xm, xh, xr⟩ f t).rows = RW) := hid (by rw [HCT.out]; rfl)
  have HT1 := hid (HS1.out ON)
  have HT2 := hid (HS2.out FN)
  rw [← hTX] at HT1
  rw [← hTY] at HT2
  clear hb8 hTX hTY hON hFN d0 d1 d2 d3 d5 HS1 HS2
  have z0 : w8.cell? ⟨R, 0, none⟩ = some (.int .i64 0) := cell_of_blk HR8.out 0
  have z1 : w8.cell? ⟨R, 1, none⟩ = some (.int .i64 0) := cell_of_blk HR8.out 1
  have z2 : w8.cell? ⟨R, 2, none⟩ = some (.int .i64 0) := cell_of_blk HR8.out 2
  have z3 : w8.cell? ⟨R, 3, none⟩ = some (.int .i64 0) := cell_of_blk HR8.out 3
  have z4 : w8.cell? ⟨R, 4, none⟩ = some (.string ⟨#[]⟩) := cell_of_blk HR8.out 4
  have z5 : w8.cell? ⟨R, 5, none⟩ = some (.slice none 0 0) := cell_of_blk HR8.out 5
  have zf : ∀ j, w8.frozen? ⟨R, j, none⟩ = false := fun j => frozen_of_blk HR8.out j
  have HWR : Hid (w.heap.size ≤ R) := hid (by rw [HR.out, HH.out]; omega)
  have HOR : Hid (∀ q, (Value.slice a4 RW.length c4).ownBlock = some q → q ≠ R) := hid (fun q hq => by
    have := own_ge HO8.out q hq
    have := lt_of_heap M2.out
    omega)
  have hk6 := set_heap _ R 5 _ _ (.slice a4 RW.length c4) (set_heap _ R 4 _ _ (.string ⟨#[]⟩) (set_heap _ R 3 _ _ (.int .i64 (FN : Int)) (set_heap _ R 2 _ _ (.int .i64 TY) (set_heap _ R 1 _ _ (.int .i64 (ON : Int)) (set_heap _ R 0 _ _ (.int .i64 TX) HR8.out)))))
  have HB9 := hid (below_set (k := 5) (u := .slice a4 RW.length c4) (below_set (k := 4) (u := .string ⟨#[]⟩) (below_set (k := 3) (u := .int .i64 (FN : Int)) (below_set (k := 2) (u := .int .i64 TY) (below_set (k := 1) (u := .int .i64 (ON : Int)) (below_set (k := 0) (u := .int .i64 TX) HBW8.out HWR.out) HWR.out) HWR.out) HWR.out) HWR.out) HWR.out)
  have HO9 : Hid (OwnW ((((((w8.setCell ⟨R, 0, none⟩ (.int .i64 TX)).setCell ⟨R, 1, none⟩ (.int .i64 (ON : Int))).setCell ⟨R, 2, none⟩ (.int .i64 TY)).setCell ⟨R, 3, none⟩ (.int .i64 (FN : Int))).setCell ⟨R, 4, none⟩ (.string ⟨#[]⟩)).setCell ⟨R, 5, none⟩ (.slice a4 RW.length c4)) w2.heap.size (.slice a4 RW.length c4) RW) := hid (own_far HO8.out (fun q hq => by
    have hne : q ≠ R := HOR.out q hq
    exact (set_other _ hne).trans ((set_other _ hne).trans ((set_other _ hne).trans ((set_other _ hne).trans ((set_other _ hne).trans (set_other _ hne)))))))
  have HSZ : Hid (w.heap.size ≤ w2.heap.size) := hid HB2.out.size
  go_wp2_with fail
  refine (HT1.out w8).mono ?_
  rintro e w9 ⟨rfl, h9⟩
  rw [h9]
  clear h9
  go_wp2_with fail
  refine (HT2.out _).mono ?_
  rintro e w9 ⟨rfl, h9⟩
  rw [h9]
  clear h9
  go_wp2_with fail
  generalize ((((((w8.setCell ⟨R, 0, none⟩ (.int .i64 TX)).setCell ⟨R, 1, none⟩ (.int .i64 (ON : Int))).setCell ⟨R, 2, none⟩ (.int .i64 TY)).setCell ⟨R, 3, none⟩ (.int .i64 (FN : Int))).setCell ⟨R, 4, none⟩ (.string ⟨#[]⟩)).setCell ⟨R, 5, none⟩ (.slice a4 RW.length c4)) = w9 at hk6 HB9 HO9 ⊢
  have y0 : w9.cell? ⟨R, 0, none⟩ = some (.int .i64 TX) := cell_of_blk hk6 0
  have y1 : w9.cell? ⟨R, 1, none⟩ = some (.int .i64 (ON : Int)) := cell_of_blk hk6 1
  have y2 : w9.cell? ⟨R, 2, none⟩ = some (.int .i64 TY) := cell_of_blk hk6 2
  have y3 : w9.cell? ⟨R, 3, none⟩ = some (.int .i64 (FN : Int)) := cell_of_blk hk6 3
  have y4 : w9.cell? ⟨R, 4, none⟩ = some (.string ⟨#[]⟩) := cell_of_blk hk6 4
  have y5 : w9.cell? ⟨R, 5, none⟩ = some (.slice a4 RW.length c4) := cell_of_blk hk6 5
  exact bodyPost_ret (v := .agg #[.int .i64 TX, .int .i64 (ON : Int), .int .i64 TY, .int .i64 (FN : Int), .string ⟨#[]⟩, .slice a4 RW.length c4]) (by simp [results, Tryz.results76, go_sem, y0, y1, y2, y3, y4, y5]) rfl ⟨.slice a4 RW.length c4, by have h5 := HHV.out (.slice a4 RW.length c4); unfold HkV at h5; rw [h5], by rw [HRW.out]; exact own_mono HO9.out HSZ.out, HB9.out⟩
end Go.Proofs.YtnamioihapnefaaGreatDoor
