/-
  The walk of the document's Rising.
-/
import Derived.Test.YtdilmgcdebobaaaV6
namespace Go.Proofs.Ytdilmgcdebobaaa
open Go.RowKit
open Ed (Ch Run Pr)

theorem one_below (x : Int) (W : World) : Below W.heap.size W (W.alloc (.cells #[.int .i64 x] 3)) := (Below.refl W.heap.size W).alloc (Nat.le_refl _) _
theorem one_cell (x : Int) (W : World) : (W.alloc (.cells #[.int .i64 x] 3)).cell? ⟨W.heap.size, 0, none⟩ = some (.int .i64 x) := cell_of_blk (heap_alloc_new W _) 0
theorem OwnI.rd {w : World} {B : Nat} {v : Value} {l : List Int} (h : OwnI w B v l) : RdI w v l := own_rd h

set_option maxHeartbeats 8000000 in
set_option maxRecDepth 100000 in
theorem refRising_any {w : World} {v : Value} {l : List Int} (hv : RdI w v l) (hl : l.length ≤ 4194304) :
    Calls Try.prog 15 #[v] w fun e w' => ∃ (v' : Value) (S : List Nat), e = .returned v' ∧ w'.ownsRow w.heap.size 3 1 v' S.length (isC (ni S)) ∧ S.length ≤ l.length ∧ Pn.RowOk (fn l) l.length S ∧ Below w.heap.size w w' := by
  obtain ⟨a0, c0, rfl⟩ := hv.shape
  have HV := hid hv
  have hlong : ¬ (l.length : Int) > 4194304 := by omega
  clear hv
  go_enter Try.func15, Try.ntmps15
  go_wp2
  go_loopw [3, 4, 5, 6] (fun v3 v4 la i wr => ∃ n : Nat, n ≤ l.length ∧ i = .int .i64 n ∧ la = .int .i64 (Pn.optI (Pn.lst (fn l) n)) ∧ Hid (OwnI wr w.heap.size v3 (Pn.longL (fn l) n)) ∧ Hid (OwnI wr w.heap.size v4 (Pn.aheadL (fn l) n)) ∧ Hid (Apart v3 v4) ∧ Hid (Below w.heap.size w wr)) (fun _ _ _ i _ => l.length - (intOf i).toNat)
  case atStart => exact ⟨0, Nat.zero_le _, rfl, rfl, hid (World.ownsRow_nil _ _ _ _), hid (World.ownsRow_nil _ _ _ _), hid (apart_none _), hid (Below.refl _ _)⟩
  case round =>
    obtain ⟨n, hn, rfl, rfl, H3, H4, HAB, HB⟩ := hrel
    by_cases hlt : n < l.length
    · obtain ⟨x, hx⟩ : ∃ x, l[n]? = some x := ⟨_, List.getElem?_eq_getElem hlt⟩
      obtain ⟨b, o, rfl, _, d1⟩ := rdI_at (HV.out.below HB.out) hx
      have HX := hid (fn_at hx)
      have HR3 := hid (H3.out.rd)
      obtain ⟨a3, c3, e3⟩ := own_shape H3.out
      subst e3
      obtain ⟨a4, c4, e4⟩ := own_shape H4.out
      subst e4
      rw [Pn.longL_len] at HR3 ⊢
      rw [Pn.aheadL_len]
      have i1 : (n : Int) < (l.length : Int) := by omega
      have i2 : (0 : Int) ≤ (n : Int) := by omega
      have i3 : IntKind.i64.wrap ((n : Int) + 1) = (n : Int) + 1 := wrapOk (by omega) (by omega)
      clear hx
      go_wp2
      go_loopw [7, 8, 9] (fun m at_ k w9 => ∃ j q : Nat, j ≤ n ∧ k = .int .i64 j ∧ m = .int .i64 (Pn.mxl (fn l) (Pn.lg (fn l)) n j) ∧ at_ = .int .i64 (Pn.optI (Pn.ah (fn l) (Pn.lg (fn l)) n j)) ∧ w9 = wr.drewN q) (fun _ _ k _ => n - (intOf k).toNat)
      case atStart => exact ⟨0, 0, Nat.zero_le _, rfl, rfl, rfl, rfl⟩
      case round =>
        obtain ⟨j, nd, hj, rfl, rfl, rfl, rfl⟩ := hrel
        by_cases hjn : j < n
        · obtain ⟨y, hy⟩ : ∃ y, l[j]? = some y := ⟨_, List.getElem?_eq_getElem (by omega)⟩
          have HY := hid (fn_at hy)
          obtain ⟨b', o', eb, _, d2⟩ := rdI_at (HV.out.below HB.out) hy
          cases eb
          obtain ⟨b3, o3, eb3, _, d3⟩ := rdI_at HR3.out (Pn.longL_get (fn l) hjn)
          have HM : Hid (Pn.mxl (fn l) (Pn.lg (fn l)) n (j + 1) = if y < x ∧ Pn.mxl (fn l) (Pn.lg (fn l)) n j < Pn.lg (fn l) j + 1 then Pn.lg (fn l) j + 1 else Pn.mxl (fn l) (Pn.lg (fn l)) n j) := hid (by rw [← HX.out, ← HY.out]; rfl)
          have HA : Hid (Pn.ah (fn l) (Pn.lg (fn l)) n (j + 1) = if y < x ∧ Pn.mxl (fn l) (Pn.lg (fn l)) n j < Pn.lg (fn l) j + 1 then some j else Pn.ah (fn l) (Pn.lg (fn l)) n j) := hid (by rw [← HX.out, ← HY.out]; rfl)
          have hgl := Pn.lg_le (fn l) n j hjn
          have hml : Pn.mxl (fn l) (Pn.lg (fn l)) n j ≤ 4194305 := by
            cases e : Pn.ah (fn l) (Pn.lg (fn l)) n j with
            | none => rw [Pn.ah_none _ _ _ _ e]; omega
            | some r =>
              obtain ⟨r1, _, r3, _⟩ := Pn.ah_some _ _ _ _ _ e
              have := Pn.lg_le (fn l) n r (by omega)
              omega
          obtain ⟨M, hM⟩ : ∃ M, M = Pn.mxl (fn l) (Pn.lg (fn l)) n j := ⟨_, rfl⟩
          obtain ⟨G, hG⟩ : ∃ G, G = Pn.lg (fn l) j := ⟨_, rfl⟩
          obtain ⟨T, hT⟩ : ∃ T, T = Pn.optI (Pn.ah (fn l) (Pn.lg (fn l)) n j) := ⟨_, rfl⟩
          have HTA : Hid (Pn.optI (if y < x ∧ M < G + 1 then some j else Pn.ah (fn l) (Pn.lg (fn l)) n j) = if y < x ∧ M < G + 1 then (j : Int) else T) := hid (by rw [hT]; split <;> rfl)
          rw [← hM] at HM HA hml ⊢
          rw [← hG] at HM HA d3 hgl
          rw [← hT]
          subst eb3
          have k1 : (j : Int) < (n : Int) := by omega
          have k2 : (0 : Int) ≤ (j : Int) := by omega
          have k3 : (j : Int) < (l.length : Int) := by omega
          have k4 : IntKind.i64.wrap ((G : Int) + 1) = (G : Int) + 1 := wrapOk (by omega) (by omega)
          have k5 : IntKind.i64.wrap ((j : Int) + 1) = (j : Int) + 1 := wrapOk (by omega) (by omega)
          clear hy hM hG hT
          by_cases hyx : y < x
          · by_cases hmg : M < G + 1
            · have k6 : (G : Int) + 1 > (M : Int) := by omega
              have HM2 : Hid (Pn.mxl (fn l) (Pn.lg (fn l)) n (j + 1) = G + 1) := hid (by rw [HM.out, if_pos ⟨hyx, hmg⟩])
              have HA2 : Hid (Pn.optI (Pn.ah (fn l) (Pn.lg (fn l)) n (j + 1)) = (j : Int)) := hid (by rw [HA.out, HTA.out, if_pos ⟨hyx, hmg⟩])
              clear HM HA HTA hmg
              go_wp2
              go_quiet (fail)
              go_wp2
              exact ⟨⟨j + 1, _, by omega, by push_cast; rfl, by rw [HM2.out]; push_cast; rfl, by rw [HA2.out], rfl⟩, by simp [intOf]; omega⟩
            · have k6 : ¬ (G : Int) + 1 > (M : Int) := by omega
              have HM2 : Hid (Pn.mxl (fn l) (Pn.lg (fn l)) n (j + 1) = M) := hid (by rw [HM.out, if_neg (fun h => hmg h.2)])
              have HA2 : Hid (Pn.optI (Pn.ah (fn l) (Pn.lg (fn l)) n (j + 1)) = T) := hid (by rw [HA.out, HTA.out, if_neg (fun h => hmg h.2)])
              clear HM HA HTA hmg
              go_wp2
              go_quiet (fail)
              go_wp2
              exact ⟨⟨j + 1, _, by omega, by push_cast; rfl, by rw [HM2.out], by rw [HA2.out], rfl⟩, by simp [intOf]; omega⟩
          · have HM2 : Hid (Pn.mxl (fn l) (Pn.lg (fn l)) n (j + 1) = M) := hid (by rw [HM.out, if_neg (fun h => hyx h.1)])
            have HA2 : Hid (Pn.optI (Pn.ah (fn l) (Pn.lg (fn l)) n (j + 1)) = T) := hid (by rw [HA.out, HTA.out, if_neg (fun h => hyx h.1)])
            have dk : decide (y < x) = false := decide_eq_false hyx
            clear HM HA HTA
            go_wp2
            go_quiet (fail)
            go_wp2
            exact ⟨⟨j + 1, _, by omega, by push_cast; rfl, by rw [HM2.out], by rw [HA2.out], rfl⟩, by simp [intOf]; omega⟩
        · obtain rfl : j = n := by omega
          have HGE := hid (Pn.lg_eq (fn l) j)
          have hgl := Pn.lg_le (fn l) (j + 1) j (by omega)
          rw [← HGE.out]
          have HLN := hid (Pn.longL_next (fn l) j)
          have HAN := hid (Pn.aheadL_next (fn l) j)
          obtain ⟨G, hG⟩ : ∃ G, G = Pn.lg (fn l) j := ⟨_, rfl⟩
          obtain ⟨T, hT⟩ : ∃ T, T = Pn.optI (Pn.ah (fn l) (Pn.lg (fn l)) j j) := ⟨_, rfl⟩
          have HGG := hid hG
          rw [← hG] at HLN hgl ⊢
          rw [← hT] at HAN ⊢
          have h3l := Pn.longL_len (fn l) j
          have h4l := Pn.aheadL_len (fn l) j
          obtain ⟨L3, hL3⟩ : ∃ L3, L3 = Pn.longL (fn l) j := ⟨_, rfl⟩
          obtain ⟨L4, hL4⟩ : ∃ L4, L4 = Pn.aheadL (fn l) j := ⟨_, rfl⟩
          rw [← hL3] at H3 HLN h3l HAB
          rw [← hL4] at H4 HAN h4l HAB
          have H3' : Hid (OwnI (wr.drewN nd) w.heap.size (.slice a3 j c3) L3) := hid (by have h := own_stays H3.out (below_drewN (Below.refl _ _) nd); show World.ownsRow _ _ _ _ _ _ _; rw [h3l] at h ⊢; exact h)
          have H4' : Hid (OwnI (wr.drewN nd) w.heap.size (.slice a4 j c4) L4) := hid (by have h := own_stays H4.out (below_drewN (Below.refl _ _) nd); show World.ownsRow _ _ _ _ _ _ _; rw [h4l] at h ⊢; exact h)
          have HAB' : Hid (Apart (.slice a3 j c3) (.slice a4 j c4)) := hid (by have h := HAB.out; rw [h3l, h4l] at h; exact h)
          have HB' := hid (below_drewN HB.out nd)
          generalize wr.drewN nd = w5 at H3' H4' HB' ⊢
          clear H3 H4 HAB HB HR3 hG hT hL3 hL4 d1 HGE
          go_upto_region 16 with (at_builtin; refine wpList_append_in rfl _ _ rfl w.heap.size _ L3 rfl (own_stays H3'.out (one_below _ w5)) w5.heap.size 1 (G : Int) rfl (one_cell _ w5) (by omega) (Nat.le_trans HB'.out.size (one_below _ w5).size) ?_; intro v1 w6 hO1 hg1; have HO1 : Hid (OwnI w6 w.heap.size v1 (Pn.longL (fn l) (j + 1))) := hid (by rw [HLN.out]; exact hO1); have HO4 := hid (kept_row (own_stays H4'.out (one_below (G : Int) w5)) hg1.1 HAB'.out); have HAB1 := hid (apart_new (own_stays H4'.out (one_below (G : Int) w5)) HAB'.out hg1.2); have HB6 := hid ((HB'.out.trans ((one_below (G : Int) w5).mono HB'.out.size)).grown hg1.1 (Nat.le_trans HB'.out.size (one_below (G : Int) w5).size) (fun q hq => own_ge H3'.out q hq)); clear hO1 hg1)
          clear H3' H4' HAB' HB'
          go_upto_region 17 with (at_builtin; refine wpList_append_in rfl _ _ rfl w.heap.size _ L4 rfl (own_stays HO4.out (one_below _ w6)) w6.heap.size 1 T rfl (one_cell _ w6) (by omega) (Nat.le_trans HB6.out.size (one_below _ w6).size) ?_; intro v2 w7 hO2 hg2; have HO2 : Hid (OwnI w7 w.heap.size v2 (Pn.aheadL (fn l) (j + 1))) := hid (by rw [HAN.out]; exact hO2); have HO3 := hid (kept_row (own_stays HO1.out (one_below T w6)) hg2.1 HAB1.out.symm); have HAB2 := hid (apart_new (own_stays HO1.out (one_below T w6)) HAB1.out.symm hg2.2).symm; have HB7 := hid ((HB6.out.trans ((one_below T w6).mono HB6.out.size)).grown hg2.1 (Nat.le_trans HB6.out.size (one_below T w6).size) (fun q hq => own_ge HO4.out q hq)); clear hO2 hg2)
          clear HO1 HO4 HAB1 HB6
          obtain ⟨a1, c1, e1⟩ := own_shape HO3.out
          subst e1
          obtain ⟨a2, c2, e2⟩ := own_shape HO2.out
          subst e2
          have h1l := Pn.longL_len (fn l) (j + 1)
          have h2l := Pn.aheadL_len (fn l) (j + 1)
          have HR1 : Hid (RdI w7 _ (Pn.longL (fn l) (j + 1))) := hid (own_rd HO3.out)
          have HLS : Hid (∀ m, Pn.lst (fn l) j = some m → m < j ∧ Pn.lst (fn l) (j + 1) = if Pn.lg (fn l) m < G then some j else some m) := hid (fun m hm => ⟨(Pn.lst_some hm).1, by rw [Pn.lst, hm, HGG.out]⟩)
          have HLS0 : Hid (Pn.lst (fn l) j = none → Pn.lst (fn l) (j + 1) = some j) := hid (fun hm => by rw [Pn.lst, hm])
          rw [h1l] at HR1 ⊢
          cases hls : Pn.lst (fn l) j with
          | none =>
            have HN := hid (HLS0.out hls)
            have e0 : Pn.optI none = (-1 : Int) := rfl
            rw [e0]
            clear hls HLS HLS0
            go_wp2
            rw [h1l] at HO3 HAB2
            exact ⟨⟨j + 1, by omega, by push_cast; rfl, by rw [HN.out]; rfl, hid (by show World.ownsRow _ _ _ _ _ _ _; rw [h1l]; exact HO3.out), HO2, HAB2, HB7⟩, by simp [intOf]; omega⟩
          | some m =>
            obtain ⟨m1, m2⟩ := HLS.out m hls
            have e0 : Pn.optI (some m) = (m : Int) := rfl
            rw [e0]
            obtain ⟨b1, o1, eb1, _, d5⟩ := rdI_at HR1.out (Pn.longL_get (fn l) (show m < j + 1 by omega))
            subst eb1
            obtain ⟨G2, hG2⟩ : ∃ G2, G2 = Pn.lg (fn l) m := ⟨_, rfl⟩
            rw [← hG2] at d5 m2
            have HM2 := hid m2
            obtain ⟨J, hJ⟩ : ∃ J, J = j + 1 := ⟨_, rfl⟩
            have HO2J : Hid (OwnI w7 w.heap.size (.slice a2 (Pn.aheadL (fn l) J).length c2) (Pn.aheadL (fn l) J)) := hid (by rw [hJ]; exact HO2.out)
            rw [← hJ]
            have HJ := hid hJ
            have k1 : ¬ (m : Int) < 0 := by omega
            have k2 : (0 : Int) ≤ (m : Int) := by omega
            have k3 : (m : Int) < (J : Int) := by omega
            clear hls HLS HLS0 m2 hJ hG2
            by_cases hgg : G2 < G
            · have k4 : (G : Int) > (G2 : Int) := by omega
              have HN : Hid (Pn.lst (fn l) (j + 1) = some j) := hid (by rw [HM2.out, if_pos hgg])
              go_wp2
              rw [h1l, ← HJ.out] at HO3 HAB2
              exact ⟨⟨j + 1, by omega, by push_cast; rfl, by rw [HN.out]; rfl, hid (by show World.ownsRow _ _ _ _ _ _ _; rw [h1l, ← HJ.out]; exact HO3.out), by rw [← HJ.out]; exact HO2J, by first | exact HAB2 | (rw [← HJ.out] at HAB2; exact HAB2), HB7⟩, by simp [intOf]; omega⟩
            · have k4 : ¬ (G : Int) > (G2 : Int) := by omega
              have HN : Hid (Pn.lst (fn l) (j + 1) = some m) := hid (by rw [HM2.out, if_neg hgg])
              go_wp2
              rw [h1l, ← HJ.out] at HO3 HAB2
              exact ⟨⟨j + 1, by omega, by push_cast; rfl, by rw [HN.out]; rfl, hid (by show World.ownsRow _ _ _ _ _ _ _; rw [h1l, ← HJ.out]; exact HO3.out), by rw [← HJ.out]; exact HO2J, by first | exact HAB2 | (rw [← HJ.out] at HAB2; exact HAB2), HB7⟩, by simp [intOf]; omega⟩
    · obtain rfl : n = l.length := by omega
      obtain ⟨w3, hw3⟩ : ∃ w3, w3 = wr := ⟨_, rfl⟩
      subst hw3
      have HR4 : Hid (RdI w3 _ (Pn.aheadL (fn l) l.length)) := hid (own_rd H4.out)
      obtain ⟨a4, c4, e4⟩ := own_shape H4.out
      subst e4
      have h4l := Pn.aheadL_len (fn l) l.length
      rw [h4l] at HR4 ⊢
      obtain ⟨K, hK⟩ : ∃ K, K = (match Pn.lst (fn l) l.length with | none => 0 | some m => Pn.lg (fn l) m) := ⟨_, rfl⟩
      have HBK : Hid (Pn.BkOk (fn l) l.length K [] (Pn.lst (fn l) l.length)) := hid (by rw [hK]; exact Pn.bk_start _ _)
      have hKl : K ≤ l.length := by
        rw [hK]
        split
        · omega
        · next m e => have h1 := Pn.lst_some e; have := Pn.lg_le (fn l) l.length m h1.1; omega
      have HU4 : Hid (Under w3.heap.size (.slice a4 l.length c4)) := hid HR4.out.under
      clear hK H3 H4 HAB
      go_wp2
      go_loopw [5, 10] (fun la v10 w9 => ∃ (cur : Option Nat) (bs : List Nat), la = .int .i64 (Pn.optI cur) ∧ bs.length ≤ K ∧ Hid (Pn.BkOk (fn l) l.length K bs cur) ∧ Hid (w9.ownsRow w3.heap.size 3 1 v10 bs.length (isC (ni bs))) ∧ Hid (Below w3.heap.size w3 w9)) (fun la _ _ => (intOf la + 1).toNat)
      case atStart => exact ⟨Pn.lst (fn l) l.length, [], rfl, Nat.zero_le _, HBK, hid (World.ownsRow_nil _ _ _ _), hid (Below.refl _ _)⟩
      case round =>
        clear HBK
        obtain ⟨cur, bs, rfl, hbl, HBK, HO, HBw⟩ := hrel
        cases cur with
        | some c =>
          obtain ⟨s1, s2, _, _⟩ := HBK.out.some_ c rfl
          have hlg := Pn.lg_pos (fn l) c
          have HBK2 := hid (Pn.bk_next HBK.out)
          have e0 : Pn.optI (some c) = (c : Int) := rfl
          rw [e0]
          have HOI : Hid (OwnI wr w3.heap.size _ (ni bs)) := hid (by show World.ownsRow _ _ _ _ _ _ _; rw [show (ni bs).length = bs.length from List.length_map _]; exact HO.out)
          have hnl : (ni bs).length = bs.length := List.length_map _
          have HNE : Hid (ni (bs ++ [c]) = ni bs ++ [(c : Int)]) := hid List.map_append
          have k1 : (c : Int) ≥ 0 := by omega
          have k2 : (0 : Int) ≤ (c : Int) := by omega
          have k3 : (c : Int) < (l.length : Int) := by omega
          have HS2 := hid s2
          clear HO HBK
          go_upto_region 22 with (at_builtin; refine wpList_append_in rfl _ _ rfl w3.heap.size _ (ni bs) rfl (own_stays HOI.out (one_below _ wr)) wr.heap.size 1 (c : Int) rfl (one_cell _ wr) (by omega) (Nat.le_trans HBw.out.size (one_below _ wr).size) ?_; intro v1 w6 hO1 hg1; have HO1 : Hid (w6.ownsRow w3.heap.size 3 1 v1 (bs ++ [c]).length (isC (ni (bs ++ [c])))) := hid (by have h : w6.ownsRow _ _ _ _ _ _ := hO1; rw [← HNE.out, show (ni (bs ++ [c])).length = (bs ++ [c]).length from List.length_map _] at h; exact h); have HB6 := hid ((HBw.out.trans ((one_below (c : Int) wr).mono HBw.out.size)).grown hg1.1 (Nat.le_trans HBw.out.size (one_below (c : Int) wr).size) (fun q hq => own_ge HOI.out q hq)); clear hO1 hg1)
          obtain ⟨b4, o4, e4, _, d4⟩ := rdI_at (HR4.out.below HB6.out) (Pn.aheadL_get (fn l) HS2.out)
          subst e4
          have HDE : Hid (∀ p, Pn.ah (fn l) (Pn.lg (fn l)) c c = some p → p < c) := hid (fun p hp => (Pn.prev_of hp).1)
          generalize Pn.ah (fn l) (Pn.lg (fn l)) c c = nx at HBK2 d4 HDE
          go_wp2
          refine ⟨⟨nx, bs ++ [c], rfl, by rw [List.length_append, List.length_singleton]; omega, HBK2, HO1, HB6⟩, ?_⟩
          cases nx with
          | none => simp [intOf, Pn.optI]
          | some p => have := HDE.out p rfl; simp [intOf, Pn.optI]; omega
        | none =>
          have HROW := hid (Pn.bk_end HBK.out)
          have e0 : Pn.optI none = (-1 : Int) := rfl
          rw [e0]
          obtain ⟨w5, hw5⟩ : ∃ w5, w5 = wr := ⟨_, rfl⟩
          subst hw5
          obtain ⟨a5, c5, e5⟩ := own_shape HO.out
          subst e5
          have HRB : Hid (RdI w5 (.slice a5 bs.length c5) (ni bs)) := hid (by show RdX _ _ _ _; rw [show (ni bs).length = bs.length from List.length_map _]; exact own_rd HO.out)
          have hnl : (ni bs).length = bs.length := List.length_map _
          have i0 : IntKind.i64.wrap ((bs.length : Int) - 1) = (bs.length : Int) - 1 := wrapOk (by omega) (by omega)
          have hsz : w.heap.size ≤ w3.heap.size := HB.out.size
          have hsz5 : w3.heap.size ≤ w5.heap.size := HBw.out.size
          clear HBK HO
          go_wp2
          go_loopw [11, 12] (fun v11 i w9 => ∃ m : Nat, m ≤ bs.length ∧ i = .int .i64 ((m : Int) - 1) ∧ Hid (w9.ownsRow w5.heap.size 3 1 v11 (bs.length - m) (isC (ni (bs.drop m).reverse))) ∧ Hid (Below w5.heap.size w5 w9)) (fun _ i _ => (intOf i + 1).toNat)
          case atStart => exact ⟨bs.length, Nat.le_refl _, rfl, hid (by rw [List.drop_length, Nat.sub_self]; exact World.ownsRow_nil _ _ _ _), hid (Below.refl _ _)⟩
          case round =>
            obtain ⟨m, hm, rfl, HO, HB9⟩ := hrel
            by_cases h0 : m = 0
            · subst h0
              have j0 : ¬ (((0 : Nat) : Int) - 1 ≥ 0) := by omega
              have HFI : Hid (wr.ownsRow w.heap.size 3 1 _ (bs.reverse).length (isC (ni bs.reverse))) := hid (by have h := own_mono HO.out (Nat.le_trans hsz hsz5); rw [List.drop_zero, Nat.sub_zero] at h; rw [List.length_reverse]; exact h)
              clear HO
              go_wp2
              go_ret
              exact ⟨_, rfl, bs.reverse, HFI.out, by rw [List.length_reverse]; omega, HROW.out, HB.out.trans ((HBw.out.trans (HB9.out.mono hsz5)).mono hsz)⟩
            · obtain ⟨k, rfl⟩ : ∃ k, m = k + 1 := ⟨m - 1, by omega⟩
              have e1 : ((k + 1 : Nat) : Int) - 1 = (k : Int) := by omega
              rw [e1]
              obtain ⟨q, hq⟩ : ∃ q, bs[k]? = some q := ⟨_, List.getElem?_eq_getElem (by omega)⟩
              have hqi : (ni bs)[k]? = some (q : Int) := by unfold ni; rw [List.getElem?_map, hq]; rfl
              obtain ⟨b5, o5, e5, _, d5⟩ := rdI_at (HRB.out.below HB9.out) hqi
              subst e5
              have HDR : Hid ((bs.drop k).reverse = (bs.drop (k + 1)).reverse ++ [q]) := hid (by
                have hk : k < bs.length := by omega
                have e : bs.drop k = q :: bs.drop (k + 1) := by
                  rw [List.drop_eq_getElem_cons hk]
                  rw [List.getElem?_eq_getElem hk] at hq
                  rw [Option.some.inj hq]
                rw [e, List.reverse_cons])
              have hdl : (ni (bs.drop (k + 1)).reverse).length = bs.length - (k + 1) := by unfold ni; rw [List.length_map, List.length_reverse, List.length_drop]
              have hdl2 : (ni (bs.drop k).reverse).length = bs.length - k := by unfold ni; rw [List.length_map, List.length_reverse, List.length_drop]
              have HNE : Hid (ni (bs.drop k).reverse = ni (bs.drop (k + 1)).reverse ++ [(q : Int)]) := hid (by rw [HDR.out]; exact List.map_append)
              have HOI : Hid (OwnI wr w5.heap.size _ (ni (bs.drop (k + 1)).reverse)) := hid (by show World.ownsRow _ _ _ _ _ _ _; rw [hdl]; exact HO.out)
              obtain ⟨D, hD⟩ : ∃ D, D = ni (bs.drop (k + 1)).reverse := ⟨_, rfl⟩
              rw [← hD] at HOI HNE hdl
              have HDL2 := hid hdl2
              have k1 : (k : Int) ≥ 0 := by omega
              have k2 : (0 : Int) ≤ (k : Int) := by omega
              have k3 : (k : Int) < (bs.length : Int) := by omega
              have k4 : IntKind.i64.wrap ((k : Int) - 1) = (k : Int) - 1 := wrapOk (by omega) (by omega)
              clear HO hq hqi hD hdl2
              go_wp2_with (at_builtin; refine wpList_append_in rfl _ _ rfl w5.heap.size _ D rfl (own_stays HOI.out (one_below _ wr)) wr.heap.size 1 (q : Int) rfl (one_cell _ wr) (by omega) (Nat.le_trans HB9.out.size (one_below _ wr).size) ?_; intro v1 w6 hO1 hg1; have HO1 : Hid (w6.ownsRow w5.heap.size 3 1 v1 (bs.length - k) (isC (ni (bs.drop k).reverse))) := hid (by have h : w6.ownsRow _ _ _ _ _ _ := hO1; rw [← HNE.out, HDL2.out] at h; exact h); have HB6 := hid ((HB9.out.trans ((one_below (q : Int) wr).mono HB9.out.size)).grown hg1.1 (Nat.le_trans HB9.out.size (one_below (q : Int) wr).size) (fun q hq => own_ge HOI.out q hq)); clear hO1 hg1)
              exact ⟨⟨k, by omega, rfl, HO1, HB6⟩, by simp [intOf]⟩
end Go.Proofs.Ytdilmgcdebobaaa
