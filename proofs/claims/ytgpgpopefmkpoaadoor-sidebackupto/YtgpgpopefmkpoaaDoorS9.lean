/-
  The walk of the document's Inline.
-/
import Derived.Test.YtgpgpopefmkpoaaDoorS8
import Derived.Test.YtgpgpopefmkpoaaDoorDn
namespace Go.Proofs.YtgpgpopefmkpoaaDoor
open Go.RowKit
open Ed (Ch)

/-- the marked text; the empty one, if the script is none -/
def inlS (s : List Ch) (A B : List ByteArray) : ByteArray := if Ed.validN s A.length B.length = 0 then bB (inlP A B (Ed.normal s A.length B.length) 0) else ⟨#[]⟩
theorem own_not {w : World} {B b n size : Nat} {e : TypeId} {v : Value} {xs : List Value} (h : w.ownsRow B e size v n xs) (hb : b < B) : some b ≠ v.ownBlock := fun h2 => absurd (own_ge h b h2.symm) (by omega)
theorem bB_sizeS (l : Sd.Bs) : (bB l).size = l.length := by rw [← dsize]; rfl
theorem add_sizeS (x y : ByteArray) : (x ++ y).size = x.size + y.size := by simp
theorem add_dataS (x y : ByteArray) : (x ++ y).data.toList = x.data.toList ++ y.data.toList := by simp
theorem jpart {N x y c : Nat} {w : World} {a : Option Addr} {L : List ByteArray} (hN : N = L.length) (hNl : N ≤ 1099511627776) (hr : RdT w (.slice a N c) L) (hxy : x ≤ y) (hy : y ≤ N) (hl : (flatB (part L x y)).length ≤ 70368744177664) :
    Calls Tryd.prog 46 #[.slice (if c = x then a else a.map (·.add x)) (y - x) (c - x)] w fun e w' => e = .returned (.string (bB (flatB (part L x y)))) ∧ Below w.heap.size w w' := by
  subst hN
  exact rJoin_any (rdT_sliced hr hxy hy) (by rw [part_len hy]; omega) hl
theorem flat_part (L : List ByteArray) (x y : Nat) : (flatB (part L x y)).length ≤ (flatB L).length := by
  have h1 : flatB L = flatB (L.take x) ++ flatB (L.drop x) := by unfold flatB; rw [← List.flatten_append, ← List.map_append, List.take_append_drop]
  have h2 := flatB_le (L.drop x) (y - x)
  rw [h1, List.length_append]
  unfold part
  omega
set_option maxHeartbeats 16000000 in
set_option maxRecDepth 100000 in
theorem rInline_any {vs va vb : Value} {s : List Ch} {A Bl : List ByteArray} {w : World} (hs : RdC w vs s) (hwf : ∀ c ∈ s, WfC c) (hl : s.length ≤ 10000000000000) (ha : RdT w va A) (hb : RdT w vb Bl) (hA : A.length ≤ 1099511627776) (hB : Bl.length ≤ 1099511627776)
    (hT : Ed.validN s A.length Bl.length = 0 → (inlP A Bl (Ed.normal s A.length Bl.length) 0).length + (flatB A).length + (flatB Bl).length + 8 ≤ 35184372088832) :
    Calls Tryd.prog 20 #[vs, va, vb] w fun e w' => e = .returned (.tuple #[.string (inlS s A Bl), .int .i64 (Ed.validN s A.length Bl.length : Nat)]) ∧ Below w.heap.size w w' := by
  obtain ⟨i0, hi, hz0, hz1, hz2⟩ := info_parts Tryd.infoByteS
  have HN := hid (refNormal_all (n := A.length) (m := Bl.length) hs hwf hl)
  have HA0 := hid ha
  have HB0 := hid hb
  obtain ⟨s0, c0, rfl⟩ := hs.shape
  obtain ⟨aa, ca, rfl⟩ := ha.shape
  obtain ⟨ab, cb, rfl⟩ := hb.shape
  by_cases h0 : Ed.validN s A.length Bl.length = 0
  · have hV := Ed.validN_zero.1 h0
    have hNV := (Ed.normal_Val hV).1
    have hnl := Val_len hNV
    have hla := Ed.cnt_iff.1 hV.1
    have hlb := Ed.cnt_iff.1 hV.2.1
    have hin := inl_both (A := A) (B := Bl) _ _ _ hNV.2.2 (Int.le_refl _) (Int.le_refl _) (by omega)
    rw [show Int.toNat 0 = 0 from rfl] at hin
    have HE : Hid (inlS s A Bl = bB (inlP A Bl (Ed.normal s A.length Bl.length) 0)) := hid (by unfold inlS; rw [if_pos h0])
    have hT' := hT h0
    have en : nrmA s A.length Bl.length = Ed.normal s A.length Bl.length := by unfold nrmA; rw [if_pos h0]
    rw [en, h0] at HN
    rw [HE.out, h0]
    generalize Ed.normal s A.length Bl.length = S at HN hnl hin hT' HE ⊢
    obtain ⟨T, hTT⟩ : ∃ T, T = inlP A Bl S 0 := ⟨_, rfl⟩
    rw [← hTT] at hT' hin ⊢
    obtain ⟨S2, hS2⟩ : ∃ S2, S2 = S ++ [⟨A.length, 0, Bl.length, 0⟩] := ⟨_, rfl⟩
    have hS2l : S2.length = S.length + 1 := by rw [hS2, List.length_append]; rfl
    rw [← hS2] at hin
    have HIN := hid hin
    have HTL := hid hT'
    have HS2 := hid hS2
    obtain ⟨n, hn⟩ : ∃ n, n = A.length := ⟨_, rfl⟩
    obtain ⟨m, hm⟩ : ∃ m, m = Bl.length := ⟨_, rfl⟩
    have HNn := hid hn
    have HMm := hid hm
    rw [← hn] at HN hla hA HS2 ⊢
    rw [← hm] at HN hlb hB HS2 ⊢
    clear hs hwf hl ha hb hT h0 hV hNV HE hT' en hin hTT hS2 hn hm
    go_enter Tryd.func20, Tryd.ntmps20
    go_wp2_with fail
    refine HN.out.mono ?_
    rintro e w1 ⟨v1, rfl, hO, hb1⟩
    obtain ⟨a1, c1, e1⟩ := own_shape hO
    subst e1
    have HO1 := hid hO
    have HB1 := hid hb1
    have hbN := (Below.refl w1.heap.size w1).alloc (Nat.le_refl _) (.cells #[.int .i64 (n : Int), .int .i64 0, .int .i64 (m : Int), .int .i64 0] 45)
    have HBN := hid hbN
    clear hO hb1 hbN HN
    go_wp2_with (at_builtin; refine wpList_append_ch rfl _ _ rfl w.heap.size _ S rfl (own_stays HO1.out HBN.out) w1.heap.size ⟨n, 0, m, 0⟩ rfl (heap_alloc_new w1 _) (by omega) (Nat.le_trans HB1.out.size HBN.out.size) ?_; intro v2 w2 hO2 hb2; have HO2 := hid hO2; have HB2 := hid ((HB1.out.trans (HBN.out.mono HB1.out.size)).trans hb2); clear hO2 hb2)
    obtain ⟨a2, c2, e2⟩ := own_shape HO2.out
    subst e2
    obtain ⟨N, hN⟩ : ∃ N, N = S2.length := ⟨_, rfl⟩
    have HRD0 : Hid (RdC w2 (.slice a2 N c2) S2) := hid (by have := own_rd HO2.out; rw [← HS2.out] at this; rw [hN]; exact this)
    have HNN := hid hN
    rw [← HS2.out, ← hN]
    have hNb : N ≤ 8388609 := by omega
    obtain ⟨G, hG⟩ : ∃ G, G = w2.heap.size := ⟨_, rfl⟩
    have HG := hid hG
    have hca := rd_cap HA0.out
    have hcb := rd_cap HB0.out
    rw [← HNn.out] at hca
    rw [← HMm.out] at hcb
    have HWB : Hid (∀ w', Below G w2 w' → Below w.heap.size w w') := hid (fun w' h => HB2.out.trans (h.mono (by rw [hG]; exact HB2.out.size)))
    have HAw : Hid (∀ w', Below G w2 w' → RdT w' (.slice aa n ca) A) := hid (fun w' h => by have := RdX.below HA0.out (HWB.out w' h); rw [HNn.out]; exact this)
    have HBw : Hid (∀ w', Below G w2 w' → RdT w' (.slice ab m cb) Bl) := hid (fun w' h => by have := RdX.below HB0.out (HWB.out w' h); rw [HMm.out]; exact this)
    have HRD : Hid (∀ w', Below G w2 w' → RdC w' (.slice a2 N c2) S2) := hid (fun w' h => RdX.below HRD0.out (by rw [← hG]; exact h))
    clear hN hG HO2 HO1 HB1 HBN HS2 hS2l
    go_wp2_with fail
    go_loopw [10, 11, 12] (fun o kk i wr => ∃ q db : Nat, q ≤ N ∧ i = .int .i64 q ∧ kk = .int .i64 db ∧ db ≤ m ∧ Hid (∃ P, OwB wr G o P ∧ T = P ++ inlD A Bl (S2.drop q) db) ∧ Hid (Chn n m (S2.drop q) db) ∧ Hid (Below G w2 wr)) (fun _ _ i _ => N - (intOf i).toNat)
    case atStart => exact ⟨0, 0, Nat.zero_le _, rfl, rfl, Nat.zero_le _, hid ⟨[], World.ownsRow_nil _ _ _ _, HIN.out.1.symm⟩, hid (by have := HIN.out.2; rw [← HNn.out, ← HMm.out] at this; exact this), hid (Below.refl _ _)⟩
    case round =>
      obtain ⟨q, db, hq, rfl, rfl, hdb, HP, HC, HBX⟩ := hrel
      obtain ⟨P, hO, hTq⟩ := HP.out
      have HOX := hid hO
      clear hO HP
      by_cases hlt : q < N
      · obtain ⟨x, hx⟩ : ∃ x, S2[q]? = some x := ⟨_, List.getElem?_eq_getElem (by have := HNN.out; omega)⟩
        have hc := chn_at hx HC.out
        have hT1 := inlD_at (A := A) (B := Bl) (k := db) hx
        obtain ⟨bc, oc, ec, hbc, d0, d1, d2, d3⟩ := rdC_at HRD0.out hx
        subst ec
        have hbcG : bc < G := by have := HG.out; omega
        have HD : Hid (∀ w', Below G w2 w' → w'.cell? ⟨bc, oc + q * 4, none⟩ = some (.int .i64 x.a) ∧ w'.cell? ⟨bc, oc + q * 4 + 1, none⟩ = some (.int .i64 x.n) ∧ w'.cell? ⟨bc, oc + q * 4 + 2, none⟩ = some (.int .i64 x.b) ∧ w'.cell? ⟨bc, oc + q * 4 + 3, none⟩ = some (.int .i64 x.m)) := hid (fun w' h => ⟨(h.cell (p := ⟨bc, _, none⟩) hbcG).trans d0, (h.cell (p := ⟨bc, _, none⟩) hbcG).trans d1, (h.cell (p := ⟨bc, _, none⟩) hbcG).trans d2, (h.cell (p := ⟨bc, _, none⟩) hbcG).trans d3⟩)
        obtain ⟨xa0, xn0, xb0, xm0⟩ := x
        dsimp only at hc hT1 HD
        obtain ⟨p1, p2, p3, p4, p5, p6, p7⟩ := hc
        obtain ⟨xa, rfl⟩ := Int.eq_ofNat_of_zero_le p2
        obtain ⟨xn, rfl⟩ := Int.eq_ofNat_of_zero_le p3
        obtain ⟨xb, rfl⟩ := Int.eq_ofNat_of_zero_le (show 0 ≤ xb0 by omega)
        obtain ⟨xm, rfl⟩ := Int.eq_ofNat_of_zero_le p5
        have ey : ((xa : Int) + (xn : Int)).toNat = xa + xn := by omega
        have ez : ((xb : Int) + (xm : Int)).toNat = xb + xm := by omega
        rw [ey, ez, Int.toNat_natCast, Int.toNat_natCast] at hT1
        rw [ez] at p7
        have HC2 := hid p7
        have g1 : db ≤ xb := by omega
        have g2 : xa + xn ≤ n := by omega
        have g3 : xb + xm ≤ m := by omega
        obtain ⟨ya, hya⟩ : ∃ ya, ya = xa + xn := ⟨_, rfl⟩
        obtain ⟨yb, hyb⟩ : ∃ yb, yb = xb + xm := ⟨_, rfl⟩
        rw [← hya] at hT1 g2
        rw [← hyb] at hT1 g3 HC2
        have hl1 := flat_part Bl db xb
        have hl2 := flat_part A xa ya
        have hl3 := flat_part Bl xb yb
        have HLT := hid HTL.out
        obtain ⟨A1, hA1⟩ : ∃ A1, (if cb = db then ab else ab.map (·.add db)) = A1 := ⟨_, rfl⟩
        obtain ⟨A2, hA2⟩ : ∃ A2, (if ca = xa then aa else aa.map (·.add xa)) = A2 := ⟨_, rfl⟩
        obtain ⟨A3, hA3⟩ : ∃ A3, (if cb = xb then ab else ab.map (·.add xb)) = A3 := ⟨_, rfl⟩
        have HJ1 : Hid (∀ w', Below G w2 w' → Calls Tryd.prog 46 #[.slice A1 (xb - db) (cb - db)] w' fun e w'' => e = .returned (.string (bB (flatB (part Bl db xb)))) ∧ Below w'.heap.size w' w'') := hid (fun w' h => by
          have := jpart HMm.out (by omega) (HBw.out w' h) g1 (by omega) (by have := HLT.out; omega)
          rw [hA1] at this
          exact this)
        have HJ2 : Hid (∀ w', Below G w2 w' → Calls Tryd.prog 46 #[.slice A2 (ya - xa) (ca - xa)] w' fun e w'' => e = .returned (.string (bB (flatB (part A xa ya)))) ∧ Below w'.heap.size w' w'') := hid (fun w' h => by
          have := jpart HNn.out (by omega) (HAw.out w' h) (show xa ≤ ya by omega) g2 (by have := HLT.out; omega)
          rw [hA2] at this
          exact this)
        have HJ3 : Hid (∀ w', Below G w2 w' → Calls Tryd.prog 46 #[.slice A3 (yb - xb) (cb - xb)] w' fun e w'' => e = .returned (.string (bB (flatB (part Bl xb yb)))) ∧ Below w'.heap.size w' w'') := hid (fun w' h => by
          have := jpart HMm.out (by omega) (HBw.out w' h) (show xb ≤ yb by omega) g3 (by have := HLT.out; omega)
          rw [hA3] at this
          exact this)
        have iw1 : IntKind.i64.wrap ((xa : Int) + (xn : Int)) = (ya : Int) := by rw [IntKind.wrap_i64]; omega
        have iw2 : IntKind.i64.wrap ((xb : Int) + (xm : Int)) = (yb : Int) := by rw [IntKind.wrap_i64]; omega
        have HPL : Hid (P.length + (inlD A Bl (S2.drop q) db).length = T.length) := hid (by rw [hTq, List.length_append])
        obtain ⟨J1, hJ1⟩ : ∃ J, J = bB (flatB (part Bl db xb)) := ⟨_, rfl⟩
        obtain ⟨J2, hJ2⟩ : ∃ J, J = bB (flatB (part A xa ya)) := ⟨_, rfl⟩
        obtain ⟨J3, hJ3⟩ : ∃ J, J = bB (flatB (part Bl xb yb)) := ⟨_, rfl⟩
        have HTq : Hid (T = P ++ (J1.data.toList ++ ((if 0 < (xn : Int) then [91, 45] ++ J2.data.toList ++ [45, 93] else []) ++ ((if 0 < (xm : Int) then [123, 43] ++ J3.data.toList ++ [43, 125] else []) ++ inlD A Bl (S2.drop (q + 1)) yb)))) := hid (by rw [hTq, hT1, hJ1, hJ2, hJ3]; rfl)
        rw [← hJ1] at HJ1
        rw [← hJ2] at HJ2
        rw [← hJ3] at HJ3
        have HZF : Hid (J1.size ≤ (flatB Bl).length ∧ J2.size ≤ (flatB A).length ∧ J3.size ≤ (flatB Bl).length) := hid ⟨by rw [hJ1, bB_sizeS]; exact hl1, by rw [hJ2, bB_sizeS]; exact hl2, by rw [hJ3, bB_sizeS]; exact hl3⟩
        have z1 : J1.size ≤ 70368744177664 := by rw [hJ1, bB_sizeS]; have := HLT.out; omega
        have z2 : J2.size ≤ 70368744177664 := by rw [hJ2, bB_sizeS]; have := HLT.out; omega
        have z3 : J3.size ≤ 70368744177664 := by rw [hJ3, bB_sizeS]; have := HLT.out; omega
        have i1 : (0 : Int) ≤ (q : Int) := by omega
        have i2 : (q : Int) < (N : Int) := by omega
        have g1' : (db : Int) ≤ (xb : Int) := by omega
        have g4 : (xb : Int) ≤ (cb : Int) := by omega
        have g5 : (ya : Int) ≤ (ca : Int) := by omega
        have g6 : (yb : Int) ≤ (cb : Int) := by omega
        have g7 : (xa : Int) ≤ (ya : Int) := by omega
        have g8 : (xb : Int) ≤ (yb : Int) := by omega
        have g9 : (0 : Int) ≤ (db : Int) := by omega
        obtain ⟨u0, u1, u2, u3⟩ := HD.out wr HBX.out
        clear hx hT1 hbc d0 d1 d2 d3 p1 p2 p3 p4 p5 p6 p7 hl1 hl2 hl3 hTq hJ1 hJ2 hJ3 HC hya hyb ey ez
        go_wp2_with fail
        refine (HJ1.out wr HBX.out).mono ?_
        rintro e w3 ⟨rfl, hb3⟩
        have HB3 := hid (HBX.out.trans (hb3.mono (by have := HBX.out.size; have := HG.out; omega)))
        have HO3 := hid (own_stays HOX.out hb3)
        have HPQ : Hid (P.length + J1.size + J2.size + J3.size + 20 ≤ 140737488355328) := hid (by have h1 := HPL.out; have h2 := HTL.out; have h3 := HZF.out; omega)
        clear hb3 HBX HOX u0 u1 u2 u3
        go_wp2_with (at_builtin; refine Lib.wpList_append_own_string _ rfl _ _ 60 9 rfl G 5 i0 Tryd.underlying60 Tryd.underlying9 hi hz0 hz1 hz2 _ _ _ rfl HO3.out J1 rfl ?c3 ?c4 ?c5 ?_)
        case c3 => have h1 := HPQ.out; unfold maxLen; omega
        case c4 => have h1 := HPQ.out; omega
        case c5 => have := HB3.out.size; have := HG.out; omega
        intro v4 w4 hown4 hgrow4 _
        have HB4 := hid (HB3.out.grown hgrow4 (by have := HB3.out.size; have := HG.out; omega) (own_ge HO3.out))
        have HO4 := hid (str_ownS (l := P) (s := J1) hown4)
        obtain ⟨P1, hP1⟩ : ∃ P1, P1 = P ++ J1.data.toList := ⟨_, rfl⟩
        have HP1 : Hid (P1.length + J2.size + J3.size + 20 ≤ 140737488355328 ∧ T = P1 ++ ((if 0 < (xn : Int) then [91, 45] ++ J2.data.toList ++ [45, 93] else []) ++ ((if 0 < (xm : Int) then [123, 43] ++ J3.data.toList ++ [43, 125] else []) ++ inlD A Bl (S2.drop (q + 1)) yb))) := hid ⟨by have h1 := HPQ.out; rw [hP1, List.length_append, dsize]; omega, by rw [hP1, HTq.out]; simp only [List.append_assoc]⟩
        rw [← hP1] at HO4
        obtain ⟨u0, u1, u2, u3⟩ := HD.out w4 HB4.out
        clear hown4 hgrow4 HB3 HO3 HTq HPL HPQ hP1
        have HS4 : Hid (G ≤ w4.heap.size) := hid (by have := HB4.out.size; have := HG.out; omega)
        have k1 : ¬ 9223372036854775807 < 2 + J2.size := by omega
        have k2 : ¬ 9223372036854775807 < 2 + J2.size + 2 := by omega
        have k3 : ¬ 9223372036854775807 < 2 + J3.size := by omega
        have k4 : ¬ 9223372036854775807 < 2 + J3.size + 2 := by omega
        by_cases hn0 : (0 : Int) < (xn : Int)
        · go_wp2_with fail
          go_region_held3 (fun w' => w'.cell? ⟨bc, oc + q * 4, none⟩ = some (.int .i64 (xa : Int)) ∧ w'.cell? ⟨bc, oc + q * 4 + 1, none⟩ = some (.int .i64 (xn : Int)) ∧ w'.cell? ⟨bc, oc + q * 4 + 2, none⟩ = some (.int .i64 (xb : Int)) ∧ w'.cell? ⟨bc, oc + q * 4 + 3, none⟩ = some (.int .i64 (xm : Int)))
            (first
              | go_keep
              | (go_split_ands
                 refine ⟨?_, ?_, ?_, ?_⟩ <;> exact (hbk.cell (lt_of_cell (by assumption))).trans (by assumption))
              | (go_split_ands
                 refine ⟨?_, ?_, ?_, ?_⟩ <;> (rw [hgrow.cell_far _ hlc hnc]; assumption)))
            (first
              | (go_at_call 46; refine (HJ2.out _ (below_drewN HB4.out 1)).mono ?_; rintro e w5 ⟨rfl, hbk⟩; have HBJ := hid ((below_drewN HB4.out 1).trans (hbk.mono HS4.out)); have HOJ := hid (own_stays (own_stays HO4.out (below_drewN (Below.refl _ _) 1)) hbk); have hlc : bc < w5.heap.size := Nat.lt_of_lt_of_le hbcG (Nat.le_trans HS4.out hbk.size); have hnc := own_not HOJ.out hbcG)
              | (refine step_append_str (by rfl) _ _ (by rfl) G i0 hi hz0 hz1 hz2 _ _ (by rfl) HOJ.out (ByteArray.mk #[91, 45] ++ J2 ++ ByteArray.mk #[45, 93]) (by rfl) (by have h1 := HP1.out.1; rw [add_sizeS, add_sizeS]; show P1.length + (2 + J2.size + 2) ≤ _; omega) (Nat.le_trans HS4.out hbk.size) ?_; intro v6 w6 hO9 hgrow; have HO6 := hid hO9; have HB6 := hid (HBJ.out.grown hgrow (Nat.le_trans HS4.out hbk.size) (own_ge HOJ.out)); clear hO9))
          have HS6 : Hid (G ≤ w6.heap.size) := hid (by have := HB6.out.size; have := HG.out; omega)
          clear hbk HBJ HOJ hlc hnc hgrow u0 u1 u2 u3
          obtain ⟨P2, hP2⟩ : ∃ P2, P2 = P1 ++ (ByteArray.mk #[91, 45] ++ J2 ++ ByteArray.mk #[45, 93]).data.toList := ⟨_, rfl⟩
          have HP2 : Hid (P2.length + J3.size + 16 ≤ 140737488355328 ∧ T = P2 ++ ((if 0 < (xm : Int) then [123, 43] ++ J3.data.toList ++ [43, 125] else []) ++ inlD A Bl (S2.drop (q + 1)) yb)) := hid ⟨by have h1 := HP1.out.1; rw [hP2, List.length_append, dsize, add_sizeS, add_sizeS]; show P1.length + (2 + J2.size + 2) + J3.size + 16 ≤ _; omega, by rw [hP2, HP1.out.2, if_pos hn0, add_dataS, add_dataS]; simp only [List.append_assoc]⟩
          rw [← hP2] at HO6
          clear hP2
          by_cases hm0 : (0 : Int) < (xm : Int)
          · obtain ⟨u0, u1, u2, u3⟩ := HD.out w6 HB6.out
            go_wp2_with fail
            go_region_held3 (fun w' => w'.cell? ⟨bc, oc + q * 4, none⟩ = some (.int .i64 (xa : Int)) ∧ w'.cell? ⟨bc, oc + q * 4 + 1, none⟩ = some (.int .i64 (xn : Int)) ∧ w'.cell? ⟨bc, oc + q * 4 + 2, none⟩ = some (.int .i64 (xb : Int)) ∧ w'.cell? ⟨bc, oc + q * 4 + 3, none⟩ = some (.int .i64 (xm : Int)))
              (first
                | go_keep
                | (go_split_ands
                   refine ⟨?_, ?_, ?_, ?_⟩ <;> exact (hbk.cell (lt_of_cell (by assumption))).trans (by assumption))
                | (go_split_ands
                   refine ⟨?_, ?_, ?_, ?_⟩ <;> (rw [hgrow.cell_far _ hlc hnc]; assumption)))
              (first
                | (go_at_call 46; refine (HJ3.out _ (below_drewN HB6.out 1)).mono ?_; rintro e w5 ⟨rfl, hbk⟩; have HBJ := hid ((below_drewN HB6.out 1).trans (hbk.mono HS6.out)); have HOJ := hid (own_stays (own_stays HO6.out (below_drewN (Below.refl _ _) 1)) hbk); have hlc : bc < w5.heap.size := Nat.lt_of_lt_of_le hbcG (Nat.le_trans HS6.out hbk.size); have hnc := own_not HOJ.out hbcG)
                | (refine step_append_str (by rfl) _ _ (by rfl) G i0 hi hz0 hz1 hz2 _ _ (by rfl) HOJ.out (ByteArray.mk #[123, 43] ++ J3 ++ ByteArray.mk #[43, 125]) (by rfl) (by have h1 := HP2.out.1; rw [add_sizeS, add_sizeS]; show P2.length + (2 + J3.size + 2) ≤ _; omega) (Nat.le_trans HS6.out hbk.size) ?_; intro v8 w8 hO9 hgrow; have HO8 := hid hO9; have HB8 := hid (HBJ.out.grown hgrow (Nat.le_trans HS6.out hbk.size) (own_ge HOJ.out)); clear hO9))
            clear hbk HBJ HOJ hlc hnc hgrow u0 u1 u2 u3
            obtain ⟨P3, hP3⟩ : ∃ P3, P3 = P2 ++ (ByteArray.mk #[123, 43] ++ J3 ++ ByteArray.mk #[43, 125]).data.toList := ⟨_, rfl⟩
            have HP3 : Hid (P3.length = P3.length ∧ T = P3 ++ inlD A Bl (S2.drop (q + 1)) yb) := hid ⟨rfl, by rw [hP3, HP2.out.2, if_pos hm0, add_dataS, add_dataS]; simp only [List.append_assoc]⟩
            rw [← hP3] at HO8
            clear hP3
            obtain ⟨u0, u1, u2, u3⟩ := HD.out w8 HB8.out
            go_wp2_with fail
            go_region_held3 (fun w' => w'.cell? ⟨bc, oc + q * 4, none⟩ = some (.int .i64 (xa : Int)) ∧ w'.cell? ⟨bc, oc + q * 4 + 1, none⟩ = some (.int .i64 (xn : Int)) ∧ w'.cell? ⟨bc, oc + q * 4 + 2, none⟩ = some (.int .i64 (xb : Int)) ∧ w'.cell? ⟨bc, oc + q * 4 + 3, none⟩ = some (.int .i64 (xm : Int))) (go_keep) (fail)
            go_wp2_with fail
            go_roundw
            case rel => exact ⟨q + 1, yb, by omega, by go_num, rfl, g3, hid ⟨P3, own_stays HO8.out (below_drewN (Below.refl _ _) 1), HP3.out.2⟩, HC2, hid (below_drewN HB8.out 1)⟩
            case measure => simp [intOf]; omega
          · have HP3 : Hid (P2.length = P2.length ∧ T = P2 ++ inlD A Bl (S2.drop (q + 1)) yb) := hid ⟨rfl, by rw [HP2.out.2, if_neg hm0]; rfl⟩
            obtain ⟨u0, u1, u2, u3⟩ := HD.out w6 HB6.out
            go_wp2_with fail
            go_region_held3 (fun w' => w'.cell? ⟨bc, oc + q * 4, none⟩ = some (.int .i64 (xa : Int)) ∧ w'.cell? ⟨bc, oc + q * 4 + 1, none⟩ = some (.int .i64 (xn : Int)) ∧ w'.cell? ⟨bc, oc + q * 4 + 2, none⟩ = some (.int .i64 (xb : Int)) ∧ w'.cell? ⟨bc, oc + q * 4 + 3, none⟩ = some (.int .i64 (xm : Int))) (go_keep) (fail)
            go_wp2_with fail
            go_roundw
            case rel => exact ⟨q + 1, yb, by omega, by go_num, rfl, g3, hid ⟨P2, own_stays HO6.out (below_drewN (Below.refl _ _) 1), HP3.out.2⟩, HC2, hid (below_drewN HB6.out 1)⟩
            case measure => simp [intOf]; omega
        · have HP2 : Hid (P1.length + J3.size + 16 ≤ 140737488355328 ∧ T = P1 ++ ((if 0 < (xm : Int) then [123, 43] ++ J3.data.toList ++ [43, 125] else []) ++ inlD A Bl (S2.drop (q + 1)) yb)) := hid ⟨by have h1 := HP1.out.1; omega, by rw [HP1.out.2, if_neg hn0]; rfl⟩
          by_cases hm0 : (0 : Int) < (xm : Int)
          · obtain ⟨u0, u1, u2, u3⟩ := HD.out w4 HB4.out
            go_wp2_with fail
            go_region_held3 (fun w' => w'.cell? ⟨bc, oc + q * 4, none⟩ = some (.int .i64 (xa : Int)) ∧ w'.cell? ⟨bc, oc + q * 4 + 1, none⟩ = some (.int .i64 (xn : Int)) ∧ w'.cell? ⟨bc, oc + q * 4 + 2, none⟩ = some (.int .i64 (xb : Int)) ∧ w'.cell? ⟨bc, oc + q * 4 + 3, none⟩ = some (.int .i64 (xm : Int)))
              (first
                | go_keep
                | (go_split_ands
                   refine ⟨?_, ?_, ?_, ?_⟩ <;> exact (hbk.cell (lt_of_cell (by assumption))).trans (by assumption))
                | (go_split_ands
                   refine ⟨?_, ?_, ?_, ?_⟩ <;> (rw [hgrow.cell_far _ hlc hnc]; assumption)))
              (first
                | (go_at_call 46; refine (HJ3.out _ (below_drewN HB4.out 1)).mono ?_; rintro e w5 ⟨rfl, hbk⟩; have HBJ := hid ((below_drewN HB4.out 1).trans (hbk.mono HS4.out)); have HOJ := hid (own_stays (own_stays HO4.out (below_drewN (Below.refl _ _) 1)) hbk); have hlc : bc < w5.heap.size := Nat.lt_of_lt_of_le hbcG (Nat.le_trans HS4.out hbk.size); have hnc := own_not HOJ.out hbcG)
                | (refine step_append_str (by rfl) _ _ (by rfl) G i0 hi hz0 hz1 hz2 _ _ (by rfl) HOJ.out (ByteArray.mk #[123, 43] ++ J3 ++ ByteArray.mk #[43, 125]) (by rfl) (by have h1 := HP2.out.1; rw [add_sizeS, add_sizeS]; show P1.length + (2 + J3.size + 2) ≤ _; omega) (Nat.le_trans HS4.out hbk.size) ?_; intro v8 w8 hO9 hgrow; have HO8 := hid hO9; have HB8 := hid (HBJ.out.grown hgrow (Nat.le_trans HS4.out hbk.size) (own_ge HOJ.out)); clear hO9))
            clear hbk HBJ HOJ hlc hnc hgrow u0 u1 u2 u3
            obtain ⟨P3, hP3⟩ : ∃ P3, P3 = P1 ++ (ByteArray.mk #[123, 43] ++ J3 ++ ByteArray.mk #[43, 125]).data.toList := ⟨_, rfl⟩
            have HP3 : Hid (P3.length = P3.length ∧ T = P3 ++ inlD A Bl (S2.drop (q + 1)) yb) := hid ⟨rfl, by rw [hP3, HP2.out.2, if_pos hm0, add_dataS, add_dataS]; simp only [List.append_assoc]⟩
            rw [← hP3] at HO8
            clear hP3
            obtain ⟨u0, u1, u2, u3⟩ := HD.out w8 HB8.out
            go_wp2_with fail
            go_region_held3 (fun w' => w'.cell? ⟨bc, oc + q * 4, none⟩ = some (.int .i64 (xa : Int)) ∧ w'.cell? ⟨bc, oc + q * 4 + 1, none⟩ = some (.int .i64 (xn : Int)) ∧ w'.cell? ⟨bc, oc + q * 4 + 2, none⟩ = some (.int .i64 (xb : Int)) ∧ w'.cell? ⟨bc, oc + q * 4 + 3, none⟩ = some (.int .i64 (xm : Int))) (go_keep) (fail)
            go_wp2_with fail
            go_roundw
            case rel => exact ⟨q + 1, yb, by omega, by go_num, rfl, g3, hid ⟨P3, own_stays HO8.out (below_drewN (Below.refl _ _) 1), HP3.out.2⟩, HC2, hid (below_drewN HB8.out 1)⟩
            case measure => simp [intOf]; omega
          · have HP3 : Hid (P1.length = P1.length ∧ T = P1 ++ inlD A Bl (S2.drop (q + 1)) yb) := hid ⟨rfl, by rw [HP2.out.2, if_neg hm0]; rfl⟩
            obtain ⟨u0, u1, u2, u3⟩ := HD.out w4 HB4.out
            go_wp2_with fail
            go_region_held3 (fun w' => w'.cell? ⟨bc, oc + q * 4, none⟩ = some (.int .i64 (xa : Int)) ∧ w'.cell? ⟨bc, oc + q * 4 + 1, none⟩ = some (.int .i64 (xn : Int)) ∧ w'.cell? ⟨bc, oc + q * 4 + 2, none⟩ = some (.int .i64 (xb : Int)) ∧ w'.cell? ⟨bc, oc + q * 4 + 3, none⟩ = some (.int .i64 (xm : Int))) (go_keep) (fail)
            go_wp2_with fail
            go_roundw
            case rel => exact ⟨q + 1, yb, by omega, by go_num, rfl, g3, hid ⟨P1, own_stays HO4.out (below_drewN (Below.refl _ _) 1), HP3.out.2⟩, HC2, hid (below_drewN HB4.out 1)⟩
            case measure => simp [intOf]; omega
      · have eq : q = N := by omega
        have HE2 : Hid (P = T) := hid (by rw [hTq, List.drop_eq_nil_of_le (by have := HNN.out; omega)]; exact (List.append_nil _).symm)
        rw [HE2.out] at HOX
        have hcv := conv_ownS HOX.out
        clear hTq HC
        go_wp2_with fail
        go_ret2
        exact ⟨rfl, HWB.out _ HBX.out⟩
  · have HE : Hid (inlS s A Bl = ⟨#[]⟩) := hid (by unfold inlS; rw [if_neg h0])
    have en : nrmA s A.length Bl.length = [] := by unfold nrmA; rw [if_neg h0]
    rw [en] at HN
    rw [HE.out]
    obtain ⟨k, hk⟩ : ∃ k, k = Ed.validN s A.length Bl.length := ⟨_, rfl⟩
    have q0 : ((k : Int) == 0) = false := ine (m := 0) (by omega)
    have q1 : ((k : Int) != 0) = true := by rw [bne, q0]; rfl
    rw [← hk] at HN ⊢
    generalize A.length = n at HN ⊢
    generalize Bl.length = m at HN ⊢
    clear hs hwf hl ha hb hT h0 HE en hk
    go_enter Tryd.func20, Tryd.ntmps20
    go_wp2_with fail
    refine HN.out.mono ?_
    rintro e w1 ⟨v1, rfl, hO, hb1⟩
    have HB1 := hid hb1
    obtain ⟨a1, c1, e1⟩ := own_shape hO
    subst e1
    clear hO hb1
    go_wp2_with fail
    go_ret2
    exact ⟨rfl, HB1.out⟩
end Go.Proofs.YtgpgpopefmkpoaaDoor
