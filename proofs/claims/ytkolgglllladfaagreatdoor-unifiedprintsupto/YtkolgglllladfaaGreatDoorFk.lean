/-
  Unified diffs: the program's readRows (made by wip/genfk.py).
-/
import Derived.Test.YtkolgglllladfaaGreatDoorFj
namespace Go.Proofs.YtkolgglllladfaaGreatDoor
open Go.RowKit
open Hu (Rw Hk)

theorem own_keptR {w w' : World} {R B n s : Nat} {e : TypeId} {v : Value} {xs : List Value} (h : w.ownsRow B e s v n xs) (hk : KeptR R w w') (hR : R < B) : w'.ownsRow B e s v n xs := by
  refine ⟨h.1, ?_⟩
  rcases h.2 with h2 | ⟨g, cap, cur, hv, hg, hh, r⟩
  · exact .inl h2
  · exact .inr ⟨g, cap, cur, hv, hg, (hk.block g (lt_of_heap hh) (by omega)).trans hh, r⟩
theorem KeptR.grown {R : Nat} {w w1 w2 : World} {v : Value} (h : KeptR R w w1) (hg : w1.grownBy w2 v.ownBlock) (hv : ∀ k, v.ownBlock = some k → w.heap.size ≤ k) : KeptR R w w2 := by
  have hb : Below w.heap.size w1 w2 := (Below.refl _ _).grown hg h.size hv
  exact ⟨hb.os.trans h.os, hb.tape.trans h.tape, hb.output.trans h.output, Nat.le_trans h.size hb.size, fun g hg' hx => (hb.block g hg').trans (h.block g hg' hx)⟩
theorem rows_none {x : ByteArray} {n m c : Nat} (h : ¬ (n = 0 ∧ m = 0)) (hm : Un.mark (Un.nx x.data.toList) = none) : Un.rowsP (Un.lns x.data.toList) n m c = .bad c := by
  rw [Un.rowsP_step _ _ _ _ h, hm]
theorem rows_less {x : ByteArray} {n m c j : Nat} {k : Int} (h : ¬ (n = 0 ∧ m = 0)) (hm : Un.mark (Un.nx x.data.toList) = some (k, j)) (hl : Un.less k n m = none) : Un.rowsP (Un.lns x.data.toList) n m c = .bad c := by
  rw [Un.rowsP_step _ _ _ _ h, hm]
  simp only
  rw [hl]
theorem rows_some {x : ByteArray} {n m c j n' m' : Nat} {k : Int} (h : ¬ (n = 0 ∧ m = 0)) (hm : Un.mark (Un.nx x.data.toList) = some (k, j)) (hl : Un.less k n m = some (n', m')) :
    Un.rowsP (Un.lns x.data.toList) n m c = (Un.rowsP (Un.lns (rowX x).data.toList) n' m' (rowC x c)).cons (k, (rowV x j).data.toList) := by
  rw [Un.rowsP_step _ _ _ _ h, hm]
  simp only
  rw [hl]
  simp only
  unfold rowX rowC rowV
  by_cases hE : Un.isEnd (Un.nx (Un.adv x.data.toList)) = true
  · rw [if_pos hE, if_pos hE, if_pos hE, if_pos hE]; rfl
  · rw [if_neg hE, if_neg hE, if_neg hE, if_neg hE]; rfl
theorem nx_ne {x : ByteArray} {k : Int} {j : Nat} (hm : Un.mark (Un.nx x.data.toList) = some (k, j)) : x.data.toList ≠ [] := by
  intro e
  rw [e] at hm
  cases hm
theorem row_far {x : ByteArray} {c : Nat} (h : x.data.toList ≠ []) : c < rowC x c ∧ rowC x c + (rowX x).size ≤ c + x.size ∧ (rowX x).size ≤ x.size ∧ (rowX x).data.toList = Un.advN (rowC x c - c) x.data.toList := by
  have h1 := Un.adv_lt h
  rw [← advB_data, dsize, dsize] at h1
  unfold rowC rowX
  by_cases hE : Un.isEnd (Un.nx (Un.adv x.data.toList)) = true
  · rw [if_pos hE, if_pos hE]
    have h2 : Un.adv x.data.toList ≠ [] := by intro e; rw [e] at hE; cases hE
    have h3 := Un.adv_lt h2
    rw [← advB_data, ← advB_data, dsize, dsize] at h3
    refine ⟨by omega, by omega, by omega, ?_⟩
    rw [show c + 2 - c = 2 by omega]
    rfl
  · rw [if_neg hE, if_neg hE]
    refine ⟨by omega, by omega, by omega, ?_⟩
    rw [show c + 1 - c = 1 by omega]
    rfl
theorem toR_snoc (acc : List (Int × Un.Bs)) (k : Int) (t : ByteArray) : (acc ++ [(k, t.data.toList)]).map Un.toR = acc.map Un.toR ++ [⟨k, t⟩] := by
  rw [List.map_append]
  unfold Un.toR
  simp
theorem behind_bad {d : Un.Rd} {c : Nat} (acc : List (Int × Un.Bs)) (h : d = .bad c) : d.behind acc = .bad c := by rw [h]; rfl
/-- what readRows answers -/
def RowsAns (w w' : World) (R n m c c' : Nat) (x x' : ByteArray) (e : Ending) : Prop :=
  RdrAt w' R c' x' ∧ KeptR R w w' ∧ c ≤ c' ∧ c' + x'.size ≤ c + x.size ∧ x'.size ≤ x.size ∧ x'.data.toList = Un.advN (c' - c) x.data.toList ∧
    ((Un.rowsP (Un.lns x.data.toList) n m c = .bad c' ∧ ∃ a k q, e = .returned (.tuple #[.slice a k q, .bool false])) ∨
      ∃ rows, Un.rowsP (Un.lns x.data.toList) n m c = .ok rows (Un.lns x'.data.toList) c' ∧ ∃ v, e = .returned (.tuple #[v, .bool true]) ∧ OwnW w' w.heap.size v (rows.map Un.toR))
set_option maxHeartbeats 8000000 in
set_option maxRecDepth 100000 in
theorem readRows_any {w : World} {R c n m : Nat} {x : ByteArray} (h : RdrAt w R c x) (hs : x.size ≤ 4194304) (hc : c + x.size ≤ 5000000) (hn : n ≤ 2147483647) (hm : m ≤ 2147483647) :
    Calls Tryz.prog 61 #[.pointer (some ⟨R, 0, none⟩), .int .i64 n, .int .i64 m] w fun e w' => ∃ c' x', RowsAns w w' R n m c c' x x' e := by
  have HR0 := hid h
  have HRw := hid h.lt
  clear h
  go_enter Tryz.func61, Tryz.ntmps61
  go_wp2_with fail
  go_loopw [1, 2, 8] (fun nn mm vv wr => ∃ (n1 m1 c1 : Nat) (x1 : ByteArray) (acc : List (Int × Un.Bs)) (X : List Rw), nn = .int .i64 n1 ∧ mm = .int .i64 m1 ∧ n1 ≤ 2147483647 ∧ m1 ≤ 2147483647 ∧ Hid (X = acc.map Un.toR) ∧ Hid (OwnW wr w.heap.size vv X) ∧ Hid (RdrAt wr R c1 x1) ∧ Hid (KeptR R w wr) ∧ X.length ≤ c1 ∧ Hid (c ≤ c1) ∧ c1 + x1.size ≤ 5000000 ∧ Hid (c1 + x1.size ≤ c + x.size) ∧ x1.size ≤ 4194304 ∧ Hid (x1.size ≤ x.size) ∧ Hid (x1.data.toList = Un.advN (c1 - c) x.data.toList) ∧ Hid ((Un.rowsP (Un.lns x1.data.toList) n1 m1 c1).behind acc = Un.rowsP (Un.lns x.data.toList) n m c)) (fun nn mm _ _ => (intOf nn).toNat + (intOf mm).toNat)
  case atStart => exact ⟨n, m, c, x, [], [], rfl, rfl, hn, hm, hid rfl, hid (World.ownsRow_nil _ _ _ _), HR0, hid (KeptR.refl _ _), Nat.zero_le _, hid (Nat.le_refl _), hc, hid (Nat.le_refl _), hs, hid (Nat.le_refl _), hid (by rw [Nat.sub_self]; rfl), hid (by cases Un.rowsP (Un.lns x.data.toList) n m c <;> rfl)⟩
  case round =>
    obtain ⟨n1, m1, c1, x1, acc, X, rfl, rfl, hn1, hm1, HX, HW, HR, HK, hXl, Hcc, hc1, Hcx, hx1, Hxx, HA, HI⟩ := hrel
    obtain ⟨av, cv, rfl⟩ := own_shape HW.out
    have HSZ := hid HK.out.size
    have HN := hid (next_any HR.out hx1)
    by_cases h0 : n1 = 0 ∧ m1 = 0
    · obtain ⟨rfl, rfl⟩ := h0
      have HS := hid (Un.rowsP_stop x1.data.toList c1)
      have HH := hid (fun w1 => Tryz.strings_HasPrefix (nxB x1) ⟨#[92]⟩ w1)
      have hpe : Lib.hasPrefix (nxB x1).data.toList (ByteArray.mk #[92]).data.toList = Un.isEnd (Un.nx x1.data.toList) := isEnd_pre _
      rw [hpe] at HH
      clear hpe
      generalize Un.isEnd (Un.nx x1.data.toList) = E at HH HS
      go_wp2_with fail
      refine HN.out.mono ?_
      rintro e w1 ⟨rfl, rfl⟩
      go_wp2_with fail
      refine (HH.out _).mono ?_
      rintro e w2 ⟨rfl, rfl⟩
      cases E with
      | true =>
        go_wp2_with fail
        go_ret2
        exact ⟨c1, x1, HR.out, HK.out, Hcc.out, Hcx.out, Hxx.out, HA.out, .inl ⟨by rw [← HI.out, HS.out]; rfl, _, _, _, rfl⟩⟩
      | false =>
        go_wp2_with fail
        go_ret2
        exact ⟨c1, x1, HR.out, HK.out, Hcc.out, Hcx.out, Hxx.out, HA.out, .inr ⟨acc, by rw [← HI.out, HS.out]; simp [Un.Rd.behind], _, rfl, by rw [← HX.out]; exact HW.out⟩⟩
    · have H0 := hid h0
      have HM := hid (readMark_any (nxB x1))
      rw [nxB_data] at HM
      have hcond : 0 < n1 ∨ 0 < m1 := by omega
      cases hmk : Un.mark (Un.nx x1.data.toList) with
      | none =>
        have HB : Hid (Un.rowsP (Un.lns x.data.toList) n m c = .bad c1) := hid (by rw [← HI.out, rows_none h0 hmk]; rfl)
        obtain ⟨e1, e2⟩ := mark_none hmk
        rw [e1, e2] at HM
        generalize mkJ (Un.nx x1.data.toList) = J at HM
        have i1 : IntKind.i64.wrap ((n1 : Int) - 1) = (n1 : Int) - 1 := wrapOk (by omega) (by omega)
        have i2 : IntKind.i64.wrap ((m1 : Int) - 1) = (m1 : Int) - 1 := wrapOk (by omega) (by omega)
        clear h0 hmk e1 e2 H0
        rcases Nat.eq_zero_or_pos n1 with q1 | q1
        · have j1 : ¬ ((0 : Int) < (n1 : Int)) := by omega
          have j2 : (0 : Int) < (m1 : Int) := by omega
          go_wp2_with fail
          refine HN.out.mono ?_
          rintro e w1 ⟨rfl, rfl⟩
          go_wp2_with fail
          refine (HM.out _).mono ?_
          rintro e w2 ⟨rfl, rfl⟩
          go_wp2_with fail
          go_ret2
          exact ⟨c1, x1, HR.out, HK.out, Hcc.out, Hcx.out, Hxx.out, HA.out, .inl ⟨HB.out, _, _, _, rfl⟩⟩
        · have j1 : (0 : Int) < (n1 : Int) := by omega
          go_wp2_with fail
          refine HN.out.mono ?_
          rintro e w1 ⟨rfl, rfl⟩
          go_wp2_with fail
          refine (HM.out _).mono ?_
          rintro e w2 ⟨rfl, rfl⟩
          go_wp2_with fail
          go_ret2
          exact ⟨c1, x1, HR.out, HK.out, Hcc.out, Hcx.out, Hxx.out, HA.out, .inl ⟨HB.out, _, _, _, rfl⟩⟩
      | some kj =>
        obtain ⟨k, j⟩ := kj
        obtain ⟨e1, e2, e3, hk3, hjl⟩ := mark_some hmk
        rw [e1, e2, e3] at HM
        rw [← nxB_data, dsize] at hjl
        have hne := nx_ne hmk
        cases hls : Un.less k n1 m1 with
        | none =>
          have HB : Hid (Un.rowsP (Un.lns x.data.toList) n m c = .bad c1) := hid (by rw [← HI.out, rows_less h0 hmk hls]; rfl)
          have i1 : IntKind.i64.wrap ((n1 : Int) - 1) = (n1 : Int) - 1 := wrapOk (by omega) (by omega)
          have i2 : IntKind.i64.wrap ((m1 : Int) - 1) = (m1 : Int) - 1 := wrapOk (by omega) (by omega)
          unfold Un.less at hls
          clear h0 hmk e1 e2 e3 H0 hjl hne
          rcases hk3 with rfl | rfl | rfl
          · simp only [if_true] at hls
            have hb : (n1 = 0 ∧ 0 < m1) ∨ (0 < n1 ∧ m1 = 0) := by
              split at hls
              · cases hls
              · omega
            clear hls
            rcases hb with ⟨q1, q2⟩ | ⟨q1, q2⟩
            · have j1 : ¬ ((0 : Int) < (n1 : Int)) := by omega
              have j3 : (n1 : Int) - 1 < 0 := by omega
              have j2 : (0 : Int) < (m1 : Int) := by omega
              have j4 : ¬ ((m1 : Int) - 1 < 0) := by omega
              go_wp2_with fail
              refine HN.out.mono ?_
              rintro e w1 ⟨rfl, rfl⟩
              go_wp2_with fail
              refine (HM.out _).mono ?_
              rintro e w2 ⟨rfl, rfl⟩
              go_wp2_with fail
              go_ret2
              exact ⟨c1, x1, HR.out, HK.out, Hcc.out, Hcx.out, Hxx.out, HA.out, .inl ⟨HB.out, _, _, _, rfl⟩⟩
            · have j1 : (0 : Int) < (n1 : Int) := by omega
              have j3 : ¬ ((n1 : Int) - 1 < 0) := by omega
              have j2 : ¬ ((0 : Int) < (m1 : Int)) := by omega
              have j4 : (m1 : Int) - 1 < 0 := by omega
              go_wp2_with fail
              refine HN.out.mono ?_
              rintro e w1 ⟨rfl, rfl⟩
              go_wp2_with fail
              refine (HM.out _).mono ?_
              rintro e w2 ⟨rfl, rfl⟩
              go_wp2_with fail
              go_ret2
              exact ⟨c1, x1, HR.out, HK.out, Hcc.out, Hcx.out, Hxx.out, HA.out, .inl ⟨HB.out, _, _, _, rfl⟩⟩
          · rw [if_neg (by decide), if_pos rfl] at hls
            have hb : n1 = 0 ∧ 0 < m1 := by
              split at hls
              · cases hls
              · omega
            clear hls
            obtain ⟨q1, q2⟩ := hb
            have j5 : ¬ ((m1 : Int) < 0) := by omega
            have j1 : ¬ ((0 : Int) < (n1 : Int)) := by omega
            have j3 : (n1 : Int) - 1 < 0 := by omega
            have j2 : (0 : Int) < (m1 : Int) := by omega
            have j4 : ¬ ((m1 : Int) - 1 < 0) := by omega
            go_wp2_with fail
            refine HN.out.mono ?_
            rintro e w1 ⟨rfl, rfl⟩
            go_wp2_with fail
            refine (HM.out _).mono ?_
            rintro e w2 ⟨rfl, rfl⟩
            go_wp2_with fail
            go_ret2
            exact ⟨c1, x1, HR.out, HK.out, Hcc.out, Hcx.out, Hxx.out, HA.out, .inl ⟨HB.out, _, _, _, rfl⟩⟩
          · rw [if_neg (by decide), if_neg (by decide)] at hls
            have hb : 0 < n1 ∧ m1 = 0 := by
              split at hls
              · cases hls
              · omega
            clear hls
            obtain ⟨q1, q2⟩ := hb
            have j5 : ¬ ((n1 : Int) < 0) := by omega
            have j1 : (0 : Int) < (n1 : Int) := by omega
            have j3 : ¬ ((n1 : Int) - 1 < 0) := by omega
            have j2 : ¬ ((0 : Int) < (m1 : Int)) := by omega
            have j4 : (m1 : Int) - 1 < 0 := by omega
            go_wp2_with fail
            refine HN.out.mono ?_
            rintro e w1 ⟨rfl, rfl⟩
            go_wp2_with fail
            refine (HM.out _).mono ?_
            rintro e w2 ⟨rfl, rfl⟩
            go_wp2_with fail
            go_ret2
            exact ⟨c1, x1, HR.out, HK.out, Hcc.out, Hcx.out, Hxx.out, HA.out, .inl ⟨HB.out, _, _, _, rfl⟩⟩
        | some nm =>
          obtain ⟨n2, m2⟩ := nm
          have HB := hid (HI.out.symm.trans (by rw [rows_some h0 hmk hls, Un.behind_cons]))
          obtain ⟨f1, f2, f3, f4⟩ := row_far (c := c1) hne
          have HROW := hid (row_any HR.out hx1 (by omega) hjl)
          have HX2 : Hid (X ++ [⟨k, rowV x1 j⟩] = (acc ++ [(k, (rowV x1 j).data.toList)]).map Un.toR) := hid (by rw [toR_snoc, HX.out])
          have HA2 : Hid ((rowX x1).data.toList = Un.advN (rowC x1 c1 - c) x.data.toList) := hid (by
            rw [f4, HA.out, ← Un.advN_add]
            congr 1
            have := Hcc.out
            omega)
          have HC2 : Hid (c ≤ rowC x1 c1 ∧ rowC x1 c1 + (rowX x1).size ≤ c + x.size ∧ (rowX x1).size ≤ x.size) := hid ⟨by have := Hcc.out; omega, by have := Hcx.out; omega, by have := Hxx.out; omega⟩
          have g1 : X.length + 1 ≤ rowC x1 c1 := by omega
          have g2 : rowC x1 c1 + (rowX x1).size ≤ 5000000 := by omega
          have g3 : (rowX x1).size ≤ 4194304 := by omega
          unfold Un.less at hls
          generalize rowV x1 j = V at HB HROW HX2
          generalize rowX x1 = x2 at HB HROW HA2 HC2 g1 g2 g3 f2 f3 f4
          generalize rowC x1 c1 = c2 at HB HROW HA2 HC2 g1 g2 f1 f2 f4
          have hXl2 : X.length < 5864062014800 := by omega
          clear h0 hmk e1 e2 e3 H0 hjl hne f1 f2 f3 f4 HI HX HA Hcc Hcx Hxx
          rcases hk3 with rfl | rfl | rfl
          · simp only [if_true] at hls
            split at hls
            · rename_i q
              obtain ⟨q1, q2⟩ := q
              simp only [Option.some.injEq, Prod.mk.injEq] at hls
              obtain ⟨rfl, rfl⟩ := hls
              have i1 : IntKind.i64.wrap ((n1 : Int) - 1) = (n1 : Int) - 1 := wrapOk (by omega) (by omega)
              have j1 : (0 : Int) < (n1 : Int) := by omega
              have j3 : ¬ ((n1 : Int) - 1 < 0) := by omega
              have i2 : IntKind.i64.wrap ((m1 : Int) - 1) = (m1 : Int) - 1 := wrapOk (by omega) (by omega)
              have j2 : (0 : Int) < (m1 : Int) := by omega
              have j4 : ¬ ((m1 : Int) - 1 < 0) := by omega
              have HBN := hid (fun w5 : World => (Below.refl w5.heap.size w5).alloc (Nat.le_refl _) (.cells #[.int .i64 1, .string V] 57))
              go_wp2_with fail
              refine HN.out.mono ?_
              rintro e w1 ⟨rfl, rfl⟩
              go_wp2_with fail
              refine (HM.out _).mono ?_
              rintro e w2 ⟨rfl, rfl⟩
              go_wp2_with fail
              refine HROW.out.mono ?_
              rintro e w3 ⟨rfl, hr3, hk3⟩
              have HR3 := hid hr3
              have HK3 := hid (HK.out.trans hk3)
              have HW3 := hid (own_keptR HW.out hk3 HRw.out)
              clear hr3 hk3
              have HW4 := hid (own_stays HW3.out (HBN.out w3))
              have HR4 := hid (HR3.out.below (HBN.out w3))
              have HK4 := hid (HK3.out.trans (KeptR.of (HBN.out w3)))
              have HZ4 := hid HK4.out.size
              go_wp2_with (at_builtin; refine wpList_append_row rfl _ _ rfl w.heap.size _ X rfl HW4.out w3.heap.size 1 V rfl (heap_alloc_new w3 _) hXl2 HZ4.out ?_; intro v5 w5 hO5 hg5 hl5 hb5; have HO5 := hid hO5; have HR5 : Hid (RdrAt w5 R c2 x2) := hid ((hg5.block R (HR4.out.lt) (fun e => by have := own_ge HW4.out R e.symm; have := HRw.out; omega)).trans HR4.out); have HK5 := hid (KeptR.grown HK4.out hg5 (own_ge HW4.out)); clear hO5 hg5 hl5 hb5)
              go_roundw
              case rel => exact ⟨n1 - 1, m1 - 1, c2, x2, _, _, by go_num, by go_num, by omega, by omega, HX2, HO5, HR5, HK5, by rw [List.length_append]; exact g1, hid HC2.out.1, g2, hid HC2.out.2.1, g3, hid HC2.out.2.2, HA2, hid HB.out.symm⟩
              case measure => simp [intOf]; omega
            · cases hls
          · rw [if_neg (by decide), if_pos rfl] at hls
            split at hls
            · rename_i q1
              simp only [Option.some.injEq, Prod.mk.injEq] at hls
              obtain ⟨rfl, rfl⟩ := hls
              have i1 : IntKind.i64.wrap ((n1 : Int) - 1) = (n1 : Int) - 1 := wrapOk (by omega) (by omega)
              have j1 : (0 : Int) < (n1 : Int) := by omega
              have j3 : ¬ ((n1 : Int) - 1 < 0) := by omega
              have j4 : ¬ ((m1 : Int) < 0) := by omega
              have HBN := hid (fun w5 : World => (Below.refl w5.heap.size w5).alloc (Nat.le_refl _) (.cells #[.int .i64 2, .string V] 57))
              go_wp2_with fail
              refine HN.out.mono ?_
              rintro e w1 ⟨rfl, rfl⟩
              go_wp2_with fail
              refine (HM.out _).mono ?_
              rintro e w2 ⟨rfl, rfl⟩
              go_wp2_with fail
              refine HROW.out.mono ?_
              rintro e w3 ⟨rfl, hr3, hk3⟩
              have HR3 := hid hr3
              have HK3 := hid (HK.out.trans hk3)
              have HW3 := hid (own_keptR HW.out hk3 HRw.out)
              clear hr3 hk3
              have HW4 := hid (own_stays HW3.out (HBN.out w3))
              have HR4 := hid (HR3.out.below (HBN.out w3))
              have HK4 := hid (HK3.out.trans (KeptR.of (HBN.out w3)))
              have HZ4 := hid HK4.out.size
              go_wp2_with (at_builtin; refine wpList_append_row rfl _ _ rfl w.heap.size _ X rfl HW4.out w3.heap.size 2 V rfl (heap_alloc_new w3 _) hXl2 HZ4.out ?_; intro v5 w5 hO5 hg5 hl5 hb5; have HO5 := hid hO5; have HR5 : Hid (RdrAt w5 R c2 x2) := hid ((hg5.block R (HR4.out.lt) (fun e => by have := own_ge HW4.out R e.symm; have := HRw.out; omega)).trans HR4.out); have HK5 := hid (KeptR.grown HK4.out hg5 (own_ge HW4.out)); clear hO5 hg5 hl5 hb5)
              go_roundw
              case rel => exact ⟨n1 - 1, m1, c2, x2, _, _, by go_num, by go_num, by omega, by omega, HX2, HO5, HR5, HK5, by rw [List.length_append]; exact g1, hid HC2.out.1, g2, hid HC2.out.2.1, g3, hid HC2.out.2.2, HA2, hid HB.out.symm⟩
              case measure => simp [intOf]; omega
            · cases hls
          · rw [if_neg (by decide), if_neg (by decide)] at hls
            split at hls
            · rename_i q2
              simp only [Option.some.injEq, Prod.mk.injEq] at hls
              obtain ⟨rfl, rfl⟩ := hls
              rcases Nat.eq_zero_or_pos n1 with q1 | q1
              · have j1 : ¬ ((0 : Int) < (n1 : Int)) := by omega
                have j3 : ¬ ((n1 : Int) < 0) := by omega
                have i2 : IntKind.i64.wrap ((m1 : Int) - 1) = (m1 : Int) - 1 := wrapOk (by omega) (by omega)
                have j2 : (0 : Int) < (m1 : Int) := by omega
                have j4 : ¬ ((m1 : Int) - 1 < 0) := by omega
                have HBN := hid (fun w5 : World => (Below.refl w5.heap.size w5).alloc (Nat.le_refl _) (.cells #[.int .i64 3, .string V] 57))
                go_wp2_with fail
                refine HN.out.mono ?_
                rintro e w1 ⟨rfl, rfl⟩
                go_wp2_with fail
                refine (HM.out _).mono ?_
                rintro e w2 ⟨rfl, rfl⟩
                go_wp2_with fail
                refine HROW.out.mono ?_
                rintro e w3 ⟨rfl, hr3, hk3⟩
                have HR3 := hid hr3
                have HK3 := hid (HK.out.trans hk3)
                have HW3 := hid (own_keptR HW.out hk3 HRw.out)
                clear hr3 hk3
                have HW4 := hid (own_stays HW3.out (HBN.out w3))
                have HR4 := hid (HR3.out.below (HBN.out w3))
                have HK4 := hid (HK3.out.trans (KeptR.of (HBN.out w3)))
                have HZ4 := hid HK4.out.size
                go_wp2_with (at_builtin; refine wpList_append_row rfl _ _ rfl w.heap.size _ X rfl HW4.out w3.heap.size 3 V rfl (heap_alloc_new w3 _) hXl2 HZ4.out ?_; intro v5 w5 hO5 hg5 hl5 hb5; have HO5 := hid hO5; have HR5 : Hid (RdrAt w5 R c2 x2) := hid ((hg5.block R (HR4.out.lt) (fun e => by have := own_ge HW4.out R e.symm; have := HRw.out; omega)).trans HR4.out); have HK5 := hid (KeptR.grown HK4.out hg5 (own_ge HW4.out)); clear hO5 hg5 hl5 hb5)
                go_roundw
                case rel => exact ⟨n1, m1 - 1, c2, x2, _, _, by go_num, by go_num, by omega, by omega, HX2, HO5, HR5, HK5, by rw [List.length_append]; exact g1, hid HC2.out.1, g2, hid HC2.out.2.1, g3, hid HC2.out.2.2, HA2, hid HB.out.symm⟩
                case measure => simp [intOf]; omega
              · have j1 : (0 : Int) < (n1 : Int) := by omega
                have j3 : ¬ ((n1 : Int) < 0) := by omega
                have i2 : IntKind.i64.wrap ((m1 : Int) - 1) = (m1 : Int) - 1 := wrapOk (by omega) (by omega)
                have j2 : (0 : Int) < (m1 : Int) := by omega
                have j4 : ¬ ((m1 : Int) - 1 < 0) := by omega
                have HBN := hid (fun w5 : World => (Below.refl w5.heap.size w5).alloc (Nat.le_refl _) (.cells #[.int .i64 3, .string V] 57))
                go_wp2_with fail
                refine HN.out.mono ?_
                rintro e w1 ⟨rfl, rfl⟩
                go_wp2_with fail
                refine (HM.out _).mono ?_
                rintro e w2 ⟨rfl, rfl⟩
                go_wp2_with fail
                refine HROW.out.mono ?_
                rintro e w3 ⟨rfl, hr3, hk3⟩
                have HR3 := hid hr3
                have HK3 := hid (HK.out.trans hk3)
                have HW3 := hid (own_keptR HW.out hk3 HRw.out)
                clear hr3 hk3
                have HW4 := hid (own_stays HW3.out (HBN.out w3))
                have HR4 := hid (HR3.out.below (HBN.out w3))
                have HK4 := hid (HK3.out.trans (KeptR.of (HBN.out w3)))
                have HZ4 := hid HK4.out.size
                go_wp2_with (at_builtin; refine wpList_append_row rfl _ _ rfl w.heap.size _ X rfl HW4.out w3.heap.size 3 V rfl (heap_alloc_new w3 _) hXl2 HZ4.out ?_; intro v5 w5 hO5 hg5 hl5 hb5; have HO5 := hid hO5; have HR5 : Hid (RdrAt w5 R c2 x2) := hid ((hg5.block R (HR4.out.lt) (fun e => by have := own_ge HW4.out R e.symm; have := HRw.out; omega)).trans HR4.out); have HK5 := hid (KeptR.grown HK4.out hg5 (own_ge HW4.out)); clear hO5 hg5 hl5 hb5)
                go_roundw
                case rel => exact ⟨n1, m1 - 1, c2, x2, _, _, by go_num, by go_num, by omega, by omega, HX2, HO5, HR5, HK5, by rw [List.length_append]; exact g1, hid HC2.out.1, g2, hid HC2.out.2.1, g3, hid HC2.out.2.2, HA2, hid HB.out.symm⟩
                case measure => simp [intOf]; omega
            · cases hls
end Go.Proofs.YtkolgglllladfaaGreatDoor
