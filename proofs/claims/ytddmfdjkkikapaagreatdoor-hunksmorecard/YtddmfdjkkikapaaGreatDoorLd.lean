/-
  The walk of Script, where the hunks are in order and the changes fit.
-/
import Derived.Test.YtddmfdjkkikapaaGreatDoorGrLb
import Derived.Test.YtddmfdjkkikapaaGreatDoorJ7
import Derived.Test.YtddmfdjkkikapaaGreatDoorGrD5
namespace Go.Proofs.YtddmfdjkkikapaaGreatDoor
open Go.RowKit
open Hu (Rw Hk)
open Ed (Ch)

set_option maxHeartbeats 400000 in
set_option maxRecDepth 100000 in
theorem errIs_nil (w : World) : Calls Tryz.prog 40 #[.nilIface, .iface 63 (.int .i64 1)] w fun e w' => e = .returned (.bool false) ∧ Below w.heap.size w w' := by
  go_enter Tryz.func40, Tryz.ntmps40
  have hrun : (binOp .eql 28 .nilIface (.iface 63 (.int .i64 1))).run Tryz.prog w = .ok (.bool false) w := by kernel_rfl
  go_wp2_with fail
  go_ret
  exact ⟨rfl, Below.refl _ _⟩
theorem ScI.far {h : Hk} {vr : Value} {p q : Int} {C0 : List Ch} {Bc ab hb db cb E : Nat} {d : List (Nat × Nat)} {X : Nat → Prop} {w w2 : World} (hI : ScI h vr p q C0 Bc ab hb db cb d X w) (h1 : ab < E) (h2 : hb < E) (h3 : db < E) (h4 : cb < E) (hf : Far E X w w2) : ScI h vr p q C0 Bc ab hb db cb d X w2 := by
  obtain ⟨i1, i2, i3, vc, i4, i5, i6⟩ := hI
  exact ⟨(hf.block ab (lt_of_heap i1) (.inl h1)).trans i1, (hf.block hb (lt_of_heap i2) (.inl h2)).trans i2, (hf.block db (lt_of_heap i3) (.inl h3)).trans i3, vc, (hf.block cb (lt_of_heap i4) (.inl h4)).trans i4, own_far i5 (fun g hg => hf.block g (own_lt i5 g hg) (.inr ((i6 g).2 (.inr (.inr (.inr hg)))))), i6⟩
/-- the function that Script hands to eachRun -/
theorem scr_takes {w6 : World} {h : Hk} {vr : Value} {p q : Int} {C0 : List Ch} {Bc ab hb db cb B : Nat} (hr : RdW w6 vr h.rows) (hu : Under B vr) (hl : h.rows.length < 5864062014800) (hk : Kd h.rows) (hp0 : 0 ≤ p) (hp1 : p ≤ 4294967296) (hq0 : 0 ≤ q) (hq1 : q ≤ 4294967296)
    (hB : B ≤ ab ∧ B ≤ db ∧ B ≤ cb ∧ B ≤ Bc) (hBc : Bc ≤ w6.heap.size) (hC : C0.length + (Hu.runsR h.rows 0 0).length ≤ 4300000000) (h1 : ab < w6.heap.size) (h2 : hb < w6.heap.size) (h3 : db < w6.heap.size) (h4 : cb < w6.heap.size) :
    Takes 38 #[.pointer (some ⟨ab, 0, none⟩), .pointer (some ⟨hb, 0, none⟩), .pointer (some ⟨db, 0, none⟩), .pointer (some ⟨cb, 0, none⟩)] B w6.heap.size w6 (Hu.runsR h.rows 0 0) (ScI h vr p q C0 Bc ab hb db cb) where
  ent := fun _ _ => by kernel_rfl
  far := fun d X w1 w2 hI hf => hI.far h1 h2 h3 h4 hf
  ge := fun d X w1 hI g hg => by
    obtain ⟨_, _, _, vc, _, i5, i6⟩ := hI
    rcases (i6 g).1 hg with rfl | rfl | rfl | hg
    · exact hB.1
    · exact hB.2.1
    · exact hB.2.2.1
    · exact Nat.le_trans hB.2.2.2 (own_ge i5 g hg)
  step := fun d X r w1 hI hb hrest => by
    obtain ⟨rest, hrs⟩ := hrest
    obtain ⟨f, t⟩ := r
    have hin := Hu.runs_in hrs
    have hlen := congrArg List.length hrs
    rw [List.length_append, List.length_cons] at hlen
    exact scriptF_any hI (hr.keep hu hb) hu hl hk hp0 hp1 hq0 hq1 hB (Nat.le_trans hBc hb.size) hin (by omega)
theorem scr_len {l : List Hk} {k : Nat} {x : Hk} (h : l[k]? = some x) : (Hu.scr (l.take k)).length + (Hu.runsR x.rows 0 0).length ≤ (Hu.scr l).length := by
  have e : l = l.take k ++ (x :: l.drop (k + 1)) := by
    obtain ⟨h1, h2⟩ := List.getElem?_eq_some_iff.1 h
    rw [← h2, ← List.drop_eq_getElem_cons h1, List.take_append_drop]
  have e2 : Hu.scr l = Hu.scr (l.take k) ++ (Hu.scrH x ++ Hu.scr (l.drop (k + 1))) := by
    conv => lhs; rw [e]
    unfold Hu.scr
    rw [List.flatMap_append, List.flatMap_cons]
  have e3 : (Hu.scrH x).length = (Hu.runsR x.rows 0 0).length := by unfold Hu.scrH; rw [List.length_map]
  rw [e2, List.length_append, List.length_append]
  omega
theorem takeH {l : List Hk} {k : Nat} {x : Hk} (h : l[k]? = some x) : Hu.scr (l.take (k + 1)) = Hu.scr (l.take k) ++ Hu.scrH x := by
  rw [List.take_add_one, h]
  unfold Hu.scr
  rw [List.flatMap_append]
  simp
set_option maxHeartbeats 1000000 in
set_option maxRecDepth 100000 in
theorem script_ok {w : World} {v : Value} {l : List Hk} {n m : Int} (hv : RdH w v l) (hl : l.length < 1954687338260) (hz : ∀ h ∈ l, SzH h) (ho : Hu.orderN l = 0) (hs : (Hu.scr l).length ≤ 4300000000) (hN : Ed.validN (Hu.scr l) n m = 0) :
    Calls Tryz.prog 13 #[v, .int .i64 n, .int .i64 m] w fun e w' => ∃ v', e = .returned (.tuple #[v', .nilIface]) ∧ OwnC w' w.heap.size v' (Ed.normal (Hu.scr l) n m) ∧ Below w.heap.size w w' := by
  have HOR := hid (fun w1 (hb : Below w.heap.size w w1) => order_any (hv.below hb) hl hz)
  rw [ho, errV_zero] at HOR
  have hall : ∀ h ∈ l, Hu.vld h = true := by
    unfold Hu.orderN at ho
    split at ho
    · next h => exact List.all_eq_true.1 h
    · cases ho
  obtain ⟨av, cv, rfl⟩ := hv.shape
  have HV := hid hv
  have HZ := hid hz
  have HALL := hid hall
  have HS := hid hs
  obtain ⟨N, hn⟩ : ∃ N, N = l.length := ⟨_, rfl⟩
  have HL := hid hn
  rw [← hn] at HV hl HOR ⊢
  clear hv hz hall hn ho hs
  have hkc := heap_alloc_new w (.cells #[.slice none 0 0] 22)
  have hbc := (Below.refl w.heap.size w).alloc (Nat.le_refl _) (.cells #[.slice none 0 0] 22)
  go_enter Tryz.func13, Tryz.ntmps13
  go_wp2_with fail
  refine (HOR.out _ (Below.refl _ _)).mono ?_
  rintro e w1 ⟨rfl, hb1⟩
  have HB1 := hid hb1
  clear hb1 HOR hkc hbc
  have hkc := heap_alloc_new w1 (.cells #[.slice none 0 0] 22)
  have hbc := (Below.refl w1.heap.size w1).alloc (Nat.le_refl _) (.cells #[.slice none 0 0] 22)
  have hsc : (w1.alloc (.cells #[.slice none 0 0] 22)).heap.size = w1.heap.size + 1 := by simp
  go_wp2_with fail
  obtain ⟨cb, hcb⟩ : ∃ cb, cb = w1.heap.size := ⟨_, rfl⟩
  rw [← hcb] at hkc hsc ⊢
  have HCB := hid hcb
  generalize w1.alloc (.cells #[.slice none 0 0] 22) = w2 at hkc hbc hsc ⊢
  have HB2 := hid (HB1.out.trans (hbc.mono HB1.out.size))
  have HKC := hid hkc
  have HSC := hid hsc
  have HCW : Hid (w.heap.size ≤ cb) := hid (by rw [hcb]; exact HB1.out.size)
  clear hkc hbc hsc hcb HB1
  go_loopw [23] (fun ii wr => ∃ (k : Nat) (vc : Value), k ≤ N ∧ ii = .int .i64 k ∧ Hid (wr.heap[cb]? = some (.cells #[vc] 22) ∧ OwnC wr w2.heap.size vc (Hu.scr (l.take k))) ∧ Hid (Below w.heap.size w wr) ∧ Hid (w2.heap.size ≤ wr.heap.size)) (fun ii _ => N - (intOf ii).toNat)
  case atStart => exact ⟨0, _, Nat.zero_le _, rfl, hid ⟨HKC.out, World.ownsRow_nil _ _ _ _⟩, HB2, hid (Nat.le_refl _)⟩
  case round =>
    obtain ⟨k, vc, hk, rfl, HC, HB, HS2⟩ := hrel
    by_cases hlt : k < N
    · obtain ⟨x, hx⟩ : ∃ x, l[k]? = some x := ⟨_, List.getElem?_eq_getElem (by have := HL.out; omega)⟩
      obtain ⟨b1, o1, u, e1, hb1, d0, d1, d2, d3, d4, d5, hu⟩ := rdH_at HV.out hx
      replace d0 := (HB.out.cell (p := ⟨b1, _, none⟩) hb1).trans d0
      replace d1 := (HB.out.cell (p := ⟨b1, _, none⟩) hb1).trans d1
      replace d2 := (HB.out.cell (p := ⟨b1, _, none⟩) hb1).trans d2
      replace d3 := (HB.out.cell (p := ⟨b1, _, none⟩) hb1).trans d3
      replace d4 := (HB.out.cell (p := ⟨b1, _, none⟩) hb1).trans d4
      replace d5 := (HB.out.cell (p := ⟨b1, _, none⟩) hb1).trans d5
      subst e1
      have hmem := List.mem_of_getElem? hx
      have hvx := HALL.out x hmem
      have HPB := hid (fun w3 => begin_any (v := u) w3 (vld_pl hvx))
      have HSX := hid (HZ.out x hmem)
      have HVP := hid (Hu.vld_parts hvx)
      have HTK := hid (takeH hx)
      have HSL := hid (Nat.le_trans (scr_len hx) HS.out)
      obtain ⟨xa, xn, xb, xm, xh, xr⟩ := x
      dsimp only at d0 d1 d2 d3 d4 d5 hu HPB HVP
      obtain ⟨ua, uc, rfl⟩ := hu.shape
      unfold HkV SpV at HPB
      dsimp only at HPB
      have i1 : (0 : Int) ≤ (k : Int) := by omega
      have i2 : (k : Int) < (N : Int) := by omega
      have HUN := hid hu.under
      have HRU := hid (hu.below HB.out)
      clear hx hb1 hmem hvx hu
      have hbn := (Below.refl wr.heap.size wr).alloc (Nat.le_refl _) (.cells #[.int .i64 xa, .int .i64 xn, .int .i64 xb, .int .i64 xm, .string xh, .slice ua xr.length uc] 37)
      have hkn := heap_alloc_new wr (.cells #[.int .i64 xa, .int .i64 xn, .int .i64 xb, .int .i64 xm, .string xh, .slice ua xr.length uc] 37)
      go_wp2_with fail
      obtain ⟨hb, hhb⟩ : ∃ hb, hb = wr.heap.size := ⟨_, rfl⟩
      rw [← hhb] at hkn ⊢
      generalize wr.alloc (.cells #[.int .i64 xa, .int .i64 xn, .int .i64 xb, .int .i64 xm, .string xh, .slice ua xr.length uc] 37) = w4 at hbn hkn ⊢
      refine (HPB.out w4).mono ?_
      rintro e w5 ⟨rfl, hb5⟩
      have HH5 := hid ((hb5.block hb (lt_of_heap hkn)).trans hkn)
      have HB5 := hid (hbn.trans (hb5.mono hbn.size))
      have HHB := hid hhb
      clear hbn hkn hb5 hhb HPB d0 d1 d2 d3 d4 d5
      generalize hP : Hu.plc xa xn = P at HVP
      generalize hQ : Hu.plc xb xm = Q at HVP
      obtain ⟨t1, t2, t3, t4⟩ := two' w5 (.cells #[.int .i64 P, .int .i64 Q] 78) (.cells #[.int .i64 0] 3)
      have H6 := hid (And.intro ((t1.block hb (lt_of_heap HH5.out)).trans HH5.out) (And.intro t2 (And.intro t3 (And.intro t4 t1))))
      have b5 : ((w5.alloc (.cells #[.int .i64 P, .int .i64 Q] 78)).alloc (.cells #[.int .i64 0] 3)).cell? ⟨hb, 5, none⟩ = some (.slice ua xr.length uc) := cell_of_blk H6.out.1 5
      clear t1 t2 t3 t4
      go_wp2_with fail
      generalize (w5.alloc (.cells #[.int .i64 P, .int .i64 Q] 78)).alloc (.cells #[.int .i64 0] 3) = w6 at H6 b5 ⊢
      obtain ⟨q1, q2, q3, q4, q5⟩ := H6.out
      have HB6 := hid (HB5.out.trans (q5.mono HB5.out.size))
      have HBW := hid (HB.out.trans (HB6.out.mono HB.out.size))
      obtain ⟨c1, c2⟩ := HC.out
      have c1' := (HB6.out.block cb (lt_of_heap c1)).trans c1
      have c2' := own_stays c2 HB6.out
      have hkd : Kd xr := by
        have := HVP.out.1
        unfold Hu.areR at this
        rw [Bool.and_eq_true] at this
        intro r hr
        have h3 := List.all_eq_true.1 this.1 r hr
        unfold Hu.isC at h3
        simp only [Bool.or_eq_true, beq_iff_eq] at h3
        exact h3
      have hPQ : 0 ≤ P ∧ P ≤ 4294967296 ∧ 0 ≤ Q ∧ Q ≤ 4294967296 := by
        obtain ⟨_, v1, v2, v3, _, v4, v5, v6, _, _⟩ := HVP.out
        unfold Hu.plc at hP hQ
        split at hP <;> split at hQ <;> omega
      have hsz6 : w5.heap.size + 2 = w6.heap.size := q4.symm
      have hs56 : w.heap.size ≤ w5.heap.size := Nat.le_trans HB.out.size HB5.out.size
      have hs2 : w2.heap.size ≤ w6.heap.size := Nat.le_trans HS2.out HB6.out.size
      have hT := scr_takes (h := ⟨xa, xn, xb, xm, xh, xr⟩) (vr := .slice ua xr.length uc) (p := P) (q := Q) (C0 := Hu.scr (l.take k)) (Bc := w2.heap.size) (ab := w5.heap.size) (hb := hb) (db := w5.heap.size + 1) (cb := cb) (B := w.heap.size) (HRU.out.below HB6.out) HUN.out HSX.out.1 hkd hPQ.1 hPQ.2.1 hPQ.2.2.1 hPQ.2.2.2 ⟨by omega, by omega, HCW.out, HB2.out.size⟩ hs2 HSL.out (by omega) (lt_of_heap q1) (by omega) (lt_of_heap c1')
      have h0 : ScI ⟨xa, xn, xb, xm, xh, xr⟩ (.slice ua xr.length uc) P Q (Hu.scr (l.take k)) w2.heap.size w5.heap.size hb (w5.heap.size + 1) cb [] (fun g => g = w5.heap.size ∨ g = w5.heap.size + 1 ∨ g = cb ∨ vc.ownBlock = some g) w6 := by
        refine ⟨?_, q1, q3, vc, c1', ?_, fun g => Iff.rfl⟩
        · rw [q2]; simp [Hu.dnOf, Hu.olds, Hu.fres]
        · rw [List.map_nil, List.append_nil]; exact c2'
      have HER := hid (hEachRun_any (HRU.out.below HB6.out) (B := w.heap.size) HUN.out HBW.out.size HSX.out.1 hT h0 (fun g hg => by
        rcases hg with rfl | rfl | rfl | hg
        · omega
        · omega
        · exact lt_of_heap c1'
        · exact own_lt c2' g hg))
      have HSH : Hid (Hu.scr (l.take k) ++ (Hu.runsR xr 0 0).map (Hu.chOf P Q xr) = Hu.scr (l.take (k + 1))) := hid (by
        rw [HTK.out]
        unfold Hu.scrH
        rw [hP, hQ])
      have hS6 : w2.heap.size ≤ w6.heap.size := hs2
      clear hT h0 hkd hPQ hsz6 hs56 hs2 c1 c2 c1' c2' q1 q2 q3 q4 q5 b5 H6 hP hQ HVP HTK
      refine HER.out.mono ?_
      rintro e w7 ⟨rfl, hb7, X7, hI7⟩
      obtain ⟨_, _, _, v7, r4, r5, _⟩ := hI7
      dsimp only at r5
      rw [HSH.out] at r5
      have HR7 := hid (And.intro r4 r5)
      have HB7 := hid (HBW.out.trans hb7)
      have HS7 := hid (Nat.le_trans hS6 hb7.size)
      clear r4 r5 hb7
      go_wp2_with fail
      go_roundw
      case rel => exact ⟨k + 1, v7, by omega, by go_num, HR7, HB7, HS7⟩
      case measure => simp [intOf]; omega
    · obtain rfl : k = N := by omega
      have hVal := Ed.validN_zero.1 hN
      have htk : l.take k = l := List.take_of_length_le (by have := HL.out; omega)
      rw [htk] at HC
      have HWF : Hid (∀ c ∈ Hu.scr l, WfC c) := hid (fun c hc => by
        have hn := Ed.cnt_iff.1 hVal.1
        have hm := Ed.cnt_iff.1 hVal.2.1
        have := Hu.inc_in (Hu.inc_val hVal.2.2 (by omega) (by omega)) c hc
        unfold WfC I64
        omega)
      have HNO := hid (normal_all (n := n) (m := m) (own_rd HC.out.2) HWF.out (by have := HS.out; omega))
      have hne : nrmA (Hu.scr l) n m = Ed.normal (Hu.scr l) n m := by unfold nrmA; rw [if_pos hN]
      rw [hN, errV_zero, hne] at HNO
      obtain ⟨R, hR⟩ : ∃ R, R = Ed.normal (Hu.scr l) n m := ⟨_, rfl⟩
      rw [← hR] at HNO
      have HRE := hid hR
      clear hR
      obtain ⟨ac, cc, e9⟩ := own_shape HC.out.2
      subst e9
      obtain ⟨SL, hSL⟩ : ∃ SL, SL = (Hu.scr l).length := ⟨_, rfl⟩
      rw [← hSL] at HNO HC
      have c0 : wr.cell? ⟨cb, 0, none⟩ = some (.slice ac SL cc) := cell_of_blk HC.out.1 0
      clear hVal htk hne hSL HC hN
      go_wp2_with fail
      refine HNO.out.mono ?_
      rintro e w7 ⟨v7, rfl, hO7, hb7⟩
      have HO7 : Hid (OwnC w7 w.heap.size v7 R) := hid (own_mono hO7 HB.out.size)
      have HB7 := hid (HB.out.trans (hb7.mono HB.out.size))
      obtain ⟨a7, k7, e7⟩ := own_shape hO7
      subst e7
      obtain ⟨RL, hRL⟩ : ∃ RL, RL = R.length := ⟨_, rfl⟩
      clear hO7 hb7 c0
      rw [← hRL] at HO7 ⊢
      clear hRL
      go_wp2_with fail
      refine (errIs_nil w7).mono ?_
      rintro e w8 ⟨rfl, hb8⟩
      have HO8 := hid (own_stays HO7.out hb8)
      have HB8 := hid (HB7.out.trans (hb8.mono HB7.out.size))
      clear hb8
      go_wp2_with fail
      go_ret2
      exact ⟨_, rfl, by rw [← HRE.out]; exact HO8.out, HB8.out⟩
end Go.Proofs.YtddmfdjkkikapaaGreatDoor
