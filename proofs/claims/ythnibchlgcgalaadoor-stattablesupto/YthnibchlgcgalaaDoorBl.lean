/-
  The walk of the document's Table.
-/
import Derived.Test.YthnibchlgcgalaaDoorBk
import Derived.Lib.AppendStr
namespace Go.Proofs.YthnibchlgcgalaaDoor.Sx
open Go.RowKit

/-! ### the document's Table -/
def tabN (l : List Ct) (width : Int) : Int := if tabOk l width = true then 0 else 1
theorem tabN_no {l : List Ct} {width : Int} (h : tabOk l width = false) : tabN l width = 1 := by unfold tabN; rw [h]; rfl
theorem tabN_yes {l : List Ct} {width : Int} (h : tabOk l width = true) : tabN l width = 0 := by unfold tabN; rw [h]; rfl
theorem dec_int {n : Int} (h : 0 ≤ n) : dec n = Lib.decDigits n.toNat := by
  obtain ⟨m, rfl⟩ := Int.eq_ofNat_of_zero_le h
  rw [dec_nat, Int.toNat_natCast]
theorem digitsI_any (n : Int) (w : World) (h0 : 0 ≤ n) (h1 : n ≤ 9223372036854775807) : Calls Tryd.prog 30 #[.int .i64 n] w fun e w' => e = .returned (.string (bB (dec n))) ∧ Below w.heap.size w w' := by
  obtain ⟨m, rfl⟩ := Int.eq_ofNat_of_zero_le h0
  rw [dec_nat]
  exact digits_any m m (Nat.le_refl _) (by omega) w
/-- a row's text, as the document puts it together -/
theorem row_part {K : Cols} {c : Ct} {L : Bs} {m1 m2 : Nat} {Q D R1 R2 : ByteArray} {B : Int × Int} (hb : bar c.a c.d K.bar K.most = B) (h1 : m1 = K.name - (q c).length) (h2 : m2 = K.number - (dec (c.a + c.d)).length) (hQ : Q = qB c) (hD : D = bB (dec (c.a + c.d))) (hR1 : R1 = bB (rep m1 32)) (hR2 : R2 = bB (rep m2 32)) :
    L ++ row K c = L ++ (ByteArray.mk #[32] ++ Q ++ R1 ++ ByteArray.mk #[32, 124, 32] ++ R2 ++ D).data.toList ++ barT B ++ [10] := by
  subst hQ hD hR1 hR2 h1 h2
  unfold row qB
  rw [hb]
  simp only [add_data, bB_data, List.append_assoc]
theorem app_bytes {l : Bs} {s : ByteArray} : l ++ s.data.toList = l ++ (bB s.data.toList).data.toList := rfl
theorem str_own2 {w : World} {B : Nat} {v : Value} {l : Bs} {s : ByteArray} (h : w.ownsRow B 5 1 v (l.length + s.size) (Lib.byteCells l ++ Lib.strCells s)) : OwB w B v (l ++ s.data.toList) := by
  have e1 : Lib.strCells s = Lib.byteCells s.data.toList := rfl
  have e2 : s.size = s.data.toList.length := (dsize s).symm
  rw [e1, e2] at h
  show w.ownsRow _ _ _ _ _ _
  rw [Lib.byteCells_append, List.length_append]
  exact h
set_option maxHeartbeats 16000000 in
set_option maxRecDepth 100000 in
theorem rTable_any {w : World} {v : Value} {l : List Ct} (width : Int) (hr : RdK w v l) (hn : l.length ≤ 1099511627776) (hs : ∀ x ∈ l, x.nm.size ≤ 35184371999999) (hz : okL l = true → l.length * (nameW l + 2100) + nameW l ≤ 70368744177664) (hwi : I64 width) :
    Calls Tryd.prog 12 #[v, .int .i64 width] w fun e w' => e = .returned (.tuple #[.string (tabS l width), .int .i64 (tabN l width)]) ∧ Below w.heap.size w w' := by
  have HT := hid (rTotal_any hr hn)
  have HR0 := hid hr
  obtain ⟨i0, hi, hz0, hz1, hz2⟩ := info_parts Cx.Tryd.infoByteX
  obtain ⟨a, c, rfl⟩ := hr.shape
  cases hok : okL l with
  | false =>
    have HZ := hid (tab_no (l := l) (width := width) (by unfold tabOk; rw [hok]; rfl))
    rw [HZ.out.1, tabN_no (by unfold tabOk; rw [hok]; rfl)]
    rw [tot_no hok, show rtN l = 1 from by unfold rtN; rw [hok]; rfl] at HT
    obtain ⟨n, hnn⟩ : ∃ n, n = l.length := ⟨_, rfl⟩
    rw [← hnn] at HT ⊢
    clear hok HZ hr hnn HR0 hs hz
    go_enter Tryd.func12, Tryd.ntmps12
    go_wp2_with fail
    refine HT.out.mono ?_
    rintro e w1 ⟨rfl, hb1⟩
    have HB := hid hb1
    clear hb1
    go_wp2_with fail
    go_ret2
    exact ⟨rfl, HB.out⟩
  | true =>
    rw [tot_yes hok, show rtN l = 0 from by unfold rtN; rw [hok]; rfl] at HT
    unfold I64 at hwi
    by_cases hw : 0 ≤ width ∧ width ≤ 1020
    · have hto : tabOk l width = true := by unfold tabOk; rw [hok, decide_eq_true hw.1, decide_eq_true hw.2]; rfl
      have HZ := hid (tab_yes hto)
      rw [HZ.out.1, tabN_yes hto]
      have hall := (okL_iff.1 hok).2.1
      have hlen := (okL_iff.1 hok).1
      have htl := total_len hok
      have hz' := hz hok
      have HTD : Hid ((bB (total l)).data.toList = total l) := hid (bB_data _)
      have hTs : (bB (total l)).size ≤ 400 := by rw [bB_size]; exact htl
      have HTAB : Hid (rows (colsOf l width) l ++ total l = table l width) := hid rfl
      have HALL := hid hall
      have HCO := hid (fun c (hc : c ∈ l) => cols_ok hall hw hc)
      have HSN := hid hs
      have HNZ : Hid ((colsOf l width).name = nameW l ∧ l.length * (nameW l + 2100) + nameW l ≤ 70368744177664) := hid ⟨rfl, hz'⟩
      have HKK : Hid (colsOf l width = ⟨nameW l, (bB (dec (mostL l))).size, max (width - (nameW l : Int) - ((bB (dec (mostL l))).size : Int) - 5) 10, mostL l⟩) := hid (by unfold colsOf; rw [bB_size])
      have hmb := mostL_bound hall
      have HDM := hid (fun w' => digitsI_any (mostL l) w' (by omega) (by omega))
      have hdm : (bB (dec (mostL l))).size ≤ 21 := by rw [bB_size]; exact cols_num l hall
      obtain ⟨n, hnn⟩ : ∃ n, n = l.length := ⟨_, rfl⟩
      have HN := hid hnn
      rw [← hnn] at HT HNZ HR0 hlen ⊢
      obtain ⟨K, hK⟩ : ∃ K, K = colsOf l width := ⟨_, rfl⟩
      rw [← hK] at HTAB HCO HNZ HKK
      obtain ⟨T, hT⟩ : ∃ T, T = bB (total l) := ⟨_, rfl⟩
      rw [← hT] at HT HTD hTs
      obtain ⟨Z, hZZ⟩ : ∃ Z, Z = bB (table l width) := ⟨_, rfl⟩
      have HZZ := hid hZZ
      rw [← hZZ]
      have hnW : nameW l ≤ 70368744177664 := by omega
      clear hok HZ hr hnn hs hz hz' htl hK hT hZZ hn hto hmb hall
      go_enter Tryd.func12, Tryd.ntmps12
      go_wp2_with fail
      refine HT.out.mono ?_
      rintro e w1 ⟨rfl, hb1⟩
      have HB1 := hid hb1
      clear hb1 HT
      go_wp2_with fail
      go_loopw [8, 9, 10] (fun nw mo i wr => ∃ k : Nat, k ≤ n ∧ i = .int .i64 k ∧ nw = .int .i64 (nameW (l.take k) : Int) ∧ mo = .int .i64 (mostL (l.take k)) ∧ Hid (Below w.heap.size w wr)) (fun _ _ i _ => n - (intOf i).toNat)
      case atStart => exact ⟨0, Nat.zero_le _, rfl, rfl, rfl, HB1⟩
      case round =>
        obtain ⟨k, hk, rfl, rfl, rfl, HB⟩ := hrel
        by_cases hlt : k < n
        · obtain ⟨x, hx⟩ : ∃ x, l[k]? = some x := ⟨_, List.getElem?_eq_getElem (by have := HN.out; omega)⟩
          have hxl := List.mem_of_getElem? hx
          obtain ⟨b1, o1, e1, hb1, d0, d1, d2⟩ := rdK_at (by have := RdX.below HR0.out HB.out; exact this) hx
          subst e1
          have HQ := hid (Cx.refQuote_any x.nm wr (HSN.out x hxl))
          have HQB : Hid ((⟨(Pq.quote x.nm.data.toList).toArray⟩ : ByteArray) = qB x) := hid rfl
          rw [HQB.out] at HQ
          have hxb := okC_iff.1 (List.all_eq_true.1 HALL.out x hxl)
          have hq1 : (qB x).size ≤ 140737488355328 := by unfold qB; rw [bB_size]; exact Nat.le_trans (nameW_mem hxl) (by omega)
          have HT1 : Hid (max (nameW (l.take k) : Int) ((qB x).size : Int) = (nameW (l.take (k + 1)) : Int)) := hid (by rw [nameW_take hx]; unfold qB; rw [bB_size]; omega)
          have HT2 : Hid (max (mostL (l.take k)) (x.a + x.d) = mostL (l.take (k + 1))) := hid (mostL_take hx).symm
          have s1 : IntKind.i64.wrap (x.a + x.d) = x.a + x.d := wrapI (by omega) (by omega)
          obtain ⟨nW, hnW'⟩ : ∃ s : Int, s = (nameW (l.take k) : Int) := ⟨_, rfl⟩
          obtain ⟨mo, hmo⟩ : ∃ s, s = mostL (l.take k) := ⟨_, rfl⟩
          obtain ⟨nW2, hnW2⟩ : ∃ s : Int, s = (nameW (l.take (k + 1)) : Int) := ⟨_, rfl⟩
          obtain ⟨mo2, hmo2⟩ : ∃ s, s = mostL (l.take (k + 1)) := ⟨_, rfl⟩
          have HNW := hid hnW2
          have HMO := hid hmo2
          rw [← hnW', ← hnW2] at HT1
          rw [← hmo, ← hmo2] at HT2
          rw [← hnW', ← hmo]
          obtain ⟨xs, hxs⟩ : ∃ xs, xs = x.a + x.d := ⟨_, rfl⟩
          rw [← hxs] at HT2 s1
          have hmx1 : ∀ X : World, (Builtin.max_ #[3, 3] 3 #[.int .i64 nW, .int .i64 ((qB x).size : Int)]).run Tryd.prog X = .ok (.int .i64 nW2) X := fun X => by rw [← HT1.out]; exact run_maxI _ _ _ X
          have hmx2 : ∀ X : World, (Builtin.max_ #[3, 3] 3 #[.int .i64 mo, .int .i64 xs]).run Tryd.prog X = .ok (.int .i64 mo2) X := fun X => by rw [← HT2.out]; exact run_maxI _ _ _ X
          have s1' : IntKind.i64.wrap (x.a + x.d) = xs := by rw [hxs]; exact wrapI (by omega) (by omega)
          have i1 : (0 : Int) ≤ (k : Int) := by omega
          have i2 : (k : Int) < (n : Int) := by omega
          have HD1 : Hid (∀ w', Below wr.heap.size wr w' → w'.cell? ⟨b1, o1 + k * 3 + 1, none⟩ = some (.int .i64 x.a)) := hid (fun w' h => (h.cell (p := ⟨b1, _, none⟩) hb1).trans d1)
          have HD2 : Hid (∀ w', Below wr.heap.size wr w' → w'.cell? ⟨b1, o1 + k * 3 + 2, none⟩ = some (.int .i64 x.d)) := hid (fun w' h => (h.cell (p := ⟨b1, _, none⟩) hb1).trans d2)
          clear hx hxl hb1 hxb hnW' hmo hnW2 hmo2 HT1 HT2 HQB s1 hxs d1 d2
          generalize qB x = Q at HQ hq1 hmx1
          go_wp2_with fail
          refine HQ.out.mono ?_
          rintro e w2 ⟨rfl, hb2⟩
          have HB2 := hid (HB.out.trans (hb2.mono HB.out.size))
          have d1 := HD1.out w2 hb2
          have d2 := HD2.out w2 hb2
          clear hb2 HQ HB d0
          go_wp2_with fail
          refine wp_region_qtail 13 (by kernel_rfl) (by kernel_rfl) ?_
          simp only [List.take_succ_cons, List.take_zero, List.drop_succ_cons, List.drop_zero]
          repeat go_big_quiet_step (fail)
          refine wpQuiet_nil ?_
          have HB3 := hid (below_drewN HB2.out 1)
          generalize w2.drewN 1 = w3 at HB3 ⊢
          clear d1 d2 HB2
          go_wp2_with fail
          go_roundw
          case rel => exact ⟨k + 1, by omega, by go_num, by rw [← HNW.out], by rw [← HMO.out], HB3⟩
          case measure => simp [intOf]; omega
        · have HTt : Hid (l.take k = l) := hid (List.take_of_length_le (by have := HN.out; omega))
          rw [HTt.out]
          have hK1 : (nameW l : Int) = (K.name : Int) := by rw [HNZ.out.1]
          have hK2 : mostL l = K.most := by rw [HKK.out]
          have hK3 : (bB (dec (mostL l))).size = K.number := by rw [HKK.out]
          have hK4 : max (width - (nameW l : Int) - ((bB (dec (mostL l))).size : Int) - 5) 10 = K.bar := by rw [HKK.out]
          have hkn : K.name ≤ 70368744177664 := by rw [HNZ.out.1]; exact hnW
          rw [hK1, hK2]
          rw [hK1] at hK4
          rw [hK2] at HDM hK3 hK4 hdm
          have HDS := hid hK3
          generalize bB (dec K.most) = DM at HDM HDS hK3 hK4 hdm
          have s1 : IntKind.i64.wrap (width - (K.name : Int)) = width - (K.name : Int) := wrapI (by omega) (by omega)
          have s2 : IntKind.i64.wrap (width - (K.name : Int) - (DM.size : Int)) = width - (K.name : Int) - (DM.size : Int) := wrapI (by omega) (by omega)
          have s3 : IntKind.i64.wrap (width - (K.name : Int) - (DM.size : Int) - 5) = width - (K.name : Int) - (DM.size : Int) - 5 := wrapI (by omega) (by omega)
          have hmx : ∀ X : World, (Builtin.max_ #[3, 3] 3 #[.int .i64 (width - (K.name : Int) - (DM.size : Int) - 5), .int .i64 10]).run Tryd.prog X = .ok (.int .i64 K.bar) X := fun X => by rw [← hK4]; exact run_maxI _ _ _ X
          clear hK1 hK2 hK3 hK4 HTt
          go_wp2_with fail
          refine (HDM.out wr).mono ?_
          rintro e w2 ⟨rfl, hb2⟩
          have HB2 := hid (HB.out.trans (hb2.mono HB.out.size))
          have hds := HDS.out
          have hds' : (DM.size : Int) = (K.number : Int) := by rw [hds]
          have HDS2 := hid hds'
          clear hb2 HDM HB hds hds' HDS
          go_wp2_with fail
          rw [HDS2.out]
          obtain ⟨w5, hw5⟩ : ∃ w5, w5 = w2 := ⟨_, rfl⟩
          subst hw5
          clear s1 s2 s3 hmx hdm HDS2
          go_loopw [13, 14, 15, 16, 17, 18] (fun o i _ _ _ _ wr => ∃ k : Nat, k ≤ n ∧ i = .int .i64 k ∧ Hid (OwB wr w.heap.size o (rows K (l.take k))) ∧ Hid (Below w.heap.size w wr)) (fun _ i _ _ _ _ _ => n - (intOf i).toNat)
          case atStart => exact ⟨0, Nat.zero_le _, rfl, hid (World.ownsRow_nil _ _ _ _), HB2⟩
          case round =>
            obtain ⟨k, hk, rfl, HO, HB⟩ := hrel
            clear HB2
            have HLEN : Hid ((rows K (l.take k)).length ≤ n * (nameW l + 2100)) := hid (by
              have h1 : (rows K (l.take k)).length ≤ (l.take k).length * (K.name + 2100) := rows_len fun c hc => by
                have h2 := HCO.out c (List.mem_of_mem_take hc)
                exact row_len h2.1 h2.2.1 h2.2.2.1 h2.2.2.2.1 h2.2.2.2.2
              rw [HNZ.out.1] at h1
              refine Nat.le_trans h1 (Nat.mul_le_mul_right _ ?_)
              rw [List.length_take]
              omega)
            by_cases hlt : k < n
            · obtain ⟨x, hx⟩ : ∃ x, l[k]? = some x := ⟨_, List.getElem?_eq_getElem (by have := HN.out; omega)⟩
              have hxl := List.mem_of_getElem? hx
              obtain ⟨b1, o1, e1, hb1, g0, g1, g2⟩ := rdK_at HR0.out hx
              subst e1
              have d0 := (HB.out.cell (p := ⟨b1, _, none⟩) hb1).trans g0
              have HD1 : Hid (∀ w', Below w.heap.size w w' → w'.cell? ⟨b1, o1 + k * 3 + 1, none⟩ = some (.int .i64 x.a)) := hid (fun w' h => (h.cell (p := ⟨b1, _, none⟩) hb1).trans g1)
              have HD2 : Hid (∀ w', Below w.heap.size w w' → w'.cell? ⟨b1, o1 + k * 3 + 2, none⟩ = some (.int .i64 x.d)) := hid (fun w' h => (h.cell (p := ⟨b1, _, none⟩) hb1).trans g2)
              have HT1 := hid (rows_take (k := K) hx)
              have hX := HCO.out x hxl
              have HQ := hid (Cx.refQuote_any x.nm wr (HSN.out x hxl))
              have HQB : Hid ((⟨(Pq.quote x.nm.data.toList).toArray⟩ : ByteArray) = qB x) := hid rfl
              rw [HQB.out] at HQ
              have ho := hX.1
              have hoa := ho.a0
              have hoa1 := ho.a1
              have hod := ho.d0
              have hod1 := ho.d1
              have how0 := ho.w0
              have how1 := ho.w1
              have hom := ho.m1
              have hom0 := ho.m0
              have hbk := bar_ok ho
              have HBar := hid (fun w' => rBar_any x.a x.d K.bar K.most w' ⟨by omega, by omega⟩ ⟨by omega, by omega⟩ ⟨by omega, by omega⟩ ⟨by omega, by omega⟩)
              have HDg := hid (fun w' => digitsI_any (x.a + x.d) w' (by omega) (by omega))
              have hqz : (qB x).size ≤ K.name := by unfold qB; rw [bB_size]; exact hX.2.1
              have hdz : (bB (dec (x.a + x.d))).size ≤ K.number := by rw [bB_size]; exact hX.2.2.1
              obtain ⟨m1, hm1⟩ : ∃ m, m = K.name - (q x).length := ⟨_, rfl⟩
              obtain ⟨m2, hm2⟩ : ∃ m, m = K.number - (dec (x.a + x.d)).length := ⟨_, rfl⟩
              obtain ⟨L, hL⟩ : ∃ L, L = rows K (l.take k) := ⟨_, rfl⟩
              obtain ⟨BP, hBP⟩ : ∃ B, B = bar x.a x.d K.bar K.most := ⟨_, rfl⟩
              have HRP := hid (fun (Q D R1 R2 : ByteArray) => row_part (K := K) (c := x) (L := L) (m1 := m1) (m2 := m2) (Q := Q) (D := D) (R1 := R1) (R2 := R2) hBP.symm hm1 hm2)
              have hq2 : (qB x).size = (q x).length := by unfold qB; rw [bB_size]
              have hd2 : (bB (dec (x.a + x.d))).size = (dec (x.a + x.d)).length := bB_size _
              have t1 : IntKind.i64.wrap ((K.name : Int) - ((qB x).size : Int)) = (m1 : Int) := by rw [wrapI (by omega) (by omega)]; omega
              have t2 : IntKind.i64.wrap ((K.number : Int) - ((bB (dec (x.a + x.d))).size : Int)) = (m2 : Int) := by rw [wrapI (by omega) (by omega)]; omega
              have hm1' : m1 ≤ 70368744177664 := by omega
              have hm2' : m2 ≤ 21 := by have := hX.2.2.2.1; omega
              have HSZ : Hid ((qB x).size + m1 = K.name ∧ (bB (dec (x.a + x.d))).size ≤ 21 ∧ L.length + K.name ≤ 70368744177664) := hid ⟨by omega, by have := hX.2.2.2.1; omega, by have h1 := HLEN.out; have h2 := HNZ.out.2; have h3 := HNZ.out.1; rw [← hL] at h1; omega⟩
              have HRP2 := hid (HRP.out (qB x) (bB (dec (x.a + x.d))) (bB (rep m1 32)) (bB (rep m2 32)) rfl rfl rfl rfl)
              rw [← hL] at HO HT1
              rw [← hBP] at HBar hbk
              obtain ⟨bx, by'⟩ := BP
              simp only at HBar hbk
              obtain ⟨hbx, hby, hbs, -, -⟩ := hbk
              obtain ⟨nx, rfl⟩ := Int.eq_ofNat_of_zero_le hbx
              obtain ⟨ny, rfl⟩ := Int.eq_ofNat_of_zero_le hby
              have hnx : nx ≤ 2000 := by have := hX.2.2.2.2; omega
              have hny : ny ≤ 2000 := by have := hX.2.2.2.2; omega
              have t3 : IntKind.i64.wrap ((nx : Int) + (ny : Int)) = (nx : Int) + (ny : Int) := wrapI (by omega) (by omega)
              obtain ⟨xs, hxs⟩ : ∃ xs, xs = x.a + x.d := ⟨_, rfl⟩
              have t4 : IntKind.i64.wrap (x.a + x.d) = xs := by rw [hxs]; exact wrapI (by omega) (by omega)
              rw [← hxs] at HDg HSZ HRP2 t2
              have HR1 := hid (fun w' => times_any 32 m1 w' (by omega))
              have HR2 := hid (fun w' => times_any 32 m2 w' (by omega))
              have hr1 : (bB (rep m1 32)).size = m1 := by rw [bB_size, rep_len]
              have hr2 : (bB (rep m2 32)).size = m2 := by rw [bB_size, rep_len]
              have i1 : (0 : Int) ≤ (k : Int) := by omega
              have i2 : (k : Int) < (n : Int) := by omega
              clear hx hxl hb1 g0 g1 g2 HRP hX hoa hoa1 hod hod1 how0 how1 hom hom0 ho hbx hby hbs hm1 hm2 hqz hdz hq2 hd2 hBP hL hxs HQB
              generalize qB x = Q at HQ HSZ HRP2 t1
              generalize bB (dec xs) = D at HDg HSZ HRP2 t2
              generalize bB (rep m1 32) = R1 at HR1 hr1 HRP2
              generalize bB (rep m2 32) = R2 at HR2 hr2 HRP2
              have z1 : Q.size ≤ 70368744177664 := by have := HSZ.out; omega
              have z2 : D.size ≤ 21 := HSZ.out.2.1
              have z3 : R1.size ≤ 70368744177664 := by omega
              have z4 : R2.size ≤ 21 := by omega
              have HSS : Hid (Q.size + R1.size = K.name ∧ (ByteArray.mk #[32] ++ Q ++ R1 ++ ByteArray.mk #[32, 124, 32] ++ R2 ++ D).size ≤ K.name + 50) := hid (by
                have := HSZ.out
                simp only [add_size, sz1, sz3]
                omega)
              clear hr1 hr2
              go_wp2_with fail
              refine HQ.out.mono ?_
              rintro e w3 ⟨rfl, hb3⟩
              have HB3 := hid (HB.out.trans (hb3.mono HB.out.size))
              have HO3 := hid (Cx.own_stays HO.out hb3)
              have d1 := HD1.out w3 HB3.out
              have d2 := HD2.out w3 HB3.out
              clear hb3 HQ HB HO d0
              go_wp2_with fail
              refine wp_region_classK (C := fun w' => Below w3.heap.size w3 w') (by kernel_rfl) (by kernel_rfl) (below_drewN (Below.refl _ _) 1) ?_
              refine wpQuiet_step (fun K hK => ?_)
              go_simp
              refine ⟨_, fun _ _ => rfl, hK _ ?_⟩
              clear hK K
              refine wpQuiet_step (fun K hK => ?_)
              go_simp
              refine ⟨_, fun _ _ => rfl, hK _ ?_⟩
              clear hK K
              refine wpQuiet_step (fun K hK => ?_)
              go_simp
              refine ⟨_, fun _ _ => rfl, hK _ ?_⟩
              clear hK K
              refine wpQuiet_step (fun K hK => ?_)
              go_simp
              refine ⟨_, fun _ _ => rfl, hK _ ?_⟩
              clear hK K
              refine wpQuiet_step (fun K hK => ?_)
              rw [if_pos (by rfl)]
              refine ⟨.int .i64 x.a, fun w' hw' => ?_, hK _ ?_⟩
              · have c1 := HD1.out w' (HB3.out.trans (hw'.mono HB3.out.size))
                go_simp
              clear hK K
              refine wpQuiet_step (fun K hK => ?_)
              go_simp
              refine ⟨_, fun _ _ => rfl, hK _ ?_⟩
              clear hK K
              refine wpQuiet_step (fun K hK => ?_)
              go_simp
              refine ⟨_, fun _ _ => rfl, hK _ ?_⟩
              clear hK K
              refine wpQuiet_step (fun K hK => ?_)
              go_simp
              refine ⟨_, fun _ _ => rfl, hK _ ?_⟩
              clear hK K
              refine wpQuiet_step (fun K hK => ?_)
              go_simp
              refine ⟨_, fun _ _ => rfl, hK _ ?_⟩
              clear hK K
              refine wpQuiet_step (fun K hK => ?_)
              rw [if_pos (by rfl)]
              refine ⟨.int .i64 x.d, fun w' hw' => ?_, hK _ ?_⟩
              · have c1 := HD2.out w' (HB3.out.trans (hw'.mono HB3.out.size))
                go_simp
              clear hK K
              refine wpQuiet_step (fun K hK => ?_)
              go_simp
              refine ⟨_, fun _ _ => rfl, hK _ ?_⟩
              clear hK K
              refine wpQuiet_step (fun K hK => ?_)
              rw [if_pos (by rfl)]
              refine ⟨.string D, fun w' hw' => ?_, hK _ ?_⟩
              · go_simp
                refine (HDg.out w').mono ?_
                rintro r wn ⟨rfl, hbn⟩
                exact ⟨rfl, hw'.trans (hbn.mono hw'.size)⟩
              clear hK K
              refine wpQuiet_step (fun K hK => ?_)
              go_simp
              refine ⟨_, fun _ _ => rfl, hK _ ?_⟩
              clear hK K
              refine wpQuiet_nil ?_
              intro w4 hb4
              have HB4 := hid (HB3.out.trans (hb4.mono HB3.out.size))
              have HO4 := hid (Cx.own_stays HO3.out hb4)
              clear hb4 HB3 HO3 HDg d1 d2
              go_wp2_with fail
              refine (HR1.out w4).mono ?_
              rintro e w5 ⟨rfl, hb5⟩
              have HB5 := hid (HB4.out.trans (hb5.mono HB4.out.size))
              have HO5 := hid (Cx.own_stays HO4.out hb5)
              clear hb5 HB4 HO4 HR1
              go_wp2_with fail
              refine (HR2.out w5).mono ?_
              rintro e w6 ⟨rfl, hb6⟩
              have HB6 := hid (HB5.out.trans (hb6.mono HB5.out.size))
              have HO6 := hid (Cx.own_stays HO5.out hb6)
              clear hb6 HB5 HO5 HR2
              go_wp2_with (at_builtin; refine Lib.wpList_append_own_string _ rfl _ _ 59 9 rfl w.heap.size 5 i0 Tryd.underlying59 Tryd.underlying9 hi hz0 hz1 hz2 _ _ _ rfl HO6.out (ByteArray.mk #[32] ++ Q ++ R1 ++ ByteArray.mk #[32, 124, 32] ++ R2 ++ D) rfl ?c3 ?c4 ?c5 ?_)
              case c3 => have h1 := HSS.out.2; have h2 := HSZ.out.2.2; unfold maxLen; omega
              case c4 => have h1 := HSS.out.2; have h2 := HSZ.out.2.2; omega
              case c5 => exact HB6.out.size
              intro v7 w7 hown7 hgrow7 _
              have HB7 := hid (HB6.out.grown hgrow7 HB6.out.size (Cx.own_ge HO6.out))
              have hse : (ByteArray.mk #[32] ++ Q ++ R1 ++ ByteArray.mk #[32, 124, 32] ++ R2 ++ D).size = 1 + Q.size + R1.size + 3 + R2.size + D.size := by simp only [add_size, sz1, sz3]
              have HO7 := hid (str_own2 (l := L) (s := (ByteArray.mk #[32] ++ Q ++ R1 ++ ByteArray.mk #[32, 124, 32] ++ R2 ++ D)) (by rw [hse]; exact hown7))
              obtain ⟨L7, hL7⟩ : ∃ L7, L7 = L ++ (ByteArray.mk #[32] ++ Q ++ R1 ++ ByteArray.mk #[32, 124, 32] ++ R2 ++ D).data.toList := ⟨_, rfl⟩
              have HL7 : Hid (L7.length + 9000 ≤ 140737488355328) := hid (by have h1 := HSS.out.2; have h2 := HSZ.out.2.2; rw [hL7, List.length_append, dsize]; omega)
              rw [← hL7] at HO7 HRP2
              clear hown7 hgrow7 HB6 HO6 hL7
              go_wp2_with fail
              refine wp_region_classK (C := fun w' => Below w7.heap.size w7 w') (by kernel_rfl) (by kernel_rfl) (below_drewN (Below.refl _ _) 1) ?_
              refine wpQuiet_step (fun K hK => ?_)
              go_simp
              refine ⟨_, fun _ _ => rfl, hK _ ?_⟩
              clear hK K
              refine wpQuiet_step (fun K hK => ?_)
              go_simp
              refine ⟨_, fun _ _ => rfl, hK _ ?_⟩
              clear hK K
              refine wpQuiet_step (fun K hK => ?_)
              go_simp
              refine ⟨_, fun _ _ => rfl, hK _ ?_⟩
              clear hK K
              refine wpQuiet_step (fun K hK => ?_)
              go_simp
              refine ⟨_, fun _ _ => rfl, hK _ ?_⟩
              clear hK K
              refine wpQuiet_step (fun K hK => ?_)
              rw [if_pos (by rfl)]
              refine ⟨.int .i64 x.a, fun w' hw' => ?_, hK _ ?_⟩
              · have c1 := HD1.out w' (HB7.out.trans (hw'.mono HB7.out.size))
                go_simp
              clear hK K
              refine wpQuiet_step (fun K hK => ?_)
              go_simp
              refine ⟨_, fun _ _ => rfl, hK _ ?_⟩
              clear hK K
              refine wpQuiet_step (fun K hK => ?_)
              go_simp
              refine ⟨_, fun _ _ => rfl, hK _ ?_⟩
              clear hK K
              refine wpQuiet_step (fun K hK => ?_)
              go_simp
              refine ⟨_, fun _ _ => rfl, hK _ ?_⟩
              clear hK K
              refine wpQuiet_step (fun K hK => ?_)
              go_simp
              refine ⟨_, fun _ _ => rfl, hK _ ?_⟩
              clear hK K
              refine wpQuiet_step (fun K hK => ?_)
              rw [if_pos (by rfl)]
              refine ⟨.int .i64 x.d, fun w' hw' => ?_, hK _ ?_⟩
              · have c1 := HD2.out w' (HB7.out.trans (hw'.mono HB7.out.size))
                go_simp
              clear hK K
              refine wpQuiet_step (fun K hK => ?_)
              go_simp
              refine ⟨_, fun _ _ => rfl, hK _ ?_⟩
              clear hK K
              refine wpQuiet_step (fun K hK => ?_)
              go_simp
              refine ⟨_, fun _ _ => rfl, hK _ ?_⟩
              clear hK K
              refine wpQuiet_step (fun K hK => ?_)
              rw [if_pos (by rfl)]
              refine ⟨.tuple #[.int .i64 (nx : Int), .int .i64 (ny : Int)], fun w' hw' => ?_, hK _ ?_⟩
              · go_simp
                refine (HBar.out w').mono ?_
                rintro r wn ⟨rfl, rfl⟩
                exact ⟨rfl, hw'⟩
              clear hK K
              refine wpQuiet_step (fun K hK => ?_)
              go_simp
              refine ⟨_, fun _ _ => rfl, hK _ ?_⟩
              clear hK K
              refine wpQuiet_step (fun K hK => ?_)
              go_simp
              refine ⟨_, fun _ _ => rfl, hK _ ?_⟩
              clear hK K
              refine wpQuiet_step (fun K hK => ?_)
              go_simp
              refine ⟨_, fun _ _ => rfl, hK _ ?_⟩
              clear hK K
              refine wpQuiet_step (fun K hK => ?_)
              go_simp
              refine ⟨_, fun _ _ => rfl, hK _ ?_⟩
              clear hK K
              refine wpQuiet_step (fun K hK => ?_)
              go_simp
              refine ⟨_, fun _ _ => rfl, hK _ ?_⟩
              clear hK K
              refine wpQuiet_nil ?_
              intro w8 hb8
              have HB8 := hid (HB7.out.trans (hb8.mono HB7.out.size))
              have HO8 := hid (Cx.own_stays HO7.out hb8)
              clear hb8 HB7 HO7 HBar
              have HL8 := HL7
              by_cases hpos : (0 : Int) < (nx : Int) + (ny : Int)
              · have HP1 := hid (fun w' => times_any 43 nx w' (by omega))
                have HP2 := hid (fun w' => times_any 45 ny w' (by omega))
                have hr1 : (bB (rep nx 43)).size = nx := by rw [bB_size, rep_len]
                have hr2 : (bB (rep ny 45)).size = ny := by rw [bB_size, rep_len]
                have HBT : Hid (barT ((nx : Int), (ny : Int)) = (ByteArray.mk #[32] ++ bB (rep nx 43) ++ bB (rep ny 45)).data.toList) := hid (by rw [bar_text hpos, add_data, add_data, bB_data, bB_data]; rfl)
                generalize bB (rep nx 43) = P1 at HP1 hr1 HBT
                generalize bB (rep ny 45) = P2 at HP2 hr2 HBT
                have z5 : P1.size ≤ 2000 := by omega
                have z6 : P2.size ≤ 2000 := by omega
                have HRR : Hid (P1.size + P2.size ≤ 4000) := hid (by omega)
                clear hr1 hr2
                go_wp2_with fail
                refine (HP1.out w8).mono ?_
                rintro e w10 ⟨rfl, hb10⟩
                have HB10 := hid (HB8.out.trans (hb10.mono HB8.out.size))
                have HO10 := hid (Cx.own_stays HO8.out hb10)
                clear hb10 HB8 HO8 HP1
                go_wp2_with fail
                refine (HP2.out w10).mono ?_
                rintro e w11 ⟨rfl, hb11⟩
                have HB11 := hid (HB10.out.trans (hb11.mono HB10.out.size))
                have HO11 := hid (Cx.own_stays HO10.out hb11)
                clear hb11 HB10 HO10 HP2
                go_wp2_with (at_builtin; refine Lib.wpList_append_own_string _ rfl _ _ 59 9 rfl w.heap.size 5 i0 Tryd.underlying59 Tryd.underlying9 hi hz0 hz1 hz2 _ _ _ rfl HO11.out (ByteArray.mk #[32] ++ P1 ++ P2) rfl ?c3 ?c4 ?c5 ?_)
                case c3 => have h1 := HL8.out; have h2 := HRR.out; unfold maxLen; simp only [add_size, sz1]; omega
                case c4 => have h1 := HL8.out; have h2 := HRR.out; simp only [add_size, sz1]; omega
                case c5 => exact HB11.out.size
                intro v12 w12 hown12 hgrow12 _
                have HB12 := hid (HB11.out.grown hgrow12 HB11.out.size (Cx.own_ge HO11.out))
                have hse2 : (ByteArray.mk #[32] ++ P1 ++ P2).size = 1 + P1.size + P2.size := by simp only [add_size, sz1]
                have HO12 := hid (str_own2 (l := L7) (s := ByteArray.mk #[32] ++ P1 ++ P2) (by rw [hse2]; exact hown12))
                obtain ⟨L12, hL12⟩ : ∃ L12, L12 = L7 ++ (ByteArray.mk #[32] ++ P1 ++ P2).data.toList := ⟨_, rfl⟩
                have HL12 : Hid (L12.length + 100 ≤ 140737488355328) := hid (by have h1 := HL8.out; have h2 := HRR.out; rw [hL12, List.length_append, dsize, hse2]; omega)
                have HTXT : Hid (L7 ++ barT ((nx : Int), (ny : Int)) ++ [10] = L12 ++ [10]) := hid (by rw [hL12, HBT.out])
                rw [← hL12] at HO12
                clear hown12 hgrow12 HB11 HO11 hse2 hL12 HBT z5 z6
                have HN12 := hid (one_new w12 (.cells #[.int .u8 10] 5))
                go_wp2_with (at_builtin; refine wpList_append_own _ rfl _ _ 59 rfl w.heap.size 5 i0 (.int .u8 0) 1 1 Tryd.underlying59 hi hz0 hz1 hz2 rfl (by decide) _ _ _ rfl (Cx.own_stays HO12.out HN12.out.1) ⟨w12.heap.size, 0, none⟩ 1 1 [.int .u8 10] rfl rfl ?a1 ?a2 ?a3 ?a4 ?a5 ?_)
                case a1 =>
                  intro j u hj
                  match j, hj with
                  | 0, hj => simp at hj; subst hj; simp [Addr.add]
                case a2 => intro u hu; simp at hu; subst hu; rfl
                case a3 => have h1 := HL12.out; unfold maxLen; omega
                case a4 => have h1 := HL12.out; omega
                case a5 => exact Nat.le_trans HB12.out.size HN12.out.1.size
                intro v9 w9 hown9 hgrow9 _
                have HB9 := hid ((HB12.out.trans (HN12.out.1.mono HB12.out.size)).grown hgrow9 (Nat.le_trans HB12.out.size HN12.out.1.size) (Cx.own_ge HO12.out))
                have HO9 := hid (Cx.byte_own (l := L12) (c := 10) hown9)
                clear hown9 hgrow9
                go_wp2_with fail
                go_roundw
                case rel => exact ⟨k + 1, by omega, by go_num, hid (by rw [HT1.out, HRP2.out, HTXT.out]; exact HO9.out), HB9⟩
                case measure => simp [intOf]; omega
              · have HTXT : Hid (L7 ++ barT ((nx : Int), (ny : Int)) ++ [10] = L7 ++ [10]) := hid (by rw [bar_no_text hpos, List.append_nil])
                have HN8 := hid (one_new w8 (.cells #[.int .u8 10] 5))
                go_wp2_with (at_builtin; refine wpList_append_own _ rfl _ _ 59 rfl w.heap.size 5 i0 (.int .u8 0) 1 1 Tryd.underlying59 hi hz0 hz1 hz2 rfl (by decide) _ _ _ rfl (Cx.own_stays HO8.out HN8.out.1) ⟨w8.heap.size, 0, none⟩ 1 1 [.int .u8 10] rfl rfl ?b1 ?b2 ?b3 ?b4 ?b5 ?_)
                case b2 => first | rfl | (intro u hu; simp at hu; subst hu; rfl)
                case b3 => have h1 := HL8.out; unfold maxLen; omega
                case b4 => have h1 := HL8.out; omega
                case b5 => have h1 := HB8.out.size; omega
                intro v9 w9 hown9 hgrow9 _
                have HB9 := hid ((HB8.out.trans (HN8.out.1.mono HB8.out.size)).grown hgrow9 (Nat.le_trans HB8.out.size HN8.out.1.size) (Cx.own_ge HO8.out))
                have HO9 := hid (Cx.byte_own (l := L7) (c := 10) hown9)
                clear hown9 hgrow9
                go_wp2_with fail
                go_roundw
                case rel => exact ⟨k + 1, by omega, by go_num, hid (by rw [HT1.out, HRP2.out, HTXT.out]; exact HO9.out), HB9⟩
                case measure => simp [intOf]; omega
            · have HTt : Hid (l.take k = l) := hid (List.take_of_length_le (by have := HN.out; omega))
              rw [HTt.out] at HO HLEN
              have hcv := Cx.conv_own HO.out
              have HTX : Hid ((ByteArray.mk (rows K l).toArray) ++ T = Z) := hid (by
                rw [HZZ.out]
                apply ba_ext
                rw [add_data, HTD.out, bB_data, ← HTAB.out])
              have hz8 : (ByteArray.mk (rows K l).toArray).size ≤ 70368744177664 := by
                have h1 := HLEN.out
                have h2 := HNZ.out.2
                show (rows K l).toArray.size ≤ _
                rw [List.size_toArray]
                omega
              generalize ByteArray.mk (rows K l).toArray = RR at hcv HTX hz8
              go_wp2_with fail
              go_ret2
              exact ⟨by rw [← HTX.out]; rfl, HB.out⟩
    · have hto : tabOk l width = false := by
        unfold tabOk
        rw [hok]
        by_cases h1 : 0 ≤ width
        · rw [decide_eq_true h1, decide_eq_false (fun h2 => hw ⟨h1, h2⟩)]; rfl
        · rw [decide_eq_false h1]; rfl
      have HZ := hid (tab_no hto)
      rw [HZ.out.1, tabN_no hto]
      obtain ⟨n, hnn⟩ : ∃ n, n = l.length := ⟨_, rfl⟩
      rw [← hnn] at HT ⊢
      clear hok HZ hr hnn HR0 hs hz hto
      by_cases h1 : 0 ≤ width
      · have h2 : ¬ width ≤ 1020 := fun h2 => hw ⟨h1, h2⟩
        clear hw
        go_enter Tryd.func12, Tryd.ntmps12
        go_wp2_with fail
        refine HT.out.mono ?_
        rintro e w1 ⟨rfl, hb1⟩
        have HB := hid hb1
        clear hb1
        go_wp2_with fail
        go_ret2
        exact ⟨rfl, HB.out⟩
      · clear hw
        go_enter Tryd.func12, Tryd.ntmps12
        go_wp2_with fail
        refine HT.out.mono ?_
        rintro e w1 ⟨rfl, hb1⟩
        have HB := hid hb1
        clear hb1
        go_wp2_with fail
        go_ret2
        exact ⟨rfl, HB.out⟩
end Go.Proofs.YthnibchlgcgalaaDoor.Sx
