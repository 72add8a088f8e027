/-
  The walk of the program's Table.
-/
import Derived.Test.YtnbonghlmdnabaaDoorB9
namespace Go.Proofs.YtnbonghlmdnabaaDoor.Sx
open Go.RowKit

theorem fresh_builderK (w : World) : Lib.IsBuilder 51 5 w.heap.size w.heap.size [] (w.alloc (.cells #[.pointer none, .slice none 0 0] 51)) :=
  .inl ⟨Nat.le_refl _, .slice none 0 0, heap_alloc_new _ _, World.ownsRow_nil _ _ _ _, by simp [Value.ownBlock]⟩
theorem str_any {B b : Nat} {l : Bs} {w : World} (h : BfAt B b l w) (hB : B ≤ w.heap.size) :
    Calls Tryd.prog 17 #[.pointer (some ⟨b, 0, none⟩)] w fun e w' => e = .returned (.string (bB l)) ∧ Below B w w' := by
  refine (Any.Builder_String_any_k Tryd.lays169 Tryd.Builder_Extra_169 B b l w h hB).mono ?_
  rintro e w' ⟨rfl, _, hb, _⟩
  exact ⟨rfl, hb⟩
/-! ### plain: rows' lengths -/
theorem barT_len {x y : Int} (h0 : 0 ≤ x) (h1 : 0 ≤ y) (h : x + y ≤ 2000) : (barT (x, y)).length ≤ 2001 := by
  unfold barT
  split
  · simp only [List.length_append, rep_len, List.length_cons, List.length_nil]
    omega
  · simp
theorem row_len {k : Cols} {c : Ct} (ho : OkB c.a c.d k.bar k.most) (hq : (q c).length ≤ k.name) (hd : (dec (c.a + c.d)).length ≤ k.number) (hkn : k.number ≤ 21) (hkb : k.bar ≤ 2000) : (row k c).length ≤ k.name + 2100 := by
  have hb := bar_ok ho
  have ht := barT_len (x := (bar c.a c.d k.bar k.most).1) (y := (bar c.a c.d k.bar k.most).2) hb.1 hb.2.1 (by omega)
  unfold row
  simp only [List.length_append, rep_len, List.length_cons, List.length_nil]
  have e : barT (bar c.a c.d k.bar k.most) = barT ((bar c.a c.d k.bar k.most).1, (bar c.a c.d k.bar k.most).2) := rfl
  rw [e]
  omega
theorem rows_len {k : Cols} : ∀ {l : List Ct}, (∀ c ∈ l, (row k c).length ≤ k.name + 2100) → (rows k l).length ≤ l.length * (k.name + 2100)
  | [], _ => by simp [rows]
  | c :: l, h => by
    have h1 := h c (List.mem_cons_self ..)
    have h2 := rows_len (l := l) fun x hx => h x (List.mem_cons_of_mem _ hx)
    have e : rows k (c :: l) = row k c ++ rows k l := by unfold rows; simp
    rw [e, List.length_append, List.length_cons, Nat.add_mul]
    omega
theorem cols_num (l : List Ct) (h : l.all okC = true) : (dec (mostL l)).length ≤ 21 := by
  have := mostL_bound h
  exact dec_len (by omega) (by omega)
theorem cols_ok {l : List Ct} {width : Int} (h : l.all okC = true) (hw : 0 ≤ width ∧ width ≤ 1020) {c : Ct} (hc : c ∈ l) :
    OkB c.a c.d (colsOf l width).bar (colsOf l width).most ∧ (q c).length ≤ (colsOf l width).name ∧ (dec (c.a + c.d)).length ≤ (colsOf l width).number ∧ (colsOf l width).number ≤ 21 ∧ (colsOf l width).bar ≤ 2000 := by
  have h1 := okC_iff.1 (List.all_eq_true.1 h c hc)
  have h2 := mostL_bound h
  have h3 := mostL_mem hc
  have h4 := cols_num l h
  unfold colsOf
  refine ⟨⟨h1.1.1, h1.1.2, h1.2.1, h1.2.2, ?_, ?_, h3, h2.2⟩, nameW_mem hc, dec_mono (by omega) h3, h4, ?_⟩ <;> simp only <;> omega
def tabOk (l : List Ct) (width : Int) : Bool := okL l && decide (0 ≤ width) && decide (width ≤ 1020)
/-- Table's answer -/
def tabS (l : List Ct) (width : Int) : ByteArray := if tabOk l width = true then bB (table l width) else ⟨#[]⟩
def tabE (l : List Ct) (width : Int) : Value := if tabOk l width = true then .nilIface else .iface 57 (.int .i64 1)
theorem tab_no {l : List Ct} {width : Int} (h : tabOk l width = false) : tabS l width = ⟨#[]⟩ ∧ tabE l width = .iface 57 (.int .i64 1) := by
  unfold tabS tabE
  rw [h]
  exact ⟨rfl, rfl⟩
theorem tab_yes {l : List Ct} {width : Int} (h : tabOk l width = true) : tabS l width = bB (table l width) ∧ tabE l width = .nilIface := by
  unfold tabS tabE
  rw [h]
  exact ⟨rfl, rfl⟩
theorem total_len {l : List Ct} (h : okL l = true) : (total l).length ≤ 400 := by
  have hb := okL_iff.1 h
  have hA := okN_iff.1 hb.2.2.1
  have hD := okN_iff.1 hb.2.2.2
  have c0 := cnt_len (n := (l.length : Int)) tFile tChanged (by omega) (by have := hb.1; omega)
  have c1 := cnt_len (n := sumA l) tIns tPlus (by omega) (by omega)
  have c2 := cnt_len (n := sumD l) tDel tMinus (by omega) (by omega)
  have e0 : tFile.length + tChanged.length = 12 := rfl
  have e1 : tIns.length + tPlus.length = 12 := rfl
  have e2 : tDel.length + tMinus.length = 11 := rfl
  unfold total
  split <;> split <;> simp only [List.length_append, List.length_cons, List.length_nil] <;> omega
set_option maxHeartbeats 4000000 in
theorem table_any {w : World} {v : Value} {l : List Ct} (width : Int) (hr : RdK w v l) (hn : l.length ≤ 1099511627776) (hp : PowK w) (hs : ∀ x ∈ l, x.nm.size ≤ 35184371999999) (hz : okL l = true → l.length * (nameW l + 2100) + nameW l ≤ 70368744177664) (hwi : I64 width) :
    Calls Tryd.prog 21 #[v, .int .i64 width] w fun e w' => e = .returned (.tuple #[.string (tabS l width), tabE l width]) ∧ Below w.heap.size w w' := by
  have HT := hid (total_any hr hn hp)
  have HR0 := hid hr
  obtain ⟨a, c, rfl⟩ := hr.shape
  cases hok : okL l with
  | false =>
    have HZ := hid (tab_no (l := l) (width := width) (by unfold tabOk; rw [hok]; rfl))
    rw [HZ.out.1, HZ.out.2]
    rw [tot_no hok, (all_no hok).2] at HT
    obtain ⟨n, hnn⟩ : ∃ n, n = l.length := ⟨_, rfl⟩
    rw [← hnn] at HT ⊢
    clear hok HZ hr hnn hp HR0 hs hz
    go_enter Tryd.func21, Tryd.ntmps21
    go_wp2_with fail
    refine HT.out.mono ?_
    rintro e w1 ⟨rfl, hb1⟩
    have HB := hid hb1
    clear hb1
    go_wp2_with fail
    go_ret2
    exact ⟨rfl, HB.out⟩
  | true =>
    rw [tot_yes hok, (all_yes hok).2] at HT
    unfold I64 at hwi
    by_cases hw : 0 ≤ width ∧ width ≤ 1020
    · have HZ := hid (tab_yes (l := l) (width := width) (by unfold tabOk; rw [hok, decide_eq_true hw.1, decide_eq_true hw.2]; rfl))
      rw [HZ.out.1, HZ.out.2]
      have hall := (okL_iff.1 hok).2.1
      have hlen := (okL_iff.1 hok).1
      have htl := total_len hok
      have hz' := hz hok
      have HQ := hid (fun (w' : World) (hb : Below w.heap.size w w') => quoted_any (RdX.below hr hb) hlen hs)
      have HTD : Hid ((bB (total l)).data.toList = total l) := hid (bB_data _)
      have hTs : (bB (total l)).size ≤ 400 := by rw [bB_size]; exact htl
      have HTAB : Hid (rows (colsOf l width) l ++ total l = table l width) := hid rfl
      have HALL := hid hall
      have HCO := hid (fun c (hc : c ∈ l) => cols_ok hall hw hc)
      have HP := hid hp
      have HNZ : Hid ((colsOf l width).name = nameW l ∧ l.length * (nameW l + 2100) + nameW l ≤ 70368744177664) := hid ⟨rfl, hz'⟩
      have HC := hid (fun (w' : World) (u : Value) (hb : Below w.heap.size w w') (hu : RdT w' u (l.map qB)) => columnsOf_any width (RdX.below hr hb) hu hlen hall (by omega) hw (hp.later hb))
      have HLW := hid (fun x (hx : x ∈ l) => HCO.out x hx)
      obtain ⟨n, hnn⟩ : ∃ n, n = l.length := ⟨_, rfl⟩
      have HN := hid hnn
      have HM : Hid ((l.map qB).length = n) := hid (by rw [List.length_map, hnn])
      rw [← hnn] at HT HQ HNZ HC HR0 hlen ⊢
      obtain ⟨K, hK⟩ : ∃ K, K = colsOf l width := ⟨_, rfl⟩
      rw [← hK] at HTAB HCO HNZ HC
      obtain ⟨T, hT⟩ : ∃ T, T = bB (total l) := ⟨_, rfl⟩
      rw [← hT] at HT HTD hTs
      obtain ⟨Z, hZZ⟩ : ∃ Z, Z = bB (table l width) := ⟨_, rfl⟩
      have HZZ := hid hZZ
      rw [← hZZ]
      clear hok HZ hr hnn hp hs hz hz' hall htl hK hT hZZ HLW hn
      go_enter Tryd.func21, Tryd.ntmps21
      go_wp2_with fail
      refine HT.out.mono ?_
      rintro e w1 ⟨rfl, hb1⟩
      have HB1 := hid hb1
      clear hb1 HT
      go_wp2_with fail
      refine (HQ.out w1 HB1.out).mono ?_
      rintro e w2 ⟨u, rfl, hO2, hb2⟩
      obtain ⟨a2, c2, e2⟩ := own_shape hO2
      rw [HM.out] at e2
      subst e2
      have HB2 := hid (HB1.out.trans (hb2.mono HB1.out.size))
      have HU2 : Hid (RdX w2 (.slice a2 n c2) n (stC (l.map qB))) := hid (by have := own_rd hO2; rw [HM.out] at this; exact this)
      clear hO2 hb2 HQ HB1
      go_wp2_with fail
      refine (HC.out w2 _ HB2.out (by have := HU2.out; unfold RdT; rw [HM.out]; exact this)).mono ?_
      rintro e w3 ⟨rfl, hb3⟩
      unfold colsV
      have HB3 := hid (HB2.out.trans (hb3.mono HB2.out.size))
      have HU3 : Hid (RdX w3 (.slice a2 n c2) n (stC (l.map qB))) := hid (RdX.below HU2.out hb3)
      have HNA := hid (one_new w3 (clO K.name K.number K.bar K.most))
      have HF := hid (Lib.IsBuilderF.of (fresh_builderK (w3.alloc (clO K.name K.number K.bar K.most))))
      have HNB := hid (one_new (w3.alloc (clO K.name K.number K.bar K.most)) (.cells #[.pointer none, .slice none 0 0] 51))
      clear hb3 HB2 HU2 HC
      go_wp2_with fail
      have hs4 : (w3.alloc (clO K.name K.number K.bar K.most)).heap.size = w3.heap.size + 1 := by simp
      rw [hs4] at HF HNB
      have HB5 : Hid (Below w.heap.size w ((w3.alloc (clO K.name K.number K.bar K.most)).alloc (.cells #[.pointer none, .slice none 0 0] 51))) := hid (HB3.out.trans ((HNA.out.1.trans (HNB.out.1.mono (Nat.le_succ _))).mono HB3.out.size))
      have HK5 : Hid (((w3.alloc (clO K.name K.number K.bar K.most)).alloc (.cells #[.pointer none, .slice none 0 0] 51)).heap[w3.heap.size]? = some (clO K.name K.number K.bar K.most)) := hid ((HNB.out.1.block _ (Nat.lt_succ_self _)).trans HNA.out.2)
      have HU5 : Hid (RdX ((w3.alloc (clO K.name K.number K.bar K.most)).alloc (.cells #[.pointer none, .slice none 0 0] 51)) (.slice a2 n c2) n (stC (l.map qB))) := hid (RdX.below HU3.out (HNA.out.1.trans (HNB.out.1.mono (Nat.le_succ _))))
      have HUU : Hid (Under (w3.heap.size + 1) (.slice a2 n c2)) := hid ((RdX.under HU3.out).mono (Nat.le_succ _))
      have HA5 : Hid (BfAt (w3.heap.size + 1) (w3.heap.size + 1) [] ((w3.alloc (clO K.name K.number K.bar K.most)).alloc (.cells #[.pointer none, .slice none 0 0] 51))) := HF
      have HCG : Hid (w.heap.size ≤ w3.heap.size + 1 ∧ w3.heap.size + 1 ≤ ((w3.alloc (clO K.name K.number K.bar K.most)).alloc (.cells #[.pointer none, .slice none 0 0] 51)).heap.size) := hid ⟨Nat.le_trans HB3.out.size (Nat.le_succ _), by have := HNB.out.1.size; rw [hs4] at this; exact this⟩
      clear HF HNB HNA HB3 HU3 hs4
      generalize (w3.alloc (.cells #[.int .i64 (K.name : Int), .int .i64 (K.number : Int), .int .i64 K.bar, .int .i64 K.most] 84)).alloc (.cells #[.pointer none, .slice none 0 0] 51) = w5 at HB5 HK5 HU5 HA5 HCG ⊢
      obtain ⟨C, hC⟩ : ∃ C, C = w3.heap.size := ⟨_, rfl⟩
      rw [← hC] at HK5 HUU HA5 HCG ⊢
      clear hC
      go_loopw [36] (fun i wr => ∃ k : Nat, k ≤ n ∧ i = .int .i64 k ∧ Hid (BfAt (C + 1) (C + 1) (rows K (l.take k)) wr) ∧ Hid (Below (C + 1) w5 wr)) (fun i _ => n - (intOf i).toNat)
      case atStart => exact ⟨0, Nat.zero_le _, rfl, HA5, hid (Below.refl _ _)⟩
      case round =>
        obtain ⟨k, hk, rfl, HA, HBW⟩ := hrel
        clear HA5
        have HLEN : Hid ((rows K (l.take k)).length ≤ n * (nameW l + 2100)) := hid (by
          have h1 : (rows K (l.take k)).length ≤ (l.take k).length * (K.name + 2100) := rows_len fun c hc => by
            have h2 := HCO.out c (List.mem_of_mem_take hc)
            exact row_len h2.1 h2.2.1 h2.2.2.1 h2.2.2.2.1 h2.2.2.2.2
          rw [HNZ.out.1] at h1
          refine Nat.le_trans h1 (Nat.mul_le_mul_right _ ?_)
          rw [List.length_take]
          omega)
        have HB0 : Hid (Below w.heap.size w wr) := hid (HB5.out.trans (HBW.out.mono HCG.out.1))
        have HSZ : Hid (C + 1 ≤ wr.heap.size) := hid (Nat.le_trans HCG.out.2 HBW.out.size)
        by_cases hlt : k < n
        · obtain ⟨x, hx⟩ : ∃ x, l[k]? = some x := ⟨_, List.getElem?_eq_getElem (by have := HN.out; omega)⟩
          have hxl := List.mem_of_getElem? hx
          obtain ⟨b1, o1, e1, hb1, d0, d1, d2⟩ := rdK_at (by have := RdX.below HR0.out HB0.out; exact this) hx
          obtain ⟨b2, o2, e2, hb2, g0⟩ := rdT_at (l := l.map qB) (by unfold RdT; rw [HM.out]; exact RdX.keep HU5.out HUU.out HBW.out) (k := k) (x := qB x) (by rw [List.getElem?_map, hx]; rfl)
          subst e1 e2
          have HT1 := hid (rows_take (k := K) hx)
          have HX := hid (HCO.out x hxl)
          have HNB := hid (one_new wr (ctO x.nm x.a x.d))
          have HKr : Hid (wr.heap[C]? = some (clO K.name K.number K.bar K.most)) := hid ((HBW.out.block C (Nat.lt_succ_self _)).trans HK5.out)
          have HK6 : Hid ((wr.alloc (ctO x.nm x.a x.d)).heap[C]? = some (clO K.name K.number K.bar K.most)) := hid ((HNB.out.1.block C (lt_of_heap HKr.out)).trans HKr.out)
          have HG6 : Hid ((wr.alloc (ctO x.nm x.a x.d)).cell? ⟨b2, o2 + k, none⟩ = some (.string (qB x))) := hid ((HNB.out.1.cell (p := ⟨b2, o2 + k, none⟩) hb2).trans g0)
          have HA6 := hid (HA.out.below HNB.out.1)
          have HB6 := hid (HBW.out.trans (HNB.out.1.mono HSZ.out))
          have HS6 : Hid (C + 1 ≤ (wr.alloc (ctO x.nm x.a x.d)).heap.size) := hid (Nat.le_trans HSZ.out HNB.out.1.size)
          have i1 : (0 : Int) ≤ (k : Int) := by omega
          have i2 : (k : Int) < (n : Int) := by omega
          clear hx hxl hb1 hb2 g0 HA HKr
          go_wp2_with fail
          obtain ⟨E, hE⟩ : ∃ E, E = wr.heap.size := ⟨_, rfl⟩
          rw [← hE]
          rw [← hE] at HNB
          clear hE
          have HE6 := hid HNB.out.2
          clear HNB d0 d1 d2
          generalize wr.alloc (.cells #[.string x.nm, .int .i64 x.a, .int .i64 x.d] 38) = w6 at HK6 HG6 HA6 HB6 HS6 HE6 ⊢
          have g0 := HG6.out
          have y0 : w6.cell? ⟨C, 0, none⟩ = some (.int .i64 (K.name : Int)) := cell_of_blk HK6.out 0
          have y1 : w6.cell? ⟨C, 1, none⟩ = some (.int .i64 (K.number : Int)) := cell_of_blk HK6.out 1
          have y2 : w6.cell? ⟨C, 2, none⟩ = some (.int .i64 K.bar) := cell_of_blk HK6.out 2
          have y3 : w6.cell? ⟨C, 3, none⟩ = some (.int .i64 K.most) := cell_of_blk HK6.out 3
          have z0 : w6.cell? ⟨E, 0, none⟩ = some (.string x.nm) := cell_of_blk HE6.out 0
          have z1 : w6.cell? ⟨E, 1, none⟩ = some (.int .i64 x.a) := cell_of_blk HE6.out 1
          have z2 : w6.cell? ⟨E, 2, none⟩ = some (.int .i64 x.d) := cell_of_blk HE6.out 2
          refine wp_region_qtail 6 (by kernel_rfl) (by kernel_rfl) ?_
          simp only [List.take_succ_cons, List.take_zero, List.drop_succ_cons, List.drop_zero]
          repeat go_big_quiet_step (fail)
          refine wpQuiet_nil ?_
          have HD7 : Hid (Below w6.heap.size w6 (w6.drewN 1)) := hid (below_drewN (Below.refl _ _) 1)
          have HA7 := hid (HA6.out.below HD7.out)
          have HB7 := hid (HB6.out.trans (HD7.out.mono HS6.out))
          have HS7 := hid (Nat.le_trans HS6.out HD7.out.size)
          generalize w6.drewN 1 = w7 at HA7 HB7 HS7 ⊢
          have HP7 : Hid (PowK w7) := hid (HP.out.later (HB5.out.trans (HB7.out.mono HCG.out.1)))
          have HW := hid (writeRow_any K x HA7.out HS7.out HP7.out HX.out.1 HX.out.2.1 HX.out.2.2.1 HX.out.2.2.2.1 HX.out.2.2.2.2 (by have := HLEN.out; have h1 := HNZ.out.1; have h2 := HNZ.out.2; omega))
          unfold colsV CtV at HW
          rw [← HT1.out] at HW
          clear g0 y0 y1 y2 y3 z0 z1 z2 HD7 HA6 HB6 HS6 HK6 HG6 HE6 HX
          go_wp2_with fail
          refine HW.out.mono ?_
          rintro e w8 ⟨rfl, hA8, hF8⟩
          have HA8 := hid hA8
          have HB8 := hid (HB7.out.trans hF8.below)
          clear hA8 hF8 HW HB7 HA7
          go_wp2_with fail
          go_roundw
          case rel => exact ⟨k + 1, by omega, by go_num, HA8, HB8⟩
          case measure => simp [intOf]; omega
        · have HT1 : Hid (l.take k = l) := hid (List.take_of_length_le (by have := HN.out; omega))
          rw [HT1.out] at HA HLEN
          have HW := hid (ws_any T HA.out (by have := HLEN.out; have h2 := HNZ.out.2; omega) HSZ.out)
          go_wp2_with fail
          refine HW.out.mono ?_
          rintro e w8 ⟨rfl, hA8, hF8⟩
          have HS := hid (str_any hA8 (Nat.le_trans HSZ.out hF8.below.size))
          have HB8 := hid (HB0.out.trans (hF8.below.mono HCG.out.1))
          rw [HTD.out, HTAB.out, ← HZZ.out] at HS
          clear hA8 hF8 HW
          go_wp2_with fail
          refine HS.out.mono ?_
          rintro e w9 ⟨rfl, hb9⟩
          have HB9 := hid (HB8.out.trans (hb9.mono HCG.out.1))
          clear hb9 HS
          go_wp2_with fail
          go_ret2
          exact ⟨rfl, HB9.out⟩
    · have HZ := hid (tab_no (l := l) (width := width) (by
        unfold tabOk
        rw [hok]
        by_cases h1 : 0 ≤ width
        · rw [decide_eq_true h1, decide_eq_false (fun h2 => hw ⟨h1, h2⟩)]; rfl
        · rw [decide_eq_false h1]; rfl))
      rw [HZ.out.1, HZ.out.2]
      obtain ⟨n, hnn⟩ : ∃ n, n = l.length := ⟨_, rfl⟩
      rw [← hnn] at HT ⊢
      clear hok HZ hr hnn hp HR0 hs hz
      by_cases h1 : 0 ≤ width
      · have h2 : ¬ width ≤ 1020 := fun h2 => hw ⟨h1, h2⟩
        clear hw
        go_enter Tryd.func21, Tryd.ntmps21
        go_wp2_with fail
        refine HT.out.mono ?_
        rintro e w1 ⟨rfl, hb1⟩
        have HB := hid hb1
        clear hb1
        go_wp2_with fail
        go_ret2
        exact ⟨rfl, HB.out⟩
      · clear hw
        go_enter Tryd.func21, Tryd.ntmps21
        go_wp2_with fail
        refine HT.out.mono ?_
        rintro e w1 ⟨rfl, hb1⟩
        have HB := hid hb1
        clear hb1
        go_wp2_with fail
        go_ret2
        exact ⟨rfl, HB.out⟩
end Go.Proofs.YtnbonghlmdnabaaDoor.Sx
