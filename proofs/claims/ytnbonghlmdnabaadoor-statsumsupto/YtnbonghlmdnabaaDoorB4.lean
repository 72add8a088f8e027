/-
  The walk of the program's inAll.
-/
import Derived.Test.YtnbonghlmdnabaaDoorB3
namespace Go.Proofs.YtnbonghlmdnabaaDoor.Sx
open Go.RowKit

theorem results_ct2 {fn : Func} {t u : Nat} {tmps : Array Value} {W : World} {g : Nat} {cs : Array Value} (h : fn.results = #[.cell t 38, .tmp u]) (hx : tmps.getD t undef = .pointer (some ⟨g, 0, none⟩)) (hg : W.heap[g]? = some (.cells cs 38)) (hs : cs.size = 3) :
    (results fn tmps).run Tryd.prog W = .ok (.tuple #[.agg cs, tmps.getD u undef]) W := by
  have hl : (loadVar 38 ⟨g, 0, none⟩).run Tryd.prog W = .ok (.agg cs) W := run_loadVar_row W g _ _ _ _ _ hg Tryd.underlying38 rfl (by rw [ct_size, hs])
  have hx' : tmps[t]?.getD undef = .pointer (some ⟨g, 0, none⟩) := by rw [← Array.getD_eq_getD_getElem?]; exact hx
  simp [results, h, hx', hl, asAddr]
/-- what all come to: the sums, or the error -/
def allV (l : List Ct) : Value := if okL l = true then CtV ⟨⟨#[]⟩, sumA l, sumD l⟩ else CtV ⟨⟨#[]⟩, 0, 0⟩
def allE (l : List Ct) : Value := if okL l = true then .nilIface else .iface 57 (.int .i64 1)
theorem all_no {l : List Ct} (h : okL l = false) : allV l = .agg #[.string ⟨#[]⟩, .int .i64 0, .int .i64 0] ∧ allE l = .iface 57 (.int .i64 1) := by
  unfold allV allE
  rw [h]
  exact ⟨rfl, rfl⟩
theorem all_yes {l : List Ct} (h : okL l = true) : allV l = .agg #[.string ⟨#[]⟩, .int .i64 (sumA l), .int .i64 (sumD l)] ∧ allE l = .nilIface := by
  unfold allV allE
  rw [h]
  exact ⟨rfl, rfl⟩
theorem okL_end {l : List Ct} (hl : l.length ≤ 65536) (ha : l.all okC = true) : okL l = okC ⟨⟨#[]⟩, sumA l, sumD l⟩ := by
  unfold okL
  rw [decide_eq_true hl, ha]
  unfold okC
  simp
theorem below_set {B g k : Nat} {w w' : World} {u : Value} (h : Below B w w') (hg : B ≤ g) : Below B w (w'.setCell ⟨g, k, none⟩ u) := h.setCell hg _
theorem kept_below {B g : Nat} {w w' w2 : World} (h : Below B w w') (hk : Kept (fun j => j = g) w' w2) (hg : B ≤ g) (hl : g < w'.heap.size) : Below B w w2 :=
  h.trans (hk.below (fun j hj => by omega) (by omega))
abbrev ctO (n : ByteArray) (a d : Int) : Obj := .cells #[.string n, .int .i64 a, .int .i64 d] 38
theorem two_new (w : World) (A B : Obj) : Below w.heap.size w ((w.alloc A).alloc B) ∧ ((w.alloc A).alloc B).heap[w.heap.size]? = some A ∧ ((w.alloc A).alloc B).heap[w.heap.size + 1]? = some B := by
  refine ⟨((Below.refl _ _).alloc (Nat.le_refl _) _).alloc (by simp) _, ?_, ?_⟩
  · have hb := (Below.refl (w.alloc A).heap.size (w.alloc A)).alloc (Nat.le_refl _) B
    rw [hb.block _ (by simp)]
    exact heap_alloc_new w A
  · have := heap_alloc_new (w.alloc A) B
    simpa using this
set_option maxHeartbeats 4000000 in
theorem inAll_any {w : World} {v : Value} {l : List Ct} (hr : RdK w v l) (hn : l.length ≤ 1099511627776) :
    Calls Tryd.prog 11 #[v] w fun e w' => e = .returned (.tuple #[allV l, allE l]) ∧ Below w.heap.size w w' := by
  obtain ⟨a, c, rfl⟩ := hr.shape
  by_cases hlong : l.length ≤ 65536
  · obtain ⟨n, hnn⟩ : ∃ n, n = l.length := ⟨_, rfl⟩
    have HR := hid hr
    have HN := hid hnn
    have HL := hid hlong
    rw [← hnn] at HR HL hn ⊢
    have hn' : (n : Int) ≤ 65536 := by omega
    have H2 := hid (two_new w (ctO ⟨#[]⟩ 0 0) (ctO ⟨#[]⟩ 0 0))
    obtain ⟨G, hG⟩ : ∃ G, G = w.heap.size := ⟨_, rfl⟩
    have HG := hid hG
    clear hr hnn hlong
    go_enter Tryd.func11, Tryd.ntmps11
    go_wp2_with fail
    rw [← hG] at H2 ⊢
    clear hG
    generalize (w.alloc (.cells #[.string ⟨#[]⟩, .int .i64 0, .int .i64 0] 38)).alloc (.cells #[.string ⟨#[]⟩, .int .i64 0, .int .i64 0] 38) = w0 at H2 ⊢
    go_loopw [15] (fun i wr => ∃ k : Nat, k ≤ n ∧ i = .int .i64 k ∧ Hid ((l.take k).all okC = true) ∧ Hid (wr.heap[G]? = some (ctO ⟨#[]⟩ 0 0)) ∧ Hid (wr.heap[G + 1]? = some (ctO ⟨#[]⟩ (sumA (l.take k)) (sumD (l.take k)))) ∧ Hid (Below G w wr)) (fun i _ => n - (intOf i).toNat)
    case atStart => exact ⟨0, Nat.zero_le _, rfl, hid (by rw [List.take_zero]; rfl), hid H2.out.2.1, hid H2.out.2.2, hid H2.out.1⟩
    case round =>
      obtain ⟨k, hk, rfl, HA, HK0, HK1, HB⟩ := hrel
      clear H2
      by_cases hlt : k < n
      · obtain ⟨x, hx⟩ : ∃ x, l[k]? = some x := ⟨_, List.getElem?_eq_getElem (by have := HN.out; omega)⟩
        have hr2 : RdK wr (.slice a n c) l := RdX.below HR.out (by have := HB.out; rw [HG.out] at this; exact this)
        obtain ⟨b1, o1, e1, hb1, d0, d1, d2⟩ := rdK_at hr2 hx
        subst e1
        have hbd := sum_bound HA.out
        have hkl : (l.take k).length = k := by rw [List.length_take]; have := HN.out; omega
        rw [hkl] at hbd
        have HSA := hid (sumA_take hx)
        have HSD := hid (sumD_take hx)
        have HX := hid hx
        have HLT : Hid (G + 1 < wr.heap.size) := hid (lt_of_heap HK1.out)
        obtain ⟨sA, hsA⟩ : ∃ s, s = sumA (l.take k) := ⟨_, rfl⟩
        obtain ⟨sD, hsD⟩ : ∃ s, s = sumD (l.take k) := ⟨_, rfl⟩
        rw [← hsA, ← hsD] at hbd HK1
        rw [← hsA] at HSA
        rw [← hsD] at HSD
        have i1 : (0 : Int) ≤ (k : Int) := by omega
        have i2 : (k : Int) < (n : Int) := by omega
        obtain ⟨E, hE⟩ : ∃ E, E = wr.heap.size := ⟨_, rfl⟩
        have HE := hid hE
        have HI := hid (ctIs_any x (wr.alloc (ctO x.nm x.a x.d)))
        have HNB := hid ((Below.refl wr.heap.size wr).alloc (Nat.le_refl _) (ctO x.nm x.a x.d))
        have HNK := hid (heap_alloc_new wr (ctO x.nm x.a x.d))
        unfold CtV at HI
        clear hx hr2 hkl hsA hsD hb1
        cases hok : okC x with
        | false =>
          have HZ := hid (all_no (okL_no HX.out hok))
          rw [hok] at HI
          clear hok hbd HSA HSD
          go_wp2_with fail
          rw [← hE]
          rw [← hE] at HNK
          clear hE
          generalize wr.alloc (.cells #[.string x.nm, .int .i64 x.a, .int .i64 x.d] 38) = w1 at HI HNB HNK ⊢
          refine HI.out.mono ?_
          rintro e w2 ⟨rfl, hb2⟩
          have HB2 := hid (HB.out.trans ((HNB.out.trans (hb2.mono HNB.out.size)).mono (by have := HLT.out; omega)))
          have HK2 : Hid (w2.heap[G]? = some (ctO ⟨#[]⟩ 0 0)) := hid (((HNB.out.trans (hb2.mono HNB.out.size)).block G (by have := HLT.out; omega)).trans HK0.out)
          clear hb2 HI HNB
          go_wp2_with (guard_target =~ wpList _ _ _ (_ :: _) _ _; refine wpList_stK 38 #[.string ⟨#[]⟩, .int .i64 0, .int .i64 0] rfl rfl HK2.out ct_size rfl rfl rfl rfl ?_; intro w3 hk3 hkp3; have HK3 := hid hk3; have HB3 := hid (kept_below HB2.out hkp3 (Nat.le_refl _) (lt_of_heap HK2.out)); clear hk3 hkp3)
          exact bodyPost_ret (results_ct2 Tryd.results11 rfl HK3.out rfl) rfl ⟨by first | (rw [HZ.out.1, HZ.out.2]; done) | (rw [HZ.out.1, HZ.out.2]; rfl), by have := HB3.out; rw [HG.out] at this; exact this⟩
        | true =>
          rw [hok] at HI
          have hxb := okC_iff.1 hok
          have HA2 := hid (all_take HX.out HA.out hok)
          clear hok
          go_wp2_with fail
          rw [← hE]
          rw [← hE] at HNK
          clear hE
          generalize wr.alloc (.cells #[.string x.nm, .int .i64 x.a, .int .i64 x.d] 38) = w1 at HI HNB HNK ⊢
          refine HI.out.mono ?_
          rintro e w2 ⟨rfl, hb2⟩
          have HB2 := hid (HB.out.trans ((HNB.out.trans (hb2.mono HNB.out.size)).mono (by have := HLT.out; omega)))
          have HK2 : Hid (w2.heap[G]? = some (ctO ⟨#[]⟩ 0 0)) := hid (((HNB.out.trans (hb2.mono HNB.out.size)).block G (by have := HLT.out; omega)).trans HK0.out)
          have hk21 : w2.heap[G + 1]? = some (ctO ⟨#[]⟩ sA sD) := (((HNB.out.trans (hb2.mono HNB.out.size)).block (G + 1) HLT.out).trans HK1.out)
          have hk2e : w2.heap[E]? = some (ctO x.nm x.a x.d) := (hb2.block E (lt_of_heap HNK.out)).trans HNK.out
          have y0 : w2.cell? ⟨G + 1, 0, none⟩ = some (.string ⟨#[]⟩) := cell_of_blk hk21 0
          have y1 : w2.cell? ⟨G + 1, 1, none⟩ = some (.int .i64 sA) := cell_of_blk hk21 1
          have y2 : w2.cell? ⟨G + 1, 2, none⟩ = some (.int .i64 sD) := cell_of_blk hk21 2
          have z0 : w2.cell? ⟨E, 0, none⟩ = some (.string x.nm) := cell_of_blk hk2e 0
          have z1 : w2.cell? ⟨E, 1, none⟩ = some (.int .i64 x.a) := cell_of_blk hk2e 1
          have z2 : w2.cell? ⟨E, 2, none⟩ = some (.int .i64 x.d) := cell_of_blk hk2e 2
          have HK21 := hid hk21
          have HP := hid (ctPlus_any ⟨⟨#[]⟩, sA, sD⟩ x w2 ⟨by show -9223372036854775808 ≤ sA + x.a; omega, by show sA + x.a ≤ 9223372036854775807; omega⟩ ⟨by show -9223372036854775808 ≤ sD + x.d; omega, by show sD + x.d ≤ 9223372036854775807; omega⟩)
          unfold CtV at HP
          simp only at HP
          rw [← HSA.out, ← HSD.out] at HP
          obtain ⟨tA, htA⟩ : ∃ s, s = sumA (l.take (k + 1)) := ⟨_, rfl⟩
          obtain ⟨tD, htD⟩ : ∃ s, s = sumD (l.take (k + 1)) := ⟨_, rfl⟩
          have HTA := hid htA
          have HTD := hid htD
          rw [← htA, ← htD] at HP
          clear hb2 HI HNB hk21 hk2e hbd hxb HSA HSD htA htD
          go_wp2_with fail
          refine HP.out.mono ?_
          rintro e w3 ⟨rfl, hb3⟩
          have HB3 := hid (HB2.out.trans (hb3.mono (Nat.le_of_lt (lt_of_heap HK2.out))))
          have HK3 : Hid (w3.heap[G]? = some (ctO ⟨#[]⟩ 0 0)) := hid ((hb3.block G (lt_of_heap HK2.out)).trans HK2.out)
          have HK31 : Hid (w3.heap[G + 1]? = some (ctO ⟨#[]⟩ sA sD)) := hid ((hb3.block (G + 1) (lt_of_heap HK21.out)).trans HK21.out)
          clear hb3 HP y0 y1 y2 z0 z1 z2
          go_wp2_with (guard_target =~ wpList _ _ _ (_ :: _) _ _; refine wpList_stK 38 #[.string ⟨#[]⟩, .int .i64 tA, .int .i64 tD] rfl rfl HK31.out ct_size rfl rfl rfl rfl ?_; intro w4 hk4 hkp4; have HK41 := hid hk4; have HB4 := hid (kept_below HB3.out hkp4 (Nat.le_succ _) (lt_of_heap HK31.out)); have HK4 : Hid (w4.heap[G]? = some (ctO ⟨#[]⟩ 0 0)) := hid ((hkp4.block G (lt_of_heap HK3.out) (by omega)).trans HK3.out); clear hk4 hkp4)
          go_roundw
          case rel => exact ⟨k + 1, by omega, by go_num, HA2, HK4, by rw [← HTA.out, ← HTD.out]; exact HK41, HB4⟩
          case measure => simp [intOf]; omega
      · have hkn : k = n := by omega
        have HT : Hid (l.take k = l) := hid (List.take_of_length_le (by have := HN.out; omega))
        rw [HT.out] at HA HK1
        have HO := hid (okL_end (by have := HN.out; have := HL.out; omega) HA.out)
        have hk1 := HK1.out
        have y0 : wr.cell? ⟨G + 1, 0, none⟩ = some (.string ⟨#[]⟩) := cell_of_blk hk1 0
        have y1 : wr.cell? ⟨G + 1, 1, none⟩ = some (.int .i64 (sumA l)) := cell_of_blk hk1 1
        have y2 : wr.cell? ⟨G + 1, 2, none⟩ = some (.int .i64 (sumD l)) := cell_of_blk hk1 2
        have HI := hid (ctIs_any ⟨⟨#[]⟩, sumA l, sumD l⟩ wr)
        unfold CtV at HI
        simp only at HI
        cases hok : okC ⟨⟨#[]⟩, sumA l, sumD l⟩ with
        | false =>
          have HZ := hid (all_no (HO.out.trans hok))
          rw [hok] at HI
          clear hok hk1 HO hkn
          generalize sumA l = tA at *
          generalize sumD l = tD at *
          go_wp2_with fail
          refine HI.out.mono ?_
          rintro e w2 ⟨rfl, hb2⟩
          have HB2 := hid (HB.out.trans (hb2.mono (Nat.le_of_lt (lt_of_heap HK0.out))))
          have HK2 : Hid (w2.heap[G]? = some (ctO ⟨#[]⟩ 0 0)) := hid ((hb2.block G (lt_of_heap HK0.out)).trans HK0.out)
          clear hb2 HI
          go_wp2_with (guard_target =~ wpList _ _ _ (_ :: _) _ _; refine wpList_stK 38 #[.string ⟨#[]⟩, .int .i64 0, .int .i64 0] rfl rfl HK2.out ct_size rfl rfl rfl rfl ?_; intro w3 hk3 hkp3; have HK3 := hid hk3; have HB3 := hid (kept_below HB2.out hkp3 (Nat.le_refl _) (lt_of_heap HK2.out)); clear hk3 hkp3)
          exact bodyPost_ret (results_ct2 Tryd.results11 rfl HK3.out rfl) rfl ⟨by first | (rw [HZ.out.1, HZ.out.2]; done) | (rw [HZ.out.1, HZ.out.2]; rfl), by have := HB3.out; rw [HG.out] at this; exact this⟩
        | true =>
          have HZ := hid (all_yes (HO.out.trans hok))
          rw [hok] at HI
          clear hok hk1 HO hkn
          generalize sumA l = tA at *
          generalize sumD l = tD at *
          go_wp2_with fail
          refine HI.out.mono ?_
          rintro e w2 ⟨rfl, hb2⟩
          have HB2 := hid (HB.out.trans (hb2.mono (Nat.le_of_lt (lt_of_heap HK0.out))))
          have HK2 : Hid (w2.heap[G]? = some (ctO ⟨#[]⟩ 0 0)) := hid ((hb2.block G (lt_of_heap HK0.out)).trans HK0.out)
          have hk21 : w2.heap[G + 1]? = some (ctO ⟨#[]⟩ tA tD) := (hb2.block (G + 1) (lt_of_heap HK1.out)).trans HK1.out
          have u0 : w2.cell? ⟨G + 1, 0, none⟩ = some (.string ⟨#[]⟩) := cell_of_blk hk21 0
          have u1 : w2.cell? ⟨G + 1, 1, none⟩ = some (.int .i64 tA) := cell_of_blk hk21 1
          have u2 : w2.cell? ⟨G + 1, 2, none⟩ = some (.int .i64 tD) := cell_of_blk hk21 2
          clear hb2 HI hk21 y0 y1 y2
          go_wp2_with (guard_target =~ wpList _ _ _ (_ :: _) _ _; refine wpList_stK 38 #[.string ⟨#[]⟩, .int .i64 tA, .int .i64 tD] rfl rfl HK2.out ct_size rfl rfl rfl rfl ?_; intro w3 hk3 hkp3; have HK3 := hid hk3; have HB3 := hid (kept_below HB2.out hkp3 (Nat.le_refl _) (lt_of_heap HK2.out)); clear hk3 hkp3)
          exact bodyPost_ret (results_ct2 Tryd.results11 rfl HK3.out rfl) rfl ⟨by first | (rw [HZ.out.1, HZ.out.2]; done) | (rw [HZ.out.1, HZ.out.2]; rfl), by have := HB3.out; rw [HG.out] at this; exact this⟩
  · have HE := hid (all_no (okL_long hlong))
    rw [HE.out.1, HE.out.2]
    obtain ⟨n, hnn⟩ : ∃ n, n = l.length := ⟨_, rfl⟩
    rw [← hnn] at hlong hn ⊢
    have hn' : ¬ (n : Int) ≤ 65536 := by omega
    clear hr hnn
    go_enter Tryd.func11, Tryd.ntmps11
    go_wp2_with fail
    exact bodyPost_ret (results_ct2 Tryd.results11 rfl (heap_alloc_new w _) rfl) rfl ⟨rfl, (Below.refl _ _).alloc (Nat.le_refl _) _⟩
end Go.Proofs.YtnbonghlmdnabaaDoor.Sx
