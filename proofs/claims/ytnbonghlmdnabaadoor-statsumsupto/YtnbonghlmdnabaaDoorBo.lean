/-
  The program's Numbers (ST7).
-/
import Derived.Test.YtnbonghlmdnabaaDoorBn
namespace Go.Proofs.YtnbonghlmdnabaaDoor.Sx
open Go.RowKit

def nmE (l : List Ct) : Value := if okL l = true then .nilIface else .iface 57 (.int .i64 1)
set_option maxHeartbeats 4000000 in
set_option maxRecDepth 100000 in
theorem numbers_any {w : World} {v : Value} {l : List Ct} (hr : RdK w v l) (hn : l.length ≤ 1099511627776) (hp : PowK w) (hs : ∀ x ∈ l, x.nm.size ≤ 35184371999999) (hz : okL l = true → l.length * (nameW l + 2100) + nameW l ≤ 70368744177664) :
    Calls Tryd.prog 7 #[v] w fun e w' => e = .returned (.tuple #[.string (nmS l), nmE l]) ∧ Below w.heap.size w w' := by
  have HT := hid (inAll_any hr hn)
  have HR0 := hid hr
  have HP := hid hp
  obtain ⟨a, c, rfl⟩ := hr.shape
  unfold nmS nmE
  cases hok : okL l with
  | false =>
    rw [(all_no hok).1, (all_no hok).2] at HT
    obtain ⟨n, hnn⟩ : ∃ n, n = l.length := ⟨_, rfl⟩
    rw [← hnn] at HT ⊢
    clear hok hr hnn HR0 hs hz
    go_enter Tryd.func7, Tryd.ntmps7
    go_wp2_with fail
    refine HT.out.mono ?_
    rintro e w1 ⟨rfl, hb1⟩
    have HB := hid (hb1.alloc hb1.size (.cells #[.string ⟨#[]⟩, .int .i64 0, .int .i64 0] 38))
    clear hb1
    go_wp2_with fail
    go_ret2
    exact ⟨rfl, HB.out⟩
  | true =>
    rw [(all_yes hok).1, (all_yes hok).2] at HT
    rw [if_pos rfl, if_pos rfl]
    have hz' := hz hok
    have HALL := hid (okL_iff.1 hok).2.1
    have hlen := (okL_iff.1 hok).1
    have HSN := hid hs
    have HW := hid (show ∀ c ∈ l, (numR c).length ≤ nameW l + 50 from fun c hc => numR_len (List.all_eq_true.1 (okL_iff.1 hok).2.1 c hc) (nameW_mem hc))
    obtain ⟨n, hnn⟩ : ∃ n, n = l.length := ⟨_, rfl⟩
    have HN := hid hnn
    rw [← hnn] at HT hlen hz' HR0 ⊢
    have HZ := hid hz'
    obtain ⟨Z, hZZ⟩ : ∃ Z, Z = numL l := ⟨_, rfl⟩
    have HZZ := hid hZZ
    rw [← hZZ]
    generalize sumA l = sa at HT
    generalize sumD l = sd at HT
    clear hok hr hnn hs hz hz' hn hZZ hp
    go_enter Tryd.func7, Tryd.ntmps7
    go_wp2_with fail
    refine HT.out.mono ?_
    rintro e w1 ⟨rfl, hb1⟩
    have hb2 := hb1.alloc hb1.size (.cells #[.string ⟨#[]⟩, .int .i64 sa, .int .i64 sd] 38)
    have HB2 := hid hb2
    have hs4 : (w1.alloc (.cells #[.string ⟨#[]⟩, .int .i64 sa, .int .i64 sd] 38)).heap.size = w1.heap.size + 1 := by simp
    have HF := hid (Lib.IsBuilderF.of (fresh_builderK (w1.alloc (.cells #[.string ⟨#[]⟩, .int .i64 sa, .int .i64 sd] 38))))
    have HNB := hid (one_new (w1.alloc (.cells #[.string ⟨#[]⟩, .int .i64 sa, .int .i64 sd] 38)) (.cells #[.pointer none, .slice none 0 0] 51))
    clear hb1 hb2 HT
    go_wp2_with fail
    rw [hs4] at HF HNB
    obtain ⟨C, hC⟩ : ∃ C, C = w1.heap.size + 1 := ⟨_, rfl⟩
    have HB5 : Hid (Below w.heap.size w ((w1.alloc (.cells #[.string ⟨#[]⟩, .int .i64 sa, .int .i64 sd] 38)).alloc (.cells #[.pointer none, .slice none 0 0] 51))) := hid (HB2.out.trans (HNB.out.1.mono (by have := HB2.out.size; rw [hs4] at this; exact this)))
    have HA5 : Hid (BfAt (w1.heap.size + 1) (w1.heap.size + 1) [] ((w1.alloc (.cells #[.string ⟨#[]⟩, .int .i64 sa, .int .i64 sd] 38)).alloc (.cells #[.pointer none, .slice none 0 0] 51))) := HF
    have HCG : Hid (w.heap.size ≤ C ∧ C ≤ ((w1.alloc (.cells #[.string ⟨#[]⟩, .int .i64 sa, .int .i64 sd] 38)).alloc (.cells #[.pointer none, .slice none 0 0] 51)).heap.size) := hid ⟨by have := HB2.out.size; rw [hs4] at this; omega, by have := HNB.out.1.size; rw [hC, ← hs4]; exact this⟩
    rw [← hC] at HA5 ⊢
    clear HF HNB HB2 hs4 hC
    generalize (w1.alloc (.cells #[.string ⟨#[]⟩, .int .i64 sa, .int .i64 sd] 38)).alloc (.cells #[.pointer none, .slice none 0 0] 51) = w5 at HB5 HA5 HCG ⊢
    go_loopw [19] (fun i wr => ∃ k : Nat, k ≤ n ∧ i = .int .i64 k ∧ Hid (BfAt C C (numL (l.take k)) wr) ∧ Hid (Below C w5 wr)) (fun i _ => n - (intOf i).toNat)
    case atStart => exact ⟨0, Nat.zero_le _, rfl, HA5, hid (Below.refl _ _)⟩
    case round =>
      obtain ⟨k, hk, rfl, HA, HBW⟩ := hrel
      clear HA5
      have HLEN : Hid ((numL (l.take k)).length ≤ 70368744177664) := hid (by
        have h1 : (numL (l.take k)).length ≤ (l.take k).length * (nameW l + 50) := numL_len fun c hc => HW.out c (List.mem_of_mem_take hc)
        have h2 : (l.take k).length * (nameW l + 50) ≤ n * (nameW l + 2100) := Nat.mul_le_mul (by rw [List.length_take]; omega) (by omega)
        have h3 := HZ.out
        omega)
      have HB0 : Hid (Below w.heap.size w wr) := hid (HB5.out.trans (HBW.out.mono HCG.out.1))
      have HSZ : Hid (C ≤ wr.heap.size) := hid (Nat.le_trans HCG.out.2 HBW.out.size)
      by_cases hlt : k < n
      · obtain ⟨x, hx⟩ : ∃ x, l[k]? = some x := ⟨_, List.getElem?_eq_getElem (by have := HN.out; omega)⟩
        have hxl := List.mem_of_getElem? hx
        obtain ⟨b1, o1, e1, hb1, d0, d1, d2⟩ := rdK_at (by have := RdX.below HR0.out HB0.out; exact this) hx
        subst e1
        have HT1 := hid (numL_take hx)
        have hxo := List.all_eq_true.1 HALL.out x hxl
        have hxw := HW.out x hxl
        have hxo2 := hxo
        unfold okC at hxo2
        rw [Bool.and_eq_true] at hxo2
        have hxr := okC_iff.1 hxo
        have HXR := hid hxr
        have HQ := hid (fun w' => Cx.quote_any x.nm w' (HSN.out x hxl))
        have HQB : Hid ((⟨(Pq.quote x.nm.data.toList).toArray⟩ : ByteArray) = qB x) := hid rfl
        rw [HQB.out] at HQ
        have l1 := decI_len hxo2.1
        have l2 := decI_len hxo2.2
        have l3 : (qB x).size ≤ 70368744177664 := by unfold qB; rw [bB_size]; exact Nat.le_trans (nameW_mem hxl) (by have := HZ.out; omega)
        obtain ⟨RW, hRW⟩ : ∃ RW, RW = bB (dec x.a) ++ ByteArray.mk #[9] ++ bB (dec x.d) ++ ByteArray.mk #[9] ++ qB x ++ ByteArray.mk #[10] := ⟨_, rfl⟩
        have HRW : Hid (RW.data.toList = numR x) := hid (by
          rw [hRW]
          simp only [add_data, bB_data]
          unfold numR qB
          rw [bB_data])
        have HRE := hid hRW
        have hRz : RW.size ≤ 70368744177664 := by
          rw [← dsize, HRW.out]
          have := HZ.out
          have : nameW l + 2100 ≤ n * (nameW l + 2100) := Nat.le_mul_of_pos_left _ (by omega)
          omega
        have hnm := HLEN.out
        obtain ⟨PA, hPA⟩ : ∃ PA, PA = numL (l.take k) := ⟨_, rfl⟩
        rw [← hPA] at HA HT1 hnm
        have HAL2 : Hid (PA.length + RW.size ≤ 140737488355328) := hid (by omega)
        obtain ⟨DA, hDA⟩ : ∃ DA, DA = bB (dec x.a) := ⟨_, rfl⟩
        obtain ⟨DD, hDD⟩ : ∃ DD, DD = bB (dec x.d) := ⟨_, rfl⟩
        have z1 : DA.size ≤ 21 := by rw [hDA, bB_size]; exact l1
        have z2 : DD.size ≤ 21 := by rw [hDD, bB_size]; exact l2
        rw [← hDA] at HRE
        rw [← hDD] at HRE
        have HDA : Hid (bB (dec x.a) = DA) := hid hDA.symm
        have HDD : Hid (bB (dec x.d) = DD) := hid hDD.symm
        have HNB := hid (one_new wr (ctO x.nm x.a x.d))
        have HEC : Hid (C < wr.heap.size) := hid HA.out.lt.1
        have HA6 := hid (HA.out.below HNB.out.1)
        have HB6 := hid (HBW.out.trans (HNB.out.1.mono HSZ.out))
        have HS6 : Hid (C ≤ (wr.alloc (ctO x.nm x.a x.d)).heap.size) := hid (Nat.le_trans HSZ.out HNB.out.1.size)
        clear hDA hDD hRW l1 l2 hxo hxo2 hxw hxr hx hxl HQB hb1 hPA hnm HA
        generalize qB x = Q at HQ HRE l3
        obtain ⟨nm, xa, xd⟩ := x
        dsimp only at HXR HDA HDD HQ HNB HA6 HB6 HS6 d0 d1 d2
        have i1 : (0 : Int) ≤ (k : Int) := by omega
        have i2 : (k : Int) < (n : Int) := by omega
        go_wp2_with fail
        obtain ⟨E, hE⟩ : ∃ E, E = wr.heap.size := ⟨_, rfl⟩
        rw [← hE]
        rw [← hE] at HNB HEC
        clear hE
        have HE6 := hid HNB.out.2
        clear HNB d0 d1 d2
        generalize wr.alloc (.cells #[.string nm, .int .i64 xa, .int .i64 xd] 38) = w6 at HA6 HB6 HS6 HE6 ⊢
        have HKE : Hid (∀ w' : World, w'.heap[E]? = some (ctO nm xa xd) → w'.cell? ⟨E, 0, none⟩ = some (.string nm) ∧ w'.cell? ⟨E, 1, none⟩ = some (.int .i64 xa) ∧ w'.cell? ⟨E, 2, none⟩ = some (.int .i64 xd)) := hid (fun w' h => ⟨cell_of_blk h 0, cell_of_blk h 1, cell_of_blk h 2⟩)
        have HBd : Hid (Below w6.heap.size w6 w6.drew) := hid (below_drewN (Below.refl w6.heap.size w6) 1)
        have HLE : Hid (E < w6.heap.size) := hid (lt_of_heap HE6.out)
        have HE7 : Hid (w6.drew.heap[E]? = some (ctO nm xa xd)) := HE6
        have HA7 := hid (HA6.out.below HBd.out)
        have HB7 := hid (HB6.out.trans (HBd.out.mono HS6.out))
        have HS7 := hid (Nat.le_trans HS6.out HBd.out.size)
        have HPW : Hid (∀ w', Below C w5 w' → PowK w') := hid (fun w' h => HP.out.later (HB5.out.trans (h.mono HCG.out.1)))
        clear HA6 HB6 HS6 HE6 HBd
        have k1 : ¬ 9223372036854775807 < DA.size + 1 := by omega
        have k2 : ¬ 9223372036854775807 < DA.size + 1 + DD.size := by omega
        have k3 : ¬ 9223372036854775807 < DA.size + 1 + DD.size + 1 := by omega
        have k4 : ¬ 9223372036854775807 < DA.size + 1 + DD.size + 1 + Q.size := by omega
        have k5 : ¬ 9223372036854775807 < DA.size + 1 + DD.size + 1 + Q.size + 1 := by omega
        clear z1 z2 l3 hRz
        obtain ⟨t0, t1, t2⟩ := HKE.out _ HE7.out
        go_region_held3 (fun w' => w'.cell? ⟨E, 0, none⟩ = some (.string nm) ∧ w'.cell? ⟨E, 1, none⟩ = some (.int .i64 xa) ∧ w'.cell? ⟨E, 2, none⟩ = some (.int .i64 xd))
          (first
            | go_keep
            | ((try dsimp only); exact HKE.out _ (by first | exact HE11.out | exact HE10.out | exact HE9.out | exact HE8.out | exact HE7.out)))
          (first
            | (go_at_call 14; refine (ws_any _ HA10.out (by rw [← HRE.out]; exact HAL2.out) HS10.out).mono ?_; rintro e w11 ⟨rfl, hA11, hF11⟩; have HA11 := hid hA11; have HB11 := hid (HB10.out.trans hF11.below); have HE11 := hid (hF11.box HE10.out (Nat.ne_of_gt HEC.out) (by decide)); clear hA11 hF11)
            | (go_at_call 16; refine (HQ.out _).mono ?_; rintro e w10 ⟨rfl, hb10⟩; have HB10 := hid (HB9.out.trans (hb10.mono HS9.out)); have HA10 := hid (HA9.out.below hb10); have HS10 := hid (Nat.le_trans HS9.out hb10.size); have HE10 := hid ((hb10.block E (lt_of_heap HE9.out)).trans HE9.out); clear hb10)
            | (go_at_call 15; refine (itoaK_any _ _ (by first | exact HPW.out _ HB8.out | exact HPW.out _ HB7.out) (by have := HXR.out; omega) (by have := HXR.out; omega)).mono ?_; rintro e w9 ⟨rfl, hb9⟩; (first | rw [HDA.out] | rw [HDD.out]); (first | (have HB9 := hid (HB8.out.trans (hb9.mono HS8.out)); have HA9 := hid (HA8.out.below hb9); have HS9 := hid (Nat.le_trans HS8.out hb9.size); have HE9 := hid ((hb9.block E (lt_of_heap HE8.out)).trans HE8.out)) | (have HB8 := hid (HB7.out.trans (hb9.mono HS7.out)); have HA8 := hid (HA7.out.below hb9); have HS8 := hid (Nat.le_trans HS7.out hb9.size); have HE8 := hid ((hb9.block E (lt_of_heap HE7.out)).trans HE7.out))); clear hb9))
        clear t0 t1 t2
        go_wp2_with fail
        go_roundw
        case rel => exact ⟨k + 1, by omega, by go_num, hid (by rw [HT1.out, ← HRW.out, HRE.out]; exact HA11.out), HB11⟩
        case measure => simp [intOf]; omega
      · have hke : k = n := by omega
        subst hke
        have i2 : ¬ ((k : Int) < (k : Int)) := by omega
        have HE : Hid (numL (l.take k) = Z) := hid (by rw [HZZ.out, List.take_of_length_le (Nat.le_of_eq HN.out.symm)])
        rw [HE.out] at HA
        go_wp2_with fail
        refine (str_any HA.out HSZ.out).mono ?_
        rintro e w8 ⟨rfl, hb8⟩
        have HB8 := hid (HB0.out.trans (hb8.mono HCG.out.1))
        clear hb8
        go_wp2_with fail
        go_ret2
        exact ⟨rfl, HB8.out⟩
end Go.Proofs.YtnbonghlmdnabaaDoor.Sx
