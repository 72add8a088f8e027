/-
  The walks of the document's many, sums, Total.
-/
import Derived.Test.YthnibchlgcgalaaDoorBd
namespace Go.Proofs.YthnibchlgcgalaaDoor.Sx
open Go.RowKit

theorem many_one (x y : ByteArray) : ByteArray.mk #[49, 32] ++ (x ++ y) = bB (cnt 1 x.data.toList y.data.toList) := by
  apply ba_ext
  rw [bB_data, add_data, add_data]
  unfold cnt
  rw [if_pos rfl, show dec 1 = [49] from by rw [show (1 : Int) = ((1 : Nat) : Int) from rfl, dec_nat, decD_small (by decide)]; rfl]
  rfl
theorem many_more {n : Int} (D x y : ByteArray) (h : D.data.toList = dec n) (hn : n ≠ 1) : D ++ ByteArray.mk #[32] ++ (x ++ ByteArray.mk #[115] ++ y) = bB (cnt n x.data.toList y.data.toList) := by
  apply ba_ext
  rw [bB_data, add_data, add_data, add_data, add_data, h]
  unfold cnt
  rw [if_neg hn]
  simp
set_option maxHeartbeats 1000000 in
theorem many_any (n : Nat) (one more x y : ByteArray) (h1 : one = x ++ y) (h2 : more = x ++ ByteArray.mk #[115] ++ y) (w : World) (hn : n ≤ 9223372036854775807) (ht : one.size ≤ 1000) (hd : more.size ≤ 1000) :
    Calls Tryd.prog 35 #[.int .i64 (n : Int), .string one, .string more] w fun e w' => e = .returned (.string (bB (cnt (n : Int) x.data.toList y.data.toList))) ∧ Below w.heap.size w w' := by
  have HI := hid (digits_any n n (Nat.le_refl _) hn w)
  have hl : (bB (Lib.decDigits n)).size ≤ 21 := by rw [bB_size]; exact decD_len n hn
  have HD : Hid ((bB (Lib.decDigits n)).data.toList = dec (n : Int)) := hid (by rw [dec_nat]; rfl)
  by_cases h : n = 1
  · subst h
    have HE := hid (many_one x y)
    rw [← h1] at HE
    have e : ((1 : Nat) : Int) = 1 := rfl
    rw [e, ← HE.out]
    clear HE HD HI hl h1 h2
    go_enter Tryd.func35, Tryd.ntmps35
    go_wp2_with fail
    go_ret
    exact ⟨rfl, Below.refl _ _⟩
  · have HE := hid (many_more (n := (n : Int)) _ x y HD.out (by omega))
    rw [← h2] at HE
    rw [← HE.out]
    have e1 : ((n : Int) == 1) = false := zne (by omega)
    clear HE HD h h1 h2
    generalize bB (Lib.decDigits n) = D at HI hl ⊢
    go_enter Tryd.func35, Tryd.ntmps35
    go_wp2_with fail
    refine HI.out.mono ?_
    rintro e w1 ⟨rfl, hb⟩
    have HB := hid hb
    clear hb
    go_wp2_with fail
    go_ret
    exact ⟨rfl, HB.out⟩
/-! ### sums -/
theorem sumA_part {l : List Ct} (k : Nat) (h : l.all okC = true) : sumA (l.take k) ≤ sumA l ∧ sumD (l.take k) ≤ sumD l := by
  induction l generalizing k with
  | nil => simp
  | cons c l ih =>
    rw [List.all_cons, Bool.and_eq_true] at h
    have h1 := okC_iff.1 h.1
    cases k with
    | zero =>
      have h2 := sum_bound h.2
      show (0 : Int) ≤ c.a + sumA l ∧ (0 : Int) ≤ c.d + sumD l
      omega
    | succ k =>
      have h2 := ih k h.2
      show c.a + sumA (l.take k) ≤ c.a + sumA l ∧ c.d + sumD (l.take k) ≤ c.d + sumD l
      omega
theorem okL_part {l : List Ct} {k : Nat} (h : (l.take k).all okC = true) (hb : okN (sumA (l.take k)) = false ∨ okN (sumD (l.take k)) = false) : okL l = false := by
  cases e : okL l with
  | false => rfl
  | true =>
    have h1 := okL_iff.1 e
    have h2 := sumA_part k h1.2.1
    have h3 := okN_iff.1 h1.2.2.1
    have h4 := okN_iff.1 h1.2.2.2
    have h5 := sum_bound h
    rcases hb with hb | hb
    · rw [okN_yes (by omega) (by omega)] at hb; cases hb
    · rw [okN_yes (by omega) (by omega)] at hb; cases hb
/-- the document's sums -/
def smV (l : List Ct) : Value := if okL l = true then .tuple #[.int .i64 (sumA l), .int .i64 (sumD l), .bool true] else .tuple #[.int .i64 0, .int .i64 0, .bool false]
theorem sm_no {l : List Ct} (h : okL l = false) : smV l = .tuple #[.int .i64 0, .int .i64 0, .bool false] := by unfold smV; rw [h]; rfl
theorem sm_yes {l : List Ct} (h : okL l = true) : smV l = .tuple #[.int .i64 (sumA l), .int .i64 (sumD l), .bool true] := by unfold smV; rw [h]; rfl
set_option maxHeartbeats 4000000 in
theorem rSums_any {w : World} {v : Value} {l : List Ct} (hr : RdK w v l) (hn : l.length ≤ 1099511627776) :
    Calls Tryd.prog 34 #[v] w fun e w' => e = .returned (smV l) ∧ w' = w := by
  obtain ⟨a, c, rfl⟩ := hr.shape
  by_cases hlong : l.length ≤ 65536
  · obtain ⟨n, hnn⟩ : ∃ n, n = l.length := ⟨_, rfl⟩
    have HR := hid hr
    have HN := hid hnn
    have HL := hid hlong
    rw [← hnn] at HR HL hn ⊢
    have hn' : (n : Int) ≤ 65536 := by have := HL.out; omega
    clear hr hnn hlong
    go_enter Tryd.func34, Tryd.ntmps34
    go_wp2_with fail
    go_loopw [5, 6, 7] (fun u1 u2 i wr => ∃ k : Nat, k ≤ n ∧ i = .int .i64 k ∧ u1 = .int .i64 (sumA (l.take k)) ∧ u2 = .int .i64 (sumD (l.take k)) ∧ Hid ((l.take k).all okC = true ∧ okN (sumA (l.take k)) = true ∧ okN (sumD (l.take k)) = true) ∧ wr = w) (fun _ _ i _ => n - (intOf i).toNat)
    case atStart => exact ⟨0, Nat.zero_le _, rfl, rfl, rfl, hid ⟨rfl, rfl, rfl⟩, rfl⟩
    case round =>
      obtain ⟨k, hk, rfl, rfl, rfl, HA, rfl⟩ := hrel
      by_cases hlt : k < n
      · obtain ⟨x, hx⟩ : ∃ x, l[k]? = some x := ⟨_, List.getElem?_eq_getElem (by have := HN.out; omega)⟩
        obtain ⟨b1, o1, e1, hb1, d0, d1, d2⟩ := rdK_at HR.out hx
        subst e1
        have HX := hid hx
        have HSA := hid (sumA_take hx)
        have HSD := hid (sumD_take hx)
        have hsa := okN_iff.1 HA.out.2.1
        have hsd := okN_iff.1 HA.out.2.2
        obtain ⟨sA, hsA⟩ : ∃ s, s = sumA (l.take k) := ⟨_, rfl⟩
        obtain ⟨sD, hsD⟩ : ∃ s, s = sumD (l.take k) := ⟨_, rfl⟩
        rw [← hsA] at HSA hsa ⊢
        rw [← hsD] at HSD hsd ⊢
        have HI := hid (fun m => rIn_any m wr)
        have i1 : (0 : Int) ≤ (k : Int) := by omega
        have i2 : (k : Int) < (n : Int) := by omega
        clear hx hb1 hsA hsD
        cases ea : okN x.a with
        | false =>
          have HI1 := hid (HI.out x.a)
          rw [ea] at HI1
          have HZ := hid (sm_no (okL_no HX.out (by unfold okC; rw [ea]; rfl)))
          clear ea HI
          go_wp2_with fail
          refine HI1.out.mono ?_
          rintro e w1 ⟨rfl, rfl⟩
          go_wp2_with fail
          go_ret3
          exact ⟨by rw [HZ.out]; rfl, rfl⟩
        | true =>
          have HI1 := hid (HI.out x.a)
          rw [ea] at HI1
          have hxa := okN_iff.1 ea
          cases ed : okN x.d with
          | false =>
            have HI2 := hid (HI.out x.d)
            rw [ed] at HI2
            have HZ := hid (sm_no (okL_no HX.out (by unfold okC; rw [ed, Bool.and_false])))
            clear ea ed HI
            go_wp2_with fail
            refine HI1.out.mono ?_
            rintro e w1 ⟨rfl, rfl⟩
            go_wp2_with fail
            refine HI2.out.mono ?_
            rintro e w2 ⟨rfl, rfl⟩
            go_wp2_with fail
            go_ret3
            exact ⟨by rw [HZ.out]; rfl, rfl⟩
          | true =>
            have HI2 := hid (HI.out x.d)
            rw [ed] at HI2
            have hxd := okN_iff.1 ed
            have HC := hid (all_take HX.out HA.out.1 (by unfold okC; rw [ea, ed]; rfl))
            have s1 : IntKind.i64.wrap (sA + x.a) = sA + x.a := wrapI (by omega) (by omega)
            have s2 : IntKind.i64.wrap (sD + x.d) = sD + x.d := wrapI (by omega) (by omega)
            obtain ⟨tA, htA⟩ : ∃ t, t = sumA (l.take (k + 1)) := ⟨_, rfl⟩
            obtain ⟨tD, htD⟩ : ∃ t, t = sumD (l.take (k + 1)) := ⟨_, rfl⟩
            have HTA := hid htA
            have HTD := hid htD
            rw [← HSA.out, ← htA] at s1
            rw [← HSD.out, ← htD] at s2
            have s1' : IntKind.i64.wrap (sA + x.a) = tA := by rw [htA, HSA.out]; exact wrapI (by omega) (by omega)
            have s2' : IntKind.i64.wrap (sD + x.d) = tD := by rw [htD, HSD.out]; exact wrapI (by omega) (by omega)
            clear ea ed s1 s2 htA htD hxa hxd hsa hsd
            cases et : okN tA with
            | false =>
              have HI3 := hid (HI.out tA)
              rw [et] at HI3
              have HZ := hid (sm_no (okL_part HC.out (.inl (by rw [← HTA.out]; exact et))))
              clear et HI
              go_wp2_with fail
              refine HI1.out.mono ?_
              rintro e w1 ⟨rfl, rfl⟩
              go_wp2_with fail
              refine HI2.out.mono ?_
              rintro e w2 ⟨rfl, rfl⟩
              go_wp2_with fail
              refine HI3.out.mono ?_
              rintro e w3 ⟨rfl, rfl⟩
              go_wp2_with fail
              go_ret3
              exact ⟨by rw [HZ.out]; rfl, rfl⟩
            | true =>
              have HI3 := hid (HI.out tA)
              rw [et] at HI3
              have HTA2 := hid et
              clear et
              cases eu : okN tD with
              | false =>
                have HI4 := hid (HI.out tD)
                rw [eu] at HI4
                have HZ := hid (sm_no (okL_part HC.out (.inr (by rw [← HTD.out]; exact eu))))
                clear eu HI
                go_wp2_with fail
                refine HI1.out.mono ?_
                rintro e w1 ⟨rfl, rfl⟩
                go_wp2_with fail
                refine HI2.out.mono ?_
                rintro e w2 ⟨rfl, rfl⟩
                go_wp2_with fail
                refine HI3.out.mono ?_
                rintro e w3 ⟨rfl, rfl⟩
                go_wp2_with fail
                refine HI4.out.mono ?_
                rintro e w4 ⟨rfl, rfl⟩
                go_wp2_with fail
                go_ret3
                exact ⟨by rw [HZ.out]; rfl, rfl⟩
              | true =>
                have HI4 := hid (HI.out tD)
                rw [eu] at HI4
                have HREL : Hid ((l.take (k + 1)).all okC = true ∧ okN (sumA (l.take (k + 1))) = true ∧ okN (sumD (l.take (k + 1))) = true) := hid ⟨HC.out, by rw [← HTA.out]; exact HTA2.out, by rw [← HTD.out]; exact eu⟩
                clear eu HI
                go_wp2_with fail
                refine HI1.out.mono ?_
                rintro e w1 ⟨rfl, rfl⟩
                go_wp2_with fail
                refine HI2.out.mono ?_
                rintro e w2 ⟨rfl, rfl⟩
                go_wp2_with fail
                refine HI3.out.mono ?_
                rintro e w3 ⟨rfl, rfl⟩
                go_wp2_with fail
                refine HI4.out.mono ?_
                rintro e w4 ⟨rfl, rfl⟩
                go_wp2_with fail
                go_roundw
                case rel => exact ⟨k + 1, by omega, by go_num, by rw [← HTA.out], by rw [← HTD.out], HREL, by first | rfl | trivial⟩
                case measure => simp [intOf]; omega
      · have HT : Hid (l.take k = l) := hid (List.take_of_length_le (by have := HN.out; omega))
        rw [HT.out] at HA ⊢
        have HZ := hid (sm_yes (okL_iff.2 ⟨by have := HN.out; have := HL.out; omega, HA.out.1, HA.out.2.1, HA.out.2.2⟩))
        go_wp2_with fail
        go_ret3
        exact ⟨by rw [HZ.out]; rfl, rfl⟩
  · have HZ := hid (sm_no (okL_long hlong))
    rw [HZ.out]
    obtain ⟨n, hnn⟩ : ∃ n, n = l.length := ⟨_, rfl⟩
    rw [← hnn] at hlong hn ⊢
    have hn' : ¬ (n : Int) ≤ 65536 := by omega
    clear hr hnn HZ
    go_enter Tryd.func34, Tryd.ntmps34
    go_wp2_with fail
    go_ret3
    exact ⟨rfl, rfl⟩
theorem rt_yes_yes {l : List Ct} {C0 C1 C2 : ByteArray} (hy : okL l = true) (_h0 : C0 = bB (cnt l.length tFile tChanged)) (_h1 : C1 = bB (cnt (sumA l) tIns tPlus)) (_h2 : C2 = bB (cnt (sumD l) tDel tMinus)) (ha :  0 < sumA l) (hd :  0 < sumD l) : (((((⟨#[32]⟩ ++ C0) ++ ⟨#[44, 32]⟩) ++ C1) ++ ⟨#[44, 32]⟩) ++ C2) ++ ⟨#[10]⟩ = totS l := by
  rw [tot_yes hy]
  apply ba_ext
  rw [bB_data]
  unfold total
  rw [if_pos ha, if_pos hd]
  subst _h0 _h1 _h2
  simp [bB]
theorem rt_yes_no {l : List Ct} {C0 C1 C2 : ByteArray} (hy : okL l = true) (_h0 : C0 = bB (cnt l.length tFile tChanged)) (_h1 : C1 = bB (cnt (sumA l) tIns tPlus)) (_h2 : C2 = bB (cnt (sumD l) tDel tMinus)) (ha :  0 < sumA l) (hd : ¬ 0 < sumD l) : (((⟨#[32]⟩ ++ C0) ++ ⟨#[44, 32]⟩) ++ C1) ++ ⟨#[10]⟩ = totS l := by
  rw [tot_yes hy]
  apply ba_ext
  rw [bB_data]
  unfold total
  rw [if_pos ha, if_neg hd]
  subst _h0 _h1 _h2
  simp [bB]
theorem rt_no_yes {l : List Ct} {C0 C1 C2 : ByteArray} (hy : okL l = true) (_h0 : C0 = bB (cnt l.length tFile tChanged)) (_h1 : C1 = bB (cnt (sumA l) tIns tPlus)) (_h2 : C2 = bB (cnt (sumD l) tDel tMinus)) (ha : ¬ 0 < sumA l) (hd :  0 < sumD l) : (((⟨#[32]⟩ ++ C0) ++ ⟨#[44, 32]⟩) ++ C2) ++ ⟨#[10]⟩ = totS l := by
  rw [tot_yes hy]
  apply ba_ext
  rw [bB_data]
  unfold total
  rw [if_neg ha, if_pos hd]
  subst _h0 _h1 _h2
  simp [bB]
theorem rt_no_no {l : List Ct} {C0 C1 C2 : ByteArray} (hy : okL l = true) (_h0 : C0 = bB (cnt l.length tFile tChanged)) (_h1 : C1 = bB (cnt (sumA l) tIns tPlus)) (_h2 : C2 = bB (cnt (sumD l) tDel tMinus)) (ha : ¬ 0 < sumA l) (hd : ¬ 0 < sumD l) : (⟨#[32]⟩ ++ C0) ++ ⟨#[10]⟩ = totS l := by
  rw [tot_yes hy]
  apply ba_ext
  rw [bB_data]
  unfold total
  rw [if_neg ha, if_neg hd]
  subst _h0 _h1 _h2
  simp [bB]
/-- the number of the error -/
def rtN (l : List Ct) : Int := if okL l = true then 0 else 1
set_option maxHeartbeats 4000000 in
theorem rTotal_any {w : World} {v : Value} {l : List Ct} (hr : RdK w v l) (hn : l.length ≤ 1099511627776) :
    Calls Tryd.prog 14 #[v] w fun e w' => e = .returned (.tuple #[.string (totS l), .int .i64 (rtN l)]) ∧ Below w.heap.size w w' := by
  have HI := hid (rSums_any hr hn)
  obtain ⟨a, c, rfl⟩ := hr.shape
  cases hok : okL l with
  | false =>
    rw [sm_no hok] at HI
    rw [tot_no hok, show rtN l = 1 from by unfold rtN; rw [hok]; rfl]
    obtain ⟨n, hnn⟩ : ∃ n, n = l.length := ⟨_, rfl⟩
    rw [← hnn] at HI ⊢
    clear hok hr hnn
    go_enter Tryd.func14, Tryd.ntmps14
    go_wp2_with fail
    refine HI.out.mono ?_
    rintro e w1 ⟨rfl, rfl⟩
    go_wp2_with fail
    go_ret2
    exact ⟨rfl, Below.refl _ _⟩
  | true =>
    rw [sm_yes hok] at HI
    rw [show rtN l = 0 from by unfold rtN; rw [hok]; rfl]
    have hb := (okL_iff.1 hok)
    have hA := okN_iff.1 hb.2.2.1
    have hD := okN_iff.1 hb.2.2.2
    have hln : (l.length : Int) ≤ 65536 := by have := hb.1; omega
    obtain ⟨nA, hnA⟩ := Int.eq_ofNat_of_zero_le hA.1
    obtain ⟨nD, hnD⟩ := Int.eq_ofNat_of_zero_le hD.1
    obtain ⟨C0, hC0⟩ : ∃ C, C = bB (cnt (l.length : Int) tFile tChanged) := ⟨_, rfl⟩
    obtain ⟨C1, hC1⟩ : ∃ C, C = bB (cnt (sumA l) tIns tPlus) := ⟨_, rfl⟩
    obtain ⟨C2, hC2⟩ : ∃ C, C = bB (cnt (sumD l) tDel tMinus) := ⟨_, rfl⟩
    have s0 : C0.size ≤ 100 := by rw [hC0, bB_size]; have := cnt_len (n := (l.length : Int)) tFile tChanged (by omega) (by omega); exact Nat.le_trans this (by decide)
    have s1 : C1.size ≤ 100 := by rw [hC1, bB_size]; have := cnt_len (n := sumA l) tIns tPlus (by omega) (by omega); exact Nat.le_trans this (by decide)
    have s2 : C2.size ≤ 100 := by rw [hC2, bB_size]; have := cnt_len (n := sumD l) tDel tMinus (by omega) (by omega); exact Nat.le_trans this (by decide)
    have HC0' : Hid (∀ w', Calls Tryd.prog 35 #[.int .i64 (l.length : Int), .string ⟨#[102, 105, 108, 101, 32, 99, 104, 97, 110, 103, 101, 100]⟩, .string ⟨#[102, 105, 108, 101, 115, 32, 99, 104, 97, 110, 103, 101, 100]⟩] w' fun e w2 => e = .returned (.string C0) ∧ Below w'.heap.size w' w2) := hid (by rw [hC0]; exact fun w' => many_any l.length _ _ ⟨#[102, 105, 108, 101]⟩ ⟨#[32, 99, 104, 97, 110, 103, 101, 100]⟩ (by decide +kernel) (by decide +kernel) w' (by omega) (by decide) (by decide))
    have HC1' : Hid (∀ w', Calls Tryd.prog 35 #[.int .i64 (sumA l), .string ⟨#[105, 110, 115, 101, 114, 116, 105, 111, 110, 40, 43, 41]⟩, .string ⟨#[105, 110, 115, 101, 114, 116, 105, 111, 110, 115, 40, 43, 41]⟩] w' fun e w2 => e = .returned (.string C1) ∧ Below w'.heap.size w' w2) := hid (by rw [hC1, hnA]; exact fun w' => many_any nA _ _ ⟨#[105, 110, 115, 101, 114, 116, 105, 111, 110]⟩ ⟨#[40, 43, 41]⟩ (by decide +kernel) (by decide +kernel) w' (by omega) (by decide) (by decide))
    have HC2' : Hid (∀ w', Calls Tryd.prog 35 #[.int .i64 (sumD l), .string ⟨#[100, 101, 108, 101, 116, 105, 111, 110, 40, 45, 41]⟩, .string ⟨#[100, 101, 108, 101, 116, 105, 111, 110, 115, 40, 45, 41]⟩] w' fun e w2 => e = .returned (.string C2) ∧ Below w'.heap.size w' w2) := hid (by rw [hC2, hnD]; exact fun w' => many_any nD _ _ ⟨#[100, 101, 108, 101, 116, 105, 111, 110]⟩ ⟨#[40, 45, 41]⟩ (by decide +kernel) (by decide +kernel) w' (by omega) (by decide) (by decide))
    have HT1 := hid (fun h1 h2 => rt_yes_yes hok hC0 hC1 hC2 h1 h2)
    have HT2 := hid (fun h1 h2 => rt_yes_no hok hC0 hC1 hC2 h1 h2)
    have HT3 := hid (fun h1 h2 => rt_no_yes hok hC0 hC1 hC2 h1 h2)
    have HT4 := hid (fun h1 h2 => rt_no_no hok hC0 hC1 hC2 h1 h2)
    obtain ⟨n, hnn⟩ : ∃ n, n = l.length := ⟨_, rfl⟩
    rw [← hnn] at HI HC0' hln ⊢
    clear hok hr hnn hb hC0 hC1 hC2 hnA hnD
    generalize sumA l = A at *
    generalize sumD l = D at *
    obtain ⟨T, hT⟩ : ∃ T, T = totS l := ⟨_, rfl⟩
    rw [← hT] at HT1 HT2 HT3 HT4 ⊢
    clear hT
    by_cases pa : 0 < A
    · by_cases pd : 0 < D
      · have HT := hid (HT1.out pa pd)
        rw [← HT.out]
        clear HT HT1 HT2 HT3 HT4
        go_enter Tryd.func14, Tryd.ntmps14
        go_wp2_with fail
        refine HI.out.mono ?_
        rintro e w1 ⟨rfl, rfl⟩
        clear HI
        go_wp2_with fail
        refine (HC0'.out w1).mono ?_
        rintro e w2 ⟨rfl, hb2⟩
        have HB2 := hid hb2
        clear hb2
        go_wp2_with fail
        refine (HC1'.out w2).mono ?_
        rintro e w3 ⟨rfl, hb3⟩
        have HB3 := hid (HB2.out.trans (hb3.mono HB2.out.size))
        clear hb3
        go_wp2_with fail
        refine (HC2'.out w3).mono ?_
        rintro e w4 ⟨rfl, hb4⟩
        have HB4 := hid (HB3.out.trans (hb4.mono HB3.out.size))
        clear hb4
        go_wp2_with fail
        go_ret2
        exact ⟨rfl, HB4.out⟩
      · have HT := hid (HT2.out pa pd)
        rw [← HT.out]
        clear HT HT1 HT2 HT3 HT4
        go_enter Tryd.func14, Tryd.ntmps14
        go_wp2_with fail
        refine HI.out.mono ?_
        rintro e w1 ⟨rfl, rfl⟩
        clear HI
        go_wp2_with fail
        refine (HC0'.out w1).mono ?_
        rintro e w2 ⟨rfl, hb2⟩
        have HB2 := hid hb2
        clear hb2
        go_wp2_with fail
        refine (HC1'.out w2).mono ?_
        rintro e w3 ⟨rfl, hb3⟩
        have HB3 := hid (HB2.out.trans (hb3.mono HB2.out.size))
        clear hb3
        go_wp2_with fail
        go_ret2
        exact ⟨rfl, HB3.out⟩
    · by_cases pd : 0 < D
      · have HT := hid (HT3.out pa pd)
        rw [← HT.out]
        clear HT HT1 HT2 HT3 HT4
        go_enter Tryd.func14, Tryd.ntmps14
        go_wp2_with fail
        refine HI.out.mono ?_
        rintro e w1 ⟨rfl, rfl⟩
        clear HI
        go_wp2_with fail
        refine (HC0'.out w1).mono ?_
        rintro e w2 ⟨rfl, hb2⟩
        have HB2 := hid hb2
        clear hb2
        go_wp2_with fail
        refine (HC2'.out w2).mono ?_
        rintro e w3 ⟨rfl, hb3⟩
        have HB3 := hid (HB2.out.trans (hb3.mono HB2.out.size))
        clear hb3
        go_wp2_with fail
        go_ret2
        exact ⟨rfl, HB3.out⟩
      · have HT := hid (HT4.out pa pd)
        rw [← HT.out]
        clear HT HT1 HT2 HT3 HT4
        go_enter Tryd.func14, Tryd.ntmps14
        go_wp2_with fail
        refine HI.out.mono ?_
        rintro e w1 ⟨rfl, rfl⟩
        clear HI
        go_wp2_with fail
        refine (HC0'.out w1).mono ?_
        rintro e w2 ⟨rfl, hb2⟩
        have HB2 := hid hb2
        clear hb2
        go_wp2_with fail
        go_ret2
        exact ⟨rfl, HB2.out⟩
end Go.Proofs.YthnibchlgcgalaaDoor.Sx
