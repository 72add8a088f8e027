/-
  The walks of the document's many, sums, Total.
-/
import Derived.Test.YtnbonghlmdnabaaDoorBd
namespace Go.Proofs.YtnbonghlmdnabaaDoor.Sx
open Go.RowKit

theorem many_one (x y : ByteArray) : ByteArray.mk #[49, 32] ++ (x ++ y) = bB (cnt 1 x.data.toList y.data.toList) := by
  apply ba_ext
  rw [bB_data, add_data, add_data]
  unfold cnt
  rw [if_pos rfl, show dec 1 = [49] from by rw [show (1 : Int) = ((1 : Nat) : Int) from rfl, dec_nat, decD_small (by decide)]; rfl]
  rfl
theorem many_more {n : Int} (D x y : ByteArray) (h : D.data.toList = dec n) (hn : n ≠ 1) : D ++ ByteArray.mk #[32] ++ (x ++ ByteArray.mk #[115] ++ y) = bB (cnt n x.data.toList y.data.toList) := by
  apply ba_ext
  rw [bB_data, add_data, add_data, add_data, add_data, h]
  unfold cnt
  rw [if_neg hn]
  simp
/-! ### sums -/
theorem sumA_part {l : List Ct} (k : Nat) (h : l.all okC = true) : sumA (l.take k) ≤ sumA l ∧ sumD (l.take k) ≤ sumD l := by
  induction l generalizing k with
  | nil => simp
  | cons c l ih =>
    rw [List.all_cons, Bool.and_eq_true] at h
    have h1 := okC_iff.1 h.1
    cases k with
    | zero =>
      have h2 := sum_bound h.2
      show (0 : Int) ≤ c.a + sumA l ∧ (0 : Int) ≤ c.d + sumD l
      omega
    | succ k =>
      have h2 := ih k h.2
      show c.a + sumA (l.take k) ≤ c.a + sumA l ∧ c.d + sumD (l.take k) ≤ c.d + sumD l
      omega
theorem okL_part {l : List Ct} {k : Nat} (h : (l.take k).all okC = true) (hb : okN (sumA (l.take k)) = false ∨ okN (sumD (l.take k)) = false) : okL l = false := by
  cases e : okL l with
  | false => rfl
  | true =>
    have h1 := okL_iff.1 e
    have h2 := sumA_part k h1.2.1
    have h3 := okN_iff.1 h1.2.2.1
    have h4 := okN_iff.1 h1.2.2.2
    have h5 := sum_bound h
    rcases hb with hb | hb
    · rw [okN_yes (by omega) (by omega)] at hb; cases hb
    · rw [okN_yes (by omega) (by omega)] at hb; cases hb
/-- the document's sums -/
def smV (l : List Ct) : Value := if okL l = true then .tuple #[.int .i64 (sumA l), .int .i64 (sumD l), .bool true] else .tuple #[.int .i64 0, .int .i64 0, .bool false]
theorem sm_no {l : List Ct} (h : okL l = false) : smV l = .tuple #[.int .i64 0, .int .i64 0, .bool false] := by unfold smV; rw [h]; rfl
theorem sm_yes {l : List Ct} (h : okL l = true) : smV l = .tuple #[.int .i64 (sumA l), .int .i64 (sumD l), .bool true] := by unfold smV; rw [h]; rfl
set_option maxHeartbeats 4000000 in
theorem rSums_any {w : World} {v : Value} {l : List Ct} (hr : RdK w v l) (hn : l.length ≤ 1099511627776) :
    Calls Tryd.prog 13 #[v] w fun e w' => e = .returned (smV l) ∧ w' = w := by
  obtain ⟨a, c, rfl⟩ := hr.shape
  by_cases hlong : l.length ≤ 65536
  · obtain ⟨n, hnn⟩ : ∃ n, n = l.length := ⟨_, rfl⟩
    have HR := hid hr
    have HN := hid hnn
    have HL := hid hlong
    rw [← hnn] at HR HL hn ⊢
    have hn' : (n : Int) ≤ 65536 := by have := HL.out; omega
    clear hr hnn hlong
    go_enter Tryd.func13, Tryd.ntmps13
    go_wp2_with fail
    go_loopw [5, 6, 7] (fun u1 u2 i wr => ∃ k : Nat, k ≤ n ∧ i = .int .i64 k ∧ u1 = .int .i64 (sumA (l.take k)) ∧ u2 = .int .i64 (sumD (l.take k)) ∧ Hid ((l.take k).all okC = true ∧ okN (sumA (l.take k)) = true ∧ okN (sumD (l.take k)) = true) ∧ wr = w) (fun _ _ i _ => n - (intOf i).toNat)
    case atStart => exact ⟨0, Nat.zero_le _, rfl, rfl, rfl, hid ⟨rfl, rfl, rfl⟩, rfl⟩
    case round =>
      obtain ⟨k, hk, rfl, rfl, rfl, HA, rfl⟩ := hrel
      by_cases hlt : k < n
      · obtain ⟨x, hx⟩ : ∃ x, l[k]? = some x := ⟨_, List.getElem?_eq_getElem (by have := HN.out; omega)⟩
        obtain ⟨b1, o1, e1, hb1, d0, d1, d2⟩ := rdK_at HR.out hx
        subst e1
        have HX := hid hx
        have HSA := hid (sumA_take hx)
        have HSD := hid (sumD_take hx)
        have hsa := okN_iff.1 HA.out.2.1
        have hsd := okN_iff.1 HA.out.2.2
        obtain ⟨sA, hsA⟩ : ∃ s, s = sumA (l.take k) := ⟨_, rfl⟩
        obtain ⟨sD, hsD⟩ : ∃ s, s = sumD (l.take k) := ⟨_, rfl⟩
        rw [← hsA] at HSA hsa ⊢
        rw [← hsD] at HSD hsd ⊢
        have HI := hid (fun m => rIn_any m wr)
        have i1 : (0 : Int) ≤ (k : Int) := by omega
        have i2 : (k : Int) < (n : Int) := by omega
        clear hx hb1 hsA hsD
        cases ea : okN x.a with
        | false =>
          have HI1 := hid (HI.out x.a)
          rw [ea] at HI1
          have HZ := hid (sm_no (okL_no HX.out (by unfold okC; rw [ea]; rfl)))
          clear ea HI
          go_wp2_with fail
          refine HI1.out.mono ?_
          rintro e w1 ⟨rfl, rfl⟩
          go_wp2_with fail
          go_ret3
          exact ⟨by rw [HZ.out]; rfl, rfl⟩
        | true =>
          have HI1 := hid (HI.out x.a)
          rw [ea] at HI1
          have hxa := okN_iff.1 ea
          cases ed : okN x.d with
          | false =>
            have HI2 := hid (HI.out x.d)
            rw [ed] at HI2
            have HZ := hid (sm_no (okL_no HX.out (by unfold okC; rw [ed, Bool.and_false])))
            clear ea ed HI
            go_wp2_with fail
            refine HI1.out.mono ?_
            rintro e w1 ⟨rfl, rfl⟩
            go_wp2_with fail
            refine HI2.out.mono ?_
            rintro e w2 ⟨rfl, rfl⟩
            go_wp2_with fail
            go_ret3
            exact ⟨by rw [HZ.out]; rfl, rfl⟩
          | true =>
            have HI2 := hid (HI.out x.d)
            rw [ed] at HI2
            have hxd := okN_iff.1 ed
            have HC := hid (all_take HX.out HA.out.1 (by unfold okC; rw [ea, ed]; rfl))
            have s1 : IntKind.i64.wrap (sA + x.a) = sA + x.a := wrapI (by omega) (by omega)
            have s2 : IntKind.i64.wrap (sD + x.d) = sD + x.d := wrapI (by omega) (by omega)
            obtain ⟨tA, htA⟩ : ∃ t, t = sumA (l.take (k + 1)) := ⟨_, rfl⟩
            obtain ⟨tD, htD⟩ : ∃ t, t = sumD (l.take (k + 1)) := ⟨_, rfl⟩
            have HTA := hid htA
            have HTD := hid htD
            rw [← HSA.out, ← htA] at s1
            rw [← HSD.out, ← htD] at s2
            have s1' : IntKind.i64.wrap (sA + x.a) = tA := by rw [htA, HSA.out]; exact wrapI (by omega) (by omega)
            have s2' : IntKind.i64.wrap (sD + x.d) = tD := by rw [htD, HSD.out]; exact wrapI (by omega) (by omega)
            clear ea ed s1 s2 htA htD hxa hxd hsa hsd
            cases et : okN tA with
            | false =>
              have HI3 := hid (HI.out tA)
              rw [et] at HI3
              have HZ := hid (sm_no (okL_part HC.out (.inl (by rw [← HTA.out]; exact et))))
              clear et HI
              go_wp2_with fail
              refine HI1.out.mono ?_
              rintro e w1 ⟨rfl, rfl⟩
              go_wp2_with fail
              refine HI2.out.mono ?_
              rintro e w2 ⟨rfl, rfl⟩
              go_wp2_with fail
              refine HI3.out.mono ?_
              rintro e w3 ⟨rfl, rfl⟩
              go_wp2_with fail
              go_ret3
              exact ⟨by rw [HZ.out]; rfl, rfl⟩
            | true =>
              have HI3 := hid (HI.out tA)
              rw [et] at HI3
              have HTA2 := hid et
              clear et
              cases eu : okN tD with
              | false =>
                have HI4 := hid (HI.out tD)
                rw [eu] at HI4
                have HZ := hid (sm_no (okL_part HC.out (.inr (by rw [← HTD.out]; exact eu))))
                clear eu HI
                go_wp2_with fail
                refine HI1.out.mono ?_
                rintro e w1 ⟨rfl, rfl⟩
                go_wp2_with fail
                refine HI2.out.mono ?_
                rintro e w2 ⟨rfl, rfl⟩
                go_wp2_with fail
                refine HI3.out.mono ?_
                rintro e w3 ⟨rfl, rfl⟩
                go_wp2_with fail
                refine HI4.out.mono ?_
                rintro e w4 ⟨rfl, rfl⟩
                go_wp2_with fail
                go_ret3
                exact ⟨by rw [HZ.out]; rfl, rfl⟩
              | true =>
                have HI4 := hid (HI.out tD)
                rw [eu] at HI4
                have HREL : Hid ((l.take (k + 1)).all okC = true ∧ okN (sumA (l.take (k + 1))) = true ∧ okN (sumD (l.take (k + 1))) = true) := hid ⟨HC.out, by rw [← HTA.out]; exact HTA2.out, by rw [← HTD.out]; exact eu⟩
                clear eu HI
                go_wp2_with fail
                refine HI1.out.mono ?_
                rintro e w1 ⟨rfl, rfl⟩
                go_wp2_with fail
                refine HI2.out.mono ?_
                rintro e w2 ⟨rfl, rfl⟩
                go_wp2_with fail
                refine HI3.out.mono ?_
                rintro e w3 ⟨rfl, rfl⟩
                go_wp2_with fail
                refine HI4.out.mono ?_
                rintro e w4 ⟨rfl, rfl⟩
                go_wp2_with fail
                go_roundw
                case rel => exact ⟨k + 1, by omega, by go_num, by rw [← HTA.out], by rw [← HTD.out], HREL, by first | rfl | trivial⟩
                case measure => simp [intOf]; omega
      · have HT : Hid (l.take k = l) := hid (List.take_of_length_le (by have := HN.out; omega))
        rw [HT.out] at HA ⊢
        have HZ := hid (sm_yes (okL_iff.2 ⟨by have := HN.out; have := HL.out; omega, HA.out.1, HA.out.2.1, HA.out.2.2⟩))
        go_wp2_with fail
        go_ret3
        exact ⟨by rw [HZ.out]; rfl, rfl⟩
  · have HZ := hid (sm_no (okL_long hlong))
    rw [HZ.out]
    obtain ⟨n, hnn⟩ : ∃ n, n = l.length := ⟨_, rfl⟩
    rw [← hnn] at hlong hn ⊢
    have hn' : ¬ (n : Int) ≤ 65536 := by omega
    clear hr hnn HZ
    go_enter Tryd.func13, Tryd.ntmps13
    go_wp2_with fail
    go_ret3
    exact ⟨rfl, rfl⟩
theorem rt_yes_yes {l : List Ct} {C0 C1 C2 : ByteArray} (hy : okL l = true) (_h0 : C0 = bB (cnt l.length tFile tChanged)) (_h1 : C1 = bB (cnt (sumA l) tIns tPlus)) (_h2 : C2 = bB (cnt (sumD l) tDel tMinus)) (ha :  0 < sumA l) (hd :  0 < sumD l) : (((((⟨#[32]⟩ ++ C0) ++ ⟨#[44, 32]⟩) ++ C1) ++ ⟨#[44, 32]⟩) ++ C2) ++ ⟨#[10]⟩ = totS l := by
  rw [tot_yes hy]
  apply ba_ext
  rw [bB_data]
  unfold total
  rw [if_pos ha, if_pos hd]
  subst _h0 _h1 _h2
  simp [bB]
theorem rt_yes_no {l : List Ct} {C0 C1 C2 : ByteArray} (hy : okL l = true) (_h0 : C0 = bB (cnt l.length tFile tChanged)) (_h1 : C1 = bB (cnt (sumA l) tIns tPlus)) (_h2 : C2 = bB (cnt (sumD l) tDel tMinus)) (ha :  0 < sumA l) (hd : ¬ 0 < sumD l) : (((⟨#[32]⟩ ++ C0) ++ ⟨#[44, 32]⟩) ++ C1) ++ ⟨#[10]⟩ = totS l := by
  rw [tot_yes hy]
  apply ba_ext
  rw [bB_data]
  unfold total
  rw [if_pos ha, if_neg hd]
  subst _h0 _h1 _h2
  simp [bB]
theorem rt_no_yes {l : List Ct} {C0 C1 C2 : ByteArray} (hy : okL l = true) (_h0 : C0 = bB (cnt l.length tFile tChanged)) (_h1 : C1 = bB (cnt (sumA l) tIns tPlus)) (_h2 : C2 = bB (cnt (sumD l) tDel tMinus)) (ha : ¬ 0 < sumA l) (hd :  0 < sumD l) : (((⟨#[32]⟩ ++ C0) ++ ⟨#[44, 32]⟩) ++ C2) ++ ⟨#[10]⟩ = totS l := by
  rw [tot_yes hy]
  apply ba_ext
  rw [bB_data]
  unfold total
  rw [if_neg ha, if_pos hd]
  subst _h0 _h1 _h2
  simp [bB]
theorem rt_no_no {l : List Ct} {C0 C1 C2 : ByteArray} (hy : okL l = true) (_h0 : C0 = bB (cnt l.length tFile tChanged)) (_h1 : C1 = bB (cnt (sumA l) tIns tPlus)) (_h2 : C2 = bB (cnt (sumD l) tDel tMinus)) (ha : ¬ 0 < sumA l) (hd : ¬ 0 < sumD l) : (⟨#[32]⟩ ++ C0) ++ ⟨#[10]⟩ = totS l := by
  rw [tot_yes hy]
  apply ba_ext
  rw [bB_data]
  unfold total
  rw [if_neg ha, if_neg hd]
  subst _h0 _h1 _h2
  simp [bB]
/-- the number of the error -/
def rtN (l : List Ct) : Int := if okL l = true then 0 else 1
end Go.Proofs.YtnbonghlmdnabaaDoor.Sx
