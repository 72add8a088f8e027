/-
  PROVED: the card of GlobBelow, for inputs of bulk up to 1048576: for every three such strings GlobBelow returns true, and they read afterwards as they read before; the card ties what errors.errorType and the two tables of unicode/utf8 hold to the program's text (a pruned copy of the project: the packages that this law loads).
-/
import Derived.Test.YtohfhchpflfokaaGreatDoorHt
import Derived.Test.YtohfhchpflfokaaGreatDoorHr
namespace Go.Proofs.YtohfhchpflfokaaGreatDoor.globBelow
open Go.ChangeShapes Go.WideShapes Go.ChangeAt Go.RowKit
open Go.ChangeMaps (open_string shut_string)

theorem cat_l (a b : ByteArray) : (a ++ b).data.toList = a.data.toList ++ b.data.toList := by simp
theorem cat_s (a b : ByteArray) : (a ++ b).size = a.size + b.size := by simp

set_option maxHeartbeats 8000000 in
set_option maxRecDepth 100000 in
theorem walk (s p n : ByteArray) (w : World) (hs : s.size ≤ 1048576) (hp : p.size ≤ 1048576) (hn : n.size ≤ 1048576) (hr : ErrVar w ∧ MaxVar w) :
    Calls Tryz.prog 4 #[.string s, .string p, .string n] w fun e w' => e = .returned (.bool true) ∧ Below w.heap.size w w' := by
  have HS : Hid (St w w) := hid ⟨hr.1, hr.2, Below.refl _ _⟩
  clear hr
  cases hru : rul s.data.toList with
  | none =>
    have HN := hid hru
    clear hru
    go_enter Tryz.func4, Tryz.ntmps4
    go_wp2_with fail
    refine (read_bad HS.out s HN.out (by omega)).mono ?_
    rintro e w1 ⟨k, m, rfl, hb1⟩
    have HS1 := hid (HS.out.next hb1)
    clear hb1
    go_wp2_with fail
    refine (works_st HS1.out).mono ?_
    rintro e w2 ⟨rfl, hb2⟩
    go_wp2
    go_ret
    exact ⟨rfl, hb2⟩
  | some rs =>
    have HN := hid hru
    clear hru
    obtain ⟨X, hX⟩ : ∃ X : ByteArray, X = p ++ ⟨#[47]⟩ ++ n ++ ⟨#[47, 120]⟩ := ⟨_, rfl⟩
    have hXs : X.size ≤ 10000000 := by rw [hX, cat_s, cat_s, cat_s]; have : (ByteArray.mk #[47]).size = 1 := rfl; have : (ByteArray.mk #[47, 120]).size = 2 := rfl; omega
    have HXB : Hid (igP rs p.data.toList true = true → igP rs X.data.toList false = true) := hid (fun h => by
      have e : X.data.toList = p.data.toList ++ 47 :: (n.data.toList ++ 47 :: [120]) := by rw [hX, cat_l, cat_l, cat_l]; simp
      rw [e]; exact igP_below rs _ _ h)
    have HX := hid hX
    clear hX
    obtain ⟨T, hT⟩ : ∃ T : ByteArray, T = s ++ ⟨#[10]⟩ ++ s := ⟨_, rfl⟩
    have hTs : T.size ≤ 4194304 := by rw [hT, cat_s, cat_s]; have : (ByteArray.mk #[10]).size = 1 := rfl; omega
    have HTR : Hid (rul T.data.toList = some (rs ++ rs)) := hid (by
      have e : T.data.toList = s.data.toList ++ 10 :: s.data.toList := by rw [hT, cat_l, cat_l]; simp
      rw [e]; exact rul_app _ _ HN.out HN.out)
    have HT := hid hT
    clear hT
    have HTW := hid (igP_twice rs p.data.toList)
    obtain ⟨E, hE⟩ : ∃ E : ByteArray, E = ⟨(Pg.esc n.data.toList).toArray⟩ := ⟨_, rfl⟩
    have HE := hid hE
    clear hE
    go_enter Tryz.func4, Tryz.ntmps4
    go_wp2_with fail
    refine (read_st HS.out s rs HN.out (by omega)).mono ?_
    rintro e w1 ⟨br, rfl, hA1, hb1⟩
    have HS1 := hid (HS.out.next hb1)
    have HA1 := hid hA1
    clear hb1 hA1 HS
    go_wp2_with fail
    refine (ig_st HS1.out HA1.out p true (by omega)).mono ?_
    rintro e w2 ⟨rfl, hb2⟩
    have HS2 := hid (HS1.out.next hb2)
    have HA2 := hid (HA1.out.next hb2)
    clear hb2 HS1 HA1
    cases hx : igP rs p.data.toList true
    case' true =>
      go_wp2_with fail
      rw [← HX.out]
      refine (ig_st HS2.out HA2.out X false hXs).mono ?_
      rintro e w3 ⟨rfl, hb3⟩
      rw [HXB.out hx]
      replace HS2 := hid (HS2.out.next hb3)
      replace HA2 := hid (HA2.out.next hb3)
      clear hb3
      rename_i w2'
      have hw3 : ∃ w2, w2 = w3 := ⟨_, rfl⟩
      clear hw3
      go_wp2_with fail
    case' false =>
      go_wp2_with fail
    all_goals
      rw [← HT.out]
      refine (read_st HS2.out T (rs ++ rs) HTR.out hTs).mono ?_
      rintro e w4 ⟨b2, rfl, hA4, hb4⟩
      have HS4 := hid (HS2.out.next hb4)
      have HA4 := hid (HA2.out.next hb4)
      have HB4 := hid hA4
      clear hb4 hA4 HS2 HA2
      go_wp2_with fail
      refine (ig_st HS4.out HB4.out p false (by omega)).mono ?_
      rintro e w5 ⟨rfl, hb5⟩
      rw [HTW.out false]
      have HS5 := hid (HS4.out.next hb5)
      have HA5 := hid (HA4.out.next hb5)
      have HB5 := hid (HB4.out.next hb5)
      clear hb5 HS4 HA4 HB4
      go_wp2_with fail
      refine (ig_st HS5.out HA5.out p false (by omega)).mono ?_
      rintro e w6 ⟨rfl, hb6⟩
      have HS6 := hid (HS5.out.next hb6)
      have HA6 := hid (HA5.out.next hb6)
      have HB6 := hid (HB5.out.next hb6)
      clear hb6 HS5 HA5 HB5
      generalize hy : igP rs p.data.toList false = y
      have HY := hid hy
      clear hy
      go_wp2_with fail
      refine (ig_st HS6.out HB6.out p true (by omega)).mono ?_
      rintro e w7 ⟨rfl, hb7⟩
      rw [HTW.out true, hx]
      have HS7 := hid (HS6.out.next hb7)
      have HA7 := hid (HA6.out.next hb7)
      clear hb7 HS6 HA6 HB6
      go_wp2_with fail
      refine (ig_st HS7.out HA7.out p true (by omega)).mono ?_
      rintro e w8 ⟨rfl, hb8⟩
      rw [hx]
      have HS8 := hid (HS7.out.next hb8)
      have HA8 := hid (HA7.out.next hb8)
      clear hb8 HS7 HA7 hx
      go_wp2_with fail
      refine (escape_any n _ (by omega)).mono ?_
      rintro e w9 ⟨rfl, hb9⟩
      rw [← HE.out]
      have HS9 := hid (HS8.out.next hb9)
      have HA9 := hid (HA8.out.next hb9)
      clear hb9 HS8 HA8
      go_wp2
      go_loopw [14] (fun i wr => ∃ k : Nat, k ≤ n.size ∧ i = .int .i64 k ∧ wr = w9 ∧ Hid ((47 : UInt8) ∉ n.data.toList.take k ∧ (10 : UInt8) ∉ n.data.toList.take k)) (fun i _ => n.size - (intOf i).toNat)
      case atStart => exact ⟨0, Nat.zero_le _, rfl, rfl, hid ⟨by simp, by simp⟩⟩
      case round =>
        obtain ⟨k, hk, rfl, rfl, HK⟩ := hrel
        by_cases hlt : k < n.size
        · have HTS := hid (take_snoc n k hlt)
          by_cases h47 : n[k] = 47
          · have hb := byte_eq h47 (m := 47) rfl
            clear h47
            go_wp2_with fail
            refine (works_st HS9.out).mono ?_
            rintro e w10 ⟨rfl, hb10⟩
            go_wp2
            go_ret
            exact ⟨rfl, hb10⟩
          · have hb := byte_ne h47 (m := 47) rfl
            by_cases h10 : n[k] = 10
            · have hb2 := byte_eq h10 (m := 10) rfl
              clear h47 h10
              go_wp2_with fail
              refine (works_st HS9.out).mono ?_
              rintro e w10 ⟨rfl, hb10⟩
              go_wp2
              go_ret
              exact ⟨rfl, hb10⟩
            · have hb2 := byte_ne h10 (m := 10) rfl
              have HK2 : Hid ((47 : UInt8) ∉ n.data.toList.take (k + 1) ∧ (10 : UInt8) ∉ n.data.toList.take (k + 1)) := hid (by
                rw [HTS.out]
                refine ⟨fun h => ?_, fun h => ?_⟩
                · rcases List.mem_append.1 h with h | h
                  · exact HK.out.1 h
                  · simp at h; exact h47 h.symm
                · rcases List.mem_append.1 h with h | h
                  · exact HK.out.2 h
                  · simp at h; exact h10 h.symm)
              clear h47 h10
              go_wp2
              go_roundw
              case rel => exact ⟨k + 1, by omega, by go_num, by first | rfl | trivial, HK2⟩
              case measure => simp [intOf]; omega
        · have hke : n.data.toList.take k = n.data.toList := List.take_of_length_le (by rw [size_data]; omega)
          have HNO : Hid ((47 : UInt8) ∉ n.data.toList ∧ (10 : UInt8) ∉ n.data.toList) := hid (by have h := HK.out; rwa [hke] at h)
          clear hke HK
          by_cases h0 : n.size = 0
          · have he := empty_yes n h0
            clear h0
            go_wp2_with fail
            refine (works_st HS9.out).mono ?_
            rintro e w10 ⟨rfl, hb10⟩
            go_wp2
            go_ret
            exact ⟨rfl, hb10⟩
          · have he := empty_no n h0
            have HNN := hid (data_ne (X := n) (by omega))
            cases hss : (n.toList == [42, 42]) with
            | true =>
              clear h0
              go_wp2_with fail
              refine (works_st HS9.out).mono ?_
              rintro e w10 ⟨rfl, hb10⟩
              go_wp2
              go_ret
              exact ⟨rfl, hb10⟩
            | false =>
              by_cases hEl : 1000 < E.size
              · clear h0
                go_wp2_with fail
                refine (works_st HS9.out).mono ?_
                rintro e w10 ⟨rfl, hb10⟩
                go_wp2
                go_ret
                exact ⟨rfl, hb10⟩
              · obtain ⟨m, hm1⟩ : ∃ m, n.size = m + 1 := ⟨n.size - 1, by omega⟩
                have hmlt : m < n.size := by omega
                have hm2 : n.size - 1 = m := by omega
                have hm3 : (n.size : Int) - 1 = (m : Int) := by omega
                have HLA : Hid (n.data.toList.getLast? = some n[m]) := hid (by
                  have h1 := take_snoc n m hmlt
                  rw [← hm1, take_all n n.size (Nat.le_refl _)] at h1
                  exact (congrArg List.getLast? h1).trans (by rw [List.getLast?_append]; rfl))
                by_cases h32 : n[m] = 32
                · have hb := byte_eq h32 (m := 32) rfl
                  clear h0 h32
                  go_wp2_with fail
                  refine (works_st HS9.out).mono ?_
                  rintro e w10 ⟨rfl, hb10⟩
                  go_wp2
                  go_ret
                  exact ⟨rfl, hb10⟩
                · have hb := byte_ne h32 (m := 32) rfl
                  have HL3 : Hid (n.data.toList.getLast? ≠ some 32) := hid (by rw [HLA.out]; intro e; exact h32 (Option.some.inj e))
                  have hen : Pg.esc n.data.toList ≠ [] := fun e => by
                    have h := esc_last HNN.out
                    rw [e] at h
                    exact HNN.out (List.getLast?_eq_none_iff.1 h.symm)
                  have hEd : E.data.toList = Pg.esc n.data.toList := by rw [HE.out]
                  have hE0 : 0 < E.size := by rw [← size_data, hEd]; exact List.length_pos_iff.2 hen
                  have hEh : (Pg.esc n.data.toList).head? = some E[0] := by
                    have hl : 0 < E.data.toList.length := by rw [size_data]; exact hE0
                    rw [← hEd, List.head?_eq_getElem?, List.getElem?_eq_getElem hl]; rfl
                  obtain ⟨Q, hQ⟩ : ∃ Q : ByteArray, Q = ⟨(nmT n.data.toList).toArray⟩ := ⟨_, rfl⟩
                  have hQd : Q.data.toList = nmT n.data.toList := by rw [hQ]
                  have h33i := esc_head_iff 33 (.inl rfl) HNN.out
                  have h35i := esc_head_iff 35 (.inr rfl) HNN.out
                  rw [hEh] at h33i h35i
                  have HQ1 : Hid (E[0] = 33 ∨ E[0] = 35 → (⟨#[92]⟩ ++ E : ByteArray) = Q) := hid (fun h => bytes_ext (by
                    rw [hQd, cat_l, hEd]
                    unfold nmT
                    rw [if_pos (by
                      rcases h with h | h
                      · exact .inl (h33i.1 (by rw [h]))
                      · exact .inr (h35i.1 (by rw [h])))]
                    rfl))
                  have HQ2 : Hid (E[0] ≠ 33 → E[0] ≠ 35 → Q = E) := hid (fun h1 h2 => bytes_ext (by
                    rw [hQd, hEd]
                    unfold nmT
                    rw [if_neg (by
                      rintro (h | h)
                      · exact h1 (Option.some.inj (h33i.2 h))
                      · exact h2 (Option.some.inj (h35i.2 h)))]))
                  have hQl : (nmT n.data.toList).length ≤ 1001 := by
                    have h1 : (Pg.esc n.data.toList).length ≤ 1000 := by rw [← hEd, size_data]; omega
                    unfold nmT
                    split
                    · rw [List.length_cons]; omega
                    · omega
                  have hQs : Q.size ≤ 1001 := by rw [← size_data, hQd]; exact hQl
                  have HLN := hid (nmT_line HNN.out HL3.out HNO.out.1 HNO.out.2 (by omega))
                  obtain ⟨r1, hr1⟩ : ∃ r1 : Ru, r1 = ⟨[none, some (n.data.toList.map Pg.lit)], false, false⟩ := ⟨_, rfl⟩
                  obtain ⟨r2, hr2⟩ : ∃ r2 : Ru, r2 = ⟨[none, some (n.data.toList.map Pg.lit)], false, true⟩ := ⟨_, rfl⟩
                  rw [← hr1, ← hr2] at HLN
                  have HQR : Hid (rul Q.data.toList = some [r1]) := hid (by rw [hQd]; exact rul_line _ HLN.out.1 HLN.out.2.1)
                  have h10b : (10 : UInt8) ∉ 33 :: nmT n.data.toList := fun h => by
                    rcases List.mem_cons.1 h with h | h
                    · exact absurd h (by decide)
                    · exact HLN.out.1 h
                  obtain ⟨B, hB⟩ : ∃ B : ByteArray, B = s ++ ⟨#[10]⟩ ++ Q ++ ⟨#[10, 33]⟩ ++ Q ++ ⟨#[10]⟩ := ⟨_, rfl⟩
                  have hBs : B.size ≤ 4194304 := by
                    rw [hB, cat_s, cat_s, cat_s, cat_s, cat_s]
                    have : (ByteArray.mk #[10]).size = 1 := rfl
                    have : (ByteArray.mk #[10, 33]).size = 2 := rfl
                    omega
                  have HBR : Hid (rul B.data.toList = some (rs ++ [r1, r2])) := hid (by
                    have e : B.data.toList = s.data.toList ++ 10 :: (nmT n.data.toList ++ 10 :: ((33 :: nmT n.data.toList) ++ 10 :: [])) := by
                      rw [hB, cat_l, cat_l, cat_l, cat_l, cat_l, hQd]; simp
                    rw [e]
                    exact rul_app _ _ HN.out (rul_app _ _ (rul_line _ HLN.out.1 HLN.out.2.1) (rul_app _ _ (rul_line _ h10b HLN.out.2.2) rul_nil)))
                  have HBK : Hid (igP (rs ++ [r1, r2]) p.data.toList false = true → y = true) := hid (fun h => by
                    rw [hr1, hr2] at h
                    rw [← HY.out]
                    exact igP_back rs _ _ _ h)
                  obtain ⟨D, hD⟩ : ∃ D : ByteArray, D = ⟨#[100, 47]⟩ ++ n ++ ⟨#[47, 120]⟩ := ⟨_, rfl⟩
                  have hDs : D.size ≤ 10000000 := by
                    rw [hD, cat_s, cat_s]
                    have : (ByteArray.mk #[100, 47]).size = 2 := rfl
                    have : (ByteArray.mk #[47, 120]).size = 2 := rfl
                    omega
                  have hnn : nms n.data.toList = [n.data.toList] := nms_one _ HNN.out HNO.out.1
                  have HI1 : Hid (igP [r1] n.data.toList false = true) := hid (by rw [hr1, igP_name, hnn]; simp)
                  have HI2 : Hid (igP [r1] D.data.toList false = true) := hid (by
                    have e : D.data.toList = [100] ++ 47 :: (n.data.toList ++ 47 :: [120]) := by rw [hD, cat_l, cat_l]; simp
                    rw [hr1, igP_name, e, nms_app, nms_app, hnn]; simp)
                  have HI3 : Hid (igP [r1] p.data.toList false = decide (n.data.toList ∈ Pp.pieces p.data.toList)) := hid (by
                    rw [Bool.eq_iff_iff, hr1, igP_name, decide_eq_true_eq]
                    unfold nms
                    rw [List.mem_filter]
                    have hne := HNN.out
                    constructor
                    · exact fun h => h.1
                    · intro h
                      refine ⟨h, ?_⟩
                      cases hnd : n.data.toList with
                      | nil => exact absurd hnd hne
                      | cons c r => rfl)
                  have HB := hid hB
                  have HD := hid hD
                  have h3 : E[0] = 33 ∨ (E[0] ≠ 33 ∧ E[0] = 35) ∨ (E[0] ≠ 33 ∧ E[0] ≠ 35) := by
                    by_cases h1 : E[0] = 33
                    · exact .inl h1
                    · by_cases h2 : E[0] = 35
                      · exact .inr (.inl ⟨h1, h2⟩)
                      · exact .inr (.inr ⟨h1, h2⟩)
                  have hE0' : E.size ≤ 1000 := by omega
                  clear h0 h32 HLA hEd hEh hen hQ hQd h33i h35i hQl HLN hr1 hr2 h10b hB hD hnn HTW HTR HXB HX HE HL3
                  rcases h3 with h33 | ⟨h33, h35⟩ | ⟨h33, h35⟩
                  case' inl =>
                    have hb33 := byte_eq h33 (m := 33) rfl
                    have HQQ := hid (HQ1.out (.inl h33))
                    clear h33
                    go_wp2_with fail
                    rw [HQQ.out]
                  case' inr.inl =>
                    have hb33 := byte_ne h33 (m := 33) rfl
                    have hb35 := byte_eq h35 (m := 35) rfl
                    have HQQ := hid (HQ1.out (.inr h35))
                    clear h33 h35
                    go_wp2_with fail
                    rw [HQQ.out]
                  case' inr.inr =>
                    have hb33 := byte_ne h33 (m := 33) rfl
                    have hb35 := byte_ne h35 (m := 35) rfl
                    have hQQ := HQ2.out h33 h35
                    clear h33 h35 HQ1 HQ2
                    subst hQQ
                    go_wp2_with fail
                  all_goals
                    rw [← HB.out]
                    refine (read_st HS9.out B (rs ++ [r1, r2]) HBR.out hBs).mono ?_
                    rintro e w11 ⟨b3, rfl, hC11, hb11⟩
                    have HS11 := hid (HS9.out.next hb11)
                    have HA11 := hid (HA9.out.next hb11)
                    have HC11 := hid hC11
                    clear hb11 hC11 HS9 HA9
                    go_wp2_with fail
                    refine (ig_st HS11.out HC11.out p false (by omega)).mono ?_
                    rintro e w12 ⟨rfl, hb12⟩
                    have HS12 := hid (HS11.out.next hb12)
                    have HA12 := hid (HA11.out.next hb12)
                    clear hb12 HS11 HA11 HC11
                    cases hv : igP (rs ++ [r1, r2]) p.data.toList false
                    case' true =>
                      have HV := hid (HBK.out hv)
                      clear hv
                      go_wp2_with fail
                      refine (ig_st HS12.out HA12.out p false (by omega)).mono ?_
                      rintro e w13 ⟨rfl, hb13⟩
                      rw [HY.out, HV.out]
                      replace HS12 := hid (HS12.out.next hb13)
                      clear hb13 HA12
                      go_wp2_with fail
                    case' false =>
                      clear hv
                      go_wp2_with fail
                    all_goals
                      refine (read_st HS12.out Q [r1] HQR.out (by omega)).mono ?_
                      rintro e w14 ⟨b4, rfl, hC14, hb14⟩
                      have HS14 := hid (HS12.out.next hb14)
                      have HC14 := hid hC14
                      clear hb14 hC14 HS12
                      go_wp2_with fail
                      refine (ig_st HS14.out HC14.out n false (by omega)).mono ?_
                      rintro e w15 ⟨rfl, hb15⟩
                      rw [HI1.out]
                      have HS15 := hid (HS14.out.next hb15)
                      have HC15 := hid (HC14.out.next hb15)
                      clear hb15 HS14 HC14
                      go_wp2_with fail
                      rw [← HD.out]
                      refine (ig_st HS15.out HC15.out D false hDs).mono ?_
                      rintro e w16 ⟨rfl, hb16⟩
                      rw [HI2.out]
                      have HS16 := hid (HS15.out.next hb16)
                      have HC16 := hid (HC15.out.next hb16)
                      clear hb16 HS15 HC15
                      go_wp2_with fail
                      refine (ig_st HS16.out HC16.out p false (by omega)).mono ?_
                      rintro e w17 ⟨rfl, hb17⟩
                      rw [HI3.out]
                      have HS17 := hid (HS16.out.next hb17)
                      clear hb17 HS16 HC16
                      go_wp2_with fail
                      refine (lawHas_any p n _ (by omega)).mono ?_
                      rintro e w18 ⟨rfl, h18⟩
                      subst h18
                      generalize decide (n.data.toList ∈ Pp.pieces p.data.toList) = z
                      go_wp2_with fail
                      refine (works_st HS17.out).mono ?_
                      rintro e w19 ⟨rfl, hb19⟩
                      go_wp2
                      go_ret
                      exact ⟨rfl, hb19⟩

theorem own : ownKnob Tryz.prog.godebug = none := by kernel_rfl

set_option maxRecDepth 100000 in
theorem contract (H : Type) (enc : TypeId × Value → H) (W : World) (base : Nat) (args : Array Value) (ds gs : List (DataW H)) (before : List MemPlace)
    (hval : ∀ (j : Nat) t v, Tryz.f4.params[j]? = some t → args[j]? = some v → Value.okWide Tryz.prog W .any base t v)
    (hW : DataW.Whole enc Tryz.prog Tryz.f4.params.toList Rows.globBelowSpec.vars false W args.toList ds gs before)
    (hk : Rows.uptoSmall H (ds ++ gs) = true)
    (hL : laidMetH Tryz.prog Rows.globBelowUptoRow.laid W)
    (hSh : W.ShapedOpen Tryz.prog)
    : Calls Tryz.prog 4 args W fun e W' => ∃ v, e = .returned v ∧ Rows.globBelowSpec.post enc Tryz.prog Tryz.f4 false true false false W args v W' := by
  have hW' := hW
  obtain ⟨p, q, hA0, hV, rfl, hfz, hnd⟩ := hW
  have hA : DataW.TrodAll enc Tryz.prog W 0 (fun _ => true) true Tryz.f4.params.toList args.toList ds p := hA0
  rw [Tryz.params4] at hA hval
  obtain ⟨v0, vs0, d0, ds0, p0, q0, hargs0, rfl, rfl, h0, r0⟩ := trodAll_cons hA
  obtain ⟨v1, vs1, d1, ds1, p1, q1, hargs1, rfl, rfl, h1, r1⟩ := trodAll_cons r0
  obtain ⟨v2, vs2, d2, ds2, p2, q2, hargs2, rfl, rfl, h2, r2⟩ := trodAll_cons r1
  obtain ⟨rfl, rfl, rfl⟩ := trodAll_nil r2
  obtain rfl : args = #[v0, v1, v2] := by cases args; simp_all
  obtain ⟨rfl, rfl⟩ := trodVars_none hV
  obtain ⟨x0, rfl, rfl, rfl, hmax0⟩ := open_string Tryz.underlying9 (hval 0 9 v0 rfl rfl) h0
  obtain ⟨x1, rfl, rfl, rfl, hmax1⟩ := open_string Tryz.underlying9 (hval 1 9 v1 rfl rfl) h1
  obtain ⟨x2, rfl, rfl, rfl, hmax2⟩ := open_string Tryz.underlying9 (hval 2 9 v2 rfl rfl) h2
  clear hA0
  simp only [List.append_nil] at hW' hk
  have hk' : Rows.uptoBulkAll (H := H) [DataW.lit (.string x0.data.toList), DataW.lit (.string x1.data.toList), DataW.lit (.string x2.data.toList)] ≤ 1048576 := of_decide_eq_true hk
  simp only [Rows.uptoBulkAll, Rows.uptoBulk] at hk'
  have hls0 : x0.data.toList.length = x0.size := size_data x0
  have hls1 : x1.data.toList.length = x1.size := size_data x1
  have hls2 : x2.data.toList.length = x2.size := size_data x2
  refine (walk x0 x1 x2 W (by omega) (by omega) (by omega) ⟨handle_of hL, max_of hSh⟩).mono fun e W' ⟨he, hb⟩ => ?_
  subst he
  exact ⟨_, rfl, _, _, _, [], [], [], hW', trodAll_cons_mk (shut_bool Tryz.underlying4 _) trodAll_mk0, trodAll_cons_mk (shut_string Tryz.underlying9 hmax0) (trodAll_cons_mk (shut_string Tryz.underlying9 hmax1) (trodAll_cons_mk (shut_string Tryz.underlying9 hmax2) trodAll_mk0)), rfl, hb.frame _, fun h => by cases h⟩

set_option maxRecDepth 100000 in
theorem lifted (os : Os) (started : os.Started) (H : Type) (enc : TypeId × Value → H) (F : Stop.Interp) :
    ReturnsInHanded {} Tryz.checked os 4 .any ((Rows.OpenSpec.upto Rows.globBelowSpec).preRow enc Tryz.prog Tryz.f4 Rows.globBelowUptoRow.domain false Rows.globBelowUptoRow.laid) (((Rows.OpenSpec.upto Rows.globBelowSpec).at F).post enc Tryz.prog Tryz.f4 false true false false) := by
  refine returnsInHanded_of_row (C := Tryz.checked) (s := Rows.OpenSpec.upto Rows.globBelowSpec) own started (by kernel_rfl) Tryz.func4
    (witness_row_at (enc := enc) (C := Tryz.checked) false
      { World.holding Tryz.prog os ⟨#[], #[], []⟩ with heap := ((((World.holding Tryz.prog os ⟨#[], #[], []⟩).heap.modify 0 fun
          | .cells _ t frozen => .cells #[.iface 137 (.agg #[.pointer (some ⟨4, 25, none⟩)])] t frozen
          | o => o).modify 2 fun
          | .cells _ t frozen => .cells firstCells t frozen
          | o => o).modify 3 fun
          | .cells _ t frozen => .cells rangeCells t frozen
          | o => o) }
      #[.string .empty, .string .empty, .string .empty] rfl (by kernel_rfl) (by kernel_rfl) (by kernel_rfl)
      (OpenSpec.preRow_of_cond 8 (x := ([.lit (.string []), .lit (.string []), .lit (.string [])], [], [])) (by kernel_rfl) (by kernel_rfl) (fun k hk => by cases hk; kernel_rfl) (by kernel_rfl) (laidMetH_of_parts (laidMet_of_run' 300 (by kernel_rfl) (by kernel_rfl)) (by kernel_rfl)))) ?_
  intro W base args ds gs before hval hW _ hcond hsz hL hSh _
  exact contract H enc W base args ds gs before hval hW (hcond _ rfl) hL hSh

theorem said : Rows.GlobBelowUptoSaid :=
  OpenClaim.holds_of_cond 4 Tryz.f4 rfl rfl rfl rfl rfl rfl rfl ⟨rfl, rfl, rfl, rfl, rfl⟩ rfl rfl rfl rfl rfl (by kernel_rfl) Tryz.func4 (by kernel_rfl)
    (of_decide_eq_true (by kernel_rfl)) (by unfold Func.isWrapper; first | (rw [if_pos (by decide +kernel)]; kernel_rfl) | (rw [if_neg (by decide +kernel)]; exact ⟨rfl, rfl⟩))
    (fun os started H enc _ F => by rw [OpenClaim.pre_eq_preRow]; exact lifted os started H enc F)

theorem plain (f : FuncId) (fn : Func) (hf : Tryz.pinned.checked.prog.funcNamed Rows.globBelowUptoRow.func = some f) (hfn : Tryz.pinned.checked.prog.funcs[f]? = some fn) :
    true = Tryz.pinned.checked.prog.looks [] ∧ ∀ (j : Nat) t, fn.params[j]? = some t → Tryz.pinned.checked.prog.wantsStandIn t = false := by
  obtain rfl : f = 4 := Option.some.inj ((show Tryz.prog.funcNamed Rows.globBelowUptoRow.func = some 4 by kernel_rfl).symm.trans hf) |>.symm
  obtain rfl : fn = Tryz.f4 := (Option.some.inj (Tryz.func4.symm.trans hfn)).symm
  refine ⟨by kernel_rfl, fun j t ht => ?_⟩
  rw [Tryz.params4] at ht
  have hm : t = 9 := by simpa using Array.mem_of_getElem? ht
  rcases hm with rfl
  · exact (show Tryz.prog.wantsStandIn 9 = false by kernel_rfl)

theorem card : Rows.GlobBelowUptoCardSaid :=
  Claim7.holds_tied_plain_at .later [] _ _ _ _ said (fun _ h => by cases h) (by kernel_rfl) (fun _ h => by cases h) globBelowUpto_row_tie rfl ⟨rfl, rfl⟩ (by kernel_rfl) rfl plain (by kernel_rfl)
end Go.Proofs.YtohfhchpflfokaaGreatDoor.globBelow
