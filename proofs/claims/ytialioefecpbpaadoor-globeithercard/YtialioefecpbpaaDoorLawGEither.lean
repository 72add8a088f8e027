/-
  PROVED: the card of GlobEither: for every two strings GlobEither returns true, and they read afterwards as they read before; the card ties what errors.errorType holds to the program's text (a pruned copy of the project: the packages that this law loads).
-/
import Derived.Test.YtialioefecpbpaaDoorRv
import Derived.Test.YtialioefecpbpaaDoorHandle
namespace Go.Proofs.YtialioefecpbpaaDoor.globEither
open Go.ChangeShapes Go.WideShapes Go.ChangeAt Go.RowKit
open Go.ChangeMaps (open_string shut_string)

/-- a string of one byte -/
def oneB (j : Nat) : ByteArray := ⟨#[UInt8.ofNat j]⟩
theorem size_one (j : Nat) : (oneB j).size = 1 := rfl
theorem conv_one (w : World) (j : Nat) (hj : j < 256) : (convert 35 9 (.slice (some ⟨w.heap.size, 0, none⟩) 1 1)).run Tryd.prog (w.alloc (.cells #[.int .u8 j] 5)) = .ok (.string (oneB j)) (w.alloc (.cells #[.int .u8 j] 5)) := by
  have e : (UInt8.ofNat j).toNat = j := by rw [UInt8.toNat_ofNat']; omega
  refine conv_own (base := w.heap.size) (l := [UInt8.ofNat j]) ⟨rfl, .inr ⟨w.heap.size, 1, #[.int .u8 j], rfl, Nat.le_refl _, heap_alloc_new _ _, Nat.le_refl _, by unfold maxLen; omega, rfl, ?_⟩⟩
  simp [Lib.byteCells, e]
theorem mt_pos (q : UInt8 → Bool) (j : Nat) : Pg.mt [⟨false, q⟩] (oneB j).data.toList = q (UInt8.ofNat j) := Pg.mt_single rfl _
theorem mt_neg (q : UInt8 → Bool) (j : Nat) : Pg.mt [⟨false, Pg.turn true q⟩] (oneB j).data.toList = !q (UInt8.ofNat j) := by
  refine (Pg.mt_single rfl _).trans ?_
  show (q (UInt8.ofNat j) != true) = _
  cases q (UInt8.ofNat j) <;> rfl
theorem cat_data (a b : ByteArray) : (a ++ b).data.toList = a.data.toList ++ b.data.toList := by simp
theorem either_one {T : ByteArray} {q : UInt8 → Bool} (c : UInt8) (h : Pg.comp (91 :: c :: (T.data.toList ++ [93])) = some [⟨false, q⟩]) (hl : T.size ≤ 1000) : cmp (ByteArray.mk #[91, c] ++ T ++ ByteArray.mk #[93]).data.toList = some [⟨false, q⟩] := by
  have e : (ByteArray.mk #[91, c] ++ T ++ ByteArray.mk #[93]).data.toList = 91 :: c :: (T.data.toList ++ [93]) := by rw [cat_data, cat_data]; rfl
  unfold cmp
  rw [e, if_neg (by simp only [List.length_cons, List.length_append, size_data, List.length_nil]; omega)]
  exact h
theorem either_sets {T : ByteArray} {L : List Pg.Pt} (hT : Pg.isNot (T.data.toList ++ [93]) = false) (h : cmp (ByteArray.mk #[91] ++ T ++ ByteArray.mk #[93]).data.toList = some L) (h1 : L.length = 1) (hl : T.size ≤ 1000) :
    ∃ q, cmp (ByteArray.mk #[91] ++ T ++ ByteArray.mk #[93]).data.toList = some [⟨false, q⟩] ∧ cmp (ByteArray.mk #[91, 33] ++ T ++ ByteArray.mk #[93]).data.toList = some [⟨false, Pg.turn true q⟩] ∧ cmp (ByteArray.mk #[91, 94] ++ T ++ ByteArray.mk #[93]).data.toList = some [⟨false, Pg.turn true q⟩] := by
  have e : (ByteArray.mk #[91] ++ T ++ ByteArray.mk #[93]).data.toList = 91 :: (T.data.toList ++ [93]) := by rw [cat_data, cat_data]; rfl
  have hc := (cmp_some h).2.1
  rw [e] at hc
  obtain ⟨q, rfl, h2⟩ := Pg.either 33 (.inl rfl) hT hc h1
  obtain ⟨q', e', h3⟩ := Pg.either 94 (.inr rfl) hT hc h1
  cases e'
  exact ⟨q, h, either_one 33 h2 hl, either_one 94 h3 hl⟩
theorem not_x (s : ByteArray) : Pg.isNot ((ByteArray.mk #[120] ++ s).data.toList ++ [93]) = false := by
  rw [cat_data]; rfl
theorem not_s (s : ByteArray) (h : 0 < s.size) (h1 : s[0] ≠ 33) (h2 : s[0] ≠ 94) : Pg.isNot (s.data.toList ++ [93]) = false := by
  have e := drop_head s 0 h
  rw [List.drop_zero] at e
  rw [e]
  simp [Pg.isNot, h1, h2]

set_option maxHeartbeats 16000000 in
set_option maxRecDepth 100000 in
theorem walk (s n : ByteArray) (w : World) (hs : s.size ≤ 140737488351232) (hn : n.size ≤ 140737488351232) (hg : ErrVar w) :
    Calls Tryd.prog 8 #[.string s, .string n] w fun e w' => e = .returned (.bool true) ∧ Below w.heap.size w w' := by
  have HG := hid hg
  clear hg
  by_cases h0 : s.size = 0
  · have he := empty_yes s h0
    obtain ⟨T, hT⟩ : ∃ T, T = ByteArray.mk #[120] ++ s := ⟨_, rfl⟩
    have HT : Hid (Pg.isNot (T.data.toList ++ [93]) = false) := hid (by rw [hT]; exact not_x s)
    have hTs : T.size ≤ 140737488351233 := by rw [hT, ByteArray.size_append]; show 1 + s.size ≤ _; omega
    have HTT := hid hT
    clear hT h0
    go_enter Tryd.func8, Tryd.ntmps8
    go_wp2_with fail
    rw [← HTT.out]
    clear HTT
    cases hP : cmp (ByteArray.mk #[91] ++ T ++ ByteArray.mk #[93]).data.toList with
    | none =>
      have h2 := cmpN_none hP
      have HR := fun W => hid (rno hP W)
      generalize cmpN (ByteArray.mk #[91] ++ T ++ ByteArray.mk #[93]).data.toList = N at h2 HR
      clear hP
      rcases h2 with rfl | rfl
      all_goals
        refine (HR _).out.mono ?_
        rintro e w1 ⟨rfl, hb1⟩
        have HG1 := hid (HG.out.below hb1)
        clear HR HG
        go_wp2_with fail
        refine (works_any _ HG1.out).mono ?_
        rintro e w2 ⟨rfl, hb2⟩
        go_wp2
        go_ret
        exact ⟨rfl, hb1.trans (hb2.mono hb1.size)⟩
    | some L =>
      have HR := fun W => hid (ryes hP W)
      have HP := hid hP
      have hLl := (cmp_some hP).2.2
      clear hP
      refine (HR _).out.mono ?_
      rintro e w1 ⟨v, rfl, hO, hb1⟩
      have HG1 := hid (HG.out.below hb1)
      obtain ⟨ad, cp, rfl, hcp⟩ := own_shape hO
      clear HR HG hO
      by_cases h1 : L.length = 1
      · by_cases hl : T.size ≤ 1000
        · obtain ⟨q, HQ1, HQ2, HQ3⟩ := either_sets HT.out HP.out h1 hl
          have t1 : ((L.length : Int) != 1) = false := by rw [h1]; rfl
          have l1 : ¬ (1000 : Int) < (T.size : Int) := by omega
          clear h1
          go_wp2_with fail
          refine (cyes HQ1 _).mono ?_
          rintro e w2 ⟨b1, rfl, hA1, hb2⟩
          have HA1 := hid hA1
          have HG2 := hid (HG1.out.below hb2)
          have hB2 := hb1.trans (hb2.mono hb1.size)
          clear hA1 hb1 hb2 HG1
          go_wp2_with fail
          refine (cyes HQ2 _).mono ?_
          rintro e w3 ⟨b2, rfl, hA2, hb3⟩
          have HA1 := hid (HA1.out.later hb3)
          have HA2 := hid hA2
          have HG3 := hid (HG2.out.below hb3)
          have hB3 := hB2.trans (hb3.mono hB2.size)
          clear hA2 hb3 HG2 hB2
          go_wp2_with fail
          refine (cyes HQ3 _).mono ?_
          rintro e w4 ⟨b3, rfl, hA3, hb4⟩
          have HA1 := hid (HA1.out.later hb4)
          have HA2 := hid (HA2.out.later hb4)
          have HA3 := hid hA3
          have HG4 := hid (HG3.out.below hb4)
          have hB4 := hB3.trans (hb4.mono hB3.size)
          clear hA3 hb4 HG3 hB3
          go_wp2
          go_loopw [13] (fun t wr => ∃ j : Nat, j ≤ 256 ∧ t = .int .i64 j ∧ Below w.heap.size w wr ∧ GlobAt wr b1 [⟨false, q⟩] ∧ GlobAt wr b2 [⟨false, Pg.turn true q⟩] ∧ GlobAt wr b3 [⟨false, Pg.turn true q⟩] ∧ ErrVar wr) (fun t _ => 256 - (intOf t).toNat)
          case atStart => exact ⟨0, Nat.zero_le _, rfl, hB4, HA1.out, HA2.out, HA3.out, HG4.out⟩
          case round =>
            obtain ⟨j, hj, rfl, hb, hA1, hA2, hA3, hE⟩ := hrel
            clear HA1 HA2 HA3 HG4 hB4
            have HA1 := hid hA1
            have HA2 := hid hA2
            have HA3 := hid hA3
            have HE := hid hE
            have hz := hb.size
            clear hA1 hA2 hA3 hE
            by_cases hjl : j < 256
            · have hcv := conv_one wr j hjl
              have hl1 := size_one j
              have hWd : Below wr.heap.size wr (wr.alloc (.cells #[.int .u8 j] 5)) := (Below.refl _ _).alloc (Nat.le_refl _) _
              have HA1 := hid (HA1.out.later hWd)
              have HA2 := hid (HA2.out.later hWd)
              have HA3 := hid (HA3.out.later hWd)
              have HE := hid (HE.out.below hWd)
              have hb1 := hb.trans (hWd.mono hz)
              have M1 := hid (mt_pos q j)
              have M2 := hid (mt_neg q j)
              clear hWd
              cases q (UInt8.ofNat j)
              all_goals
                go_wp2_with fail
                refine (match_any (oneB j) HA1.out (by omega) (by simp)).mono ?_
                rintro e w5 ⟨rfl, hb5⟩
                rw [M1.out]
                have HA1 := hid (HA1.out.later hb5)
                have HA2 := hid (HA2.out.later hb5)
                have HA3 := hid (HA3.out.later hb5)
                have HE := hid (HE.out.below hb5)
                have hB5 := hb1.trans (hb5.mono hb1.size)
                clear hb5 hb1
                go_wp2_with fail
                refine (match_any (oneB j) HA2.out (by omega) (by simp)).mono ?_
                rintro e w6 ⟨rfl, hb6⟩
                rw [M2.out]
                have HA1 := hid (HA1.out.later hb6)
                have HA2 := hid (HA2.out.later hb6)
                have HA3 := hid (HA3.out.later hb6)
                have HE := hid (HE.out.below hb6)
                have hB6 := hB5.trans (hb6.mono hB5.size)
                clear hb6 hB5
                go_wp2_with fail
                refine (match_any (oneB j) HA2.out (by omega) (by simp)).mono ?_
                rintro e w7 ⟨rfl, hb7⟩
                rw [M2.out]
                have HA1 := hid (HA1.out.later hb7)
                have HA2 := hid (HA2.out.later hb7)
                have HA3 := hid (HA3.out.later hb7)
                have HE := hid (HE.out.below hb7)
                have hB7 := hB6.trans (hb7.mono hB6.size)
                clear hb7 hB6
                go_wp2_with fail
                refine (match_any (oneB j) HA3.out (by omega) (by simp)).mono ?_
                rintro e w8 ⟨rfl, hb8⟩
                rw [M2.out]
                have HA1 := hid (HA1.out.later hb8)
                have HA2 := hid (HA2.out.later hb8)
                have HA3 := hid (HA3.out.later hb8)
                have HE := hid (HE.out.below hb8)
                have hB8 := hB7.trans (hb8.mono hB7.size)
                clear hb8 hB7 hcv hl1
                go_wp2
                go_roundw
                case rel => exact ⟨j + 1, by omega, by go_num, hB8, HA1.out, HA2.out, HA3.out, HE.out⟩
                case measure => simp [intOf]; omega
            · by_cases hn1 : n.size = 1
              · have t2 : ((n.size : Int) == 1) = true := by rw [hn1]; rfl
                go_wp2_with fail
                refine (works_any _ HE.out).mono ?_
                rintro e w6 ⟨rfl, hb6⟩
                go_wp2
                go_ret
                exact ⟨rfl, hb.trans (hb6.mono hb.size)⟩
              · have t2 : ((n.size : Int) == 1) = false := ine (by omega)
                have N1 : Hid (Pg.mt [⟨false, q⟩] n.data.toList = false) := hid (Pg.mt_single_len rfl _ (by rw [size_data]; exact hn1))
                have N2 : Hid (Pg.mt [⟨false, Pg.turn true q⟩] n.data.toList = false) := hid (Pg.mt_single_len rfl _ (by rw [size_data]; exact hn1))
                clear hn1
                go_wp2_with fail
                refine (match_any n HA1.out (by omega) (by simp)).mono ?_
                rintro e w5 ⟨rfl, hb5⟩
                rw [N1.out]
                have HA2 := hid (HA2.out.later hb5)
                have HE := hid (HE.out.below hb5)
                have hB5 := hb.trans (hb5.mono hb.size)
                clear hb5
                go_wp2_with fail
                refine (match_any n HA2.out (by omega) (by simp)).mono ?_
                rintro e w6 ⟨rfl, hb6⟩
                rw [N2.out]
                have HE := hid (HE.out.below hb6)
                have hB6 := hB5.trans (hb6.mono hB5.size)
                clear hb6
                go_wp2_with fail
                refine (works_any _ HE.out).mono ?_
                rintro e w7 ⟨rfl, hb7⟩
                go_wp2
                go_ret
                exact ⟨rfl, hB6.trans (hb7.mono hB6.size)⟩
        · have l1 : (1000 : Int) < (T.size : Int) := by omega
          have t1 : ((L.length : Int) != 1) = false := by rw [h1]; rfl
          clear h1
          go_wp2_with fail
          refine (works_any _ HG1.out).mono ?_
          rintro e w2 ⟨rfl, hb2⟩
          go_wp2
          go_ret
          exact ⟨rfl, hb1.trans (hb2.mono hb1.size)⟩
      · have t1 : ((L.length : Int) != 1) = true := by rw [bne_iff_ne]; omega
        go_wp2_with fail
        refine (works_any _ HG1.out).mono ?_
        rintro e w2 ⟨rfl, hb2⟩
        go_wp2
        go_ret
        exact ⟨rfl, hb1.trans (hb2.mono hb1.size)⟩
  · have h00 : 0 < s.size := by omega
    by_cases h33 : s[0] = 33
    · have he := empty_no s h0
      have i0 : (0 : Int) < (s.size : Int) := by omega
      have t33 := byte_eq h33 (m := 33) rfl
      obtain ⟨T, hT⟩ : ∃ T, T = ByteArray.mk #[120] ++ s := ⟨_, rfl⟩
      have HT : Hid (Pg.isNot (T.data.toList ++ [93]) = false) := hid (by rw [hT]; exact not_x s)
      have hTs : T.size ≤ 140737488351233 := by rw [hT, ByteArray.size_append]; show 1 + s.size ≤ _; omega
      have HTT := hid hT
      clear hT h0 h33
      go_enter Tryd.func8, Tryd.ntmps8
      go_wp2_with fail
      rw [← HTT.out]
      clear HTT
      cases hP : cmp (ByteArray.mk #[91] ++ T ++ ByteArray.mk #[93]).data.toList with
      | none =>
        have h2 := cmpN_none hP
        have HR := fun W => hid (rno hP W)
        generalize cmpN (ByteArray.mk #[91] ++ T ++ ByteArray.mk #[93]).data.toList = N at h2 HR
        clear hP
        rcases h2 with rfl | rfl
        all_goals
          refine (HR _).out.mono ?_
          rintro e w1 ⟨rfl, hb1⟩
          have HG1 := hid (HG.out.below hb1)
          clear HR HG
          go_wp2_with fail
          refine (works_any _ HG1.out).mono ?_
          rintro e w2 ⟨rfl, hb2⟩
          go_wp2
          go_ret
          exact ⟨rfl, hb1.trans (hb2.mono hb1.size)⟩
      | some L =>
        have HR := fun W => hid (ryes hP W)
        have HP := hid hP
        have hLl := (cmp_some hP).2.2
        clear hP
        refine (HR _).out.mono ?_
        rintro e w1 ⟨v, rfl, hO, hb1⟩
        have HG1 := hid (HG.out.below hb1)
        obtain ⟨ad, cp, rfl, hcp⟩ := own_shape hO
        clear HR HG hO
        by_cases h1 : L.length = 1
        · by_cases hl : T.size ≤ 1000
          · obtain ⟨q, HQ1, HQ2, HQ3⟩ := either_sets HT.out HP.out h1 hl
            have t1 : ((L.length : Int) != 1) = false := by rw [h1]; rfl
            have l1 : ¬ (1000 : Int) < (T.size : Int) := by omega
            clear h1
            go_wp2_with fail
            refine (cyes HQ1 _).mono ?_
            rintro e w2 ⟨b1, rfl, hA1, hb2⟩
            have HA1 := hid hA1
            have HG2 := hid (HG1.out.below hb2)
            have hB2 := hb1.trans (hb2.mono hb1.size)
            clear hA1 hb1 hb2 HG1
            go_wp2_with fail
            refine (cyes HQ2 _).mono ?_
            rintro e w3 ⟨b2, rfl, hA2, hb3⟩
            have HA1 := hid (HA1.out.later hb3)
            have HA2 := hid hA2
            have HG3 := hid (HG2.out.below hb3)
            have hB3 := hB2.trans (hb3.mono hB2.size)
            clear hA2 hb3 HG2 hB2
            go_wp2_with fail
            refine (cyes HQ3 _).mono ?_
            rintro e w4 ⟨b3, rfl, hA3, hb4⟩
            have HA1 := hid (HA1.out.later hb4)
            have HA2 := hid (HA2.out.later hb4)
            have HA3 := hid hA3
            have HG4 := hid (HG3.out.below hb4)
            have hB4 := hB3.trans (hb4.mono hB3.size)
            clear hA3 hb4 HG3 hB3
            go_wp2
            go_loopw [13] (fun t wr => ∃ j : Nat, j ≤ 256 ∧ t = .int .i64 j ∧ Below w.heap.size w wr ∧ GlobAt wr b1 [⟨false, q⟩] ∧ GlobAt wr b2 [⟨false, Pg.turn true q⟩] ∧ GlobAt wr b3 [⟨false, Pg.turn true q⟩] ∧ ErrVar wr) (fun t _ => 256 - (intOf t).toNat)
            case atStart => exact ⟨0, Nat.zero_le _, rfl, hB4, HA1.out, HA2.out, HA3.out, HG4.out⟩
            case round =>
              obtain ⟨j, hj, rfl, hb, hA1, hA2, hA3, hE⟩ := hrel
              clear HA1 HA2 HA3 HG4 hB4
              have HA1 := hid hA1
              have HA2 := hid hA2
              have HA3 := hid hA3
              have HE := hid hE
              have hz := hb.size
              clear hA1 hA2 hA3 hE
              by_cases hjl : j < 256
              · have hcv := conv_one wr j hjl
                have hl1 := size_one j
                have hWd : Below wr.heap.size wr (wr.alloc (.cells #[.int .u8 j] 5)) := (Below.refl _ _).alloc (Nat.le_refl _) _
                have HA1 := hid (HA1.out.later hWd)
                have HA2 := hid (HA2.out.later hWd)
                have HA3 := hid (HA3.out.later hWd)
                have HE := hid (HE.out.below hWd)
                have hb1 := hb.trans (hWd.mono hz)
                have M1 := hid (mt_pos q j)
                have M2 := hid (mt_neg q j)
                clear hWd
                cases q (UInt8.ofNat j)
                all_goals
                  go_wp2_with fail
                  refine (match_any (oneB j) HA1.out (by omega) (by simp)).mono ?_
                  rintro e w5 ⟨rfl, hb5⟩
                  rw [M1.out]
                  have HA1 := hid (HA1.out.later hb5)
                  have HA2 := hid (HA2.out.later hb5)
                  have HA3 := hid (HA3.out.later hb5)
                  have HE := hid (HE.out.below hb5)
                  have hB5 := hb1.trans (hb5.mono hb1.size)
                  clear hb5 hb1
                  go_wp2_with fail
                  refine (match_any (oneB j) HA2.out (by omega) (by simp)).mono ?_
                  rintro e w6 ⟨rfl, hb6⟩
                  rw [M2.out]
                  have HA1 := hid (HA1.out.later hb6)
                  have HA2 := hid (HA2.out.later hb6)
                  have HA3 := hid (HA3.out.later hb6)
                  have HE := hid (HE.out.below hb6)
                  have hB6 := hB5.trans (hb6.mono hB5.size)
                  clear hb6 hB5
                  go_wp2_with fail
                  refine (match_any (oneB j) HA2.out (by omega) (by simp)).mono ?_
                  rintro e w7 ⟨rfl, hb7⟩
                  rw [M2.out]
                  have HA1 := hid (HA1.out.later hb7)
                  have HA2 := hid (HA2.out.later hb7)
                  have HA3 := hid (HA3.out.later hb7)
                  have HE := hid (HE.out.below hb7)
                  have hB7 := hB6.trans (hb7.mono hB6.size)
                  clear hb7 hB6
                  go_wp2_with fail
                  refine (match_any (oneB j) HA3.out (by omega) (by simp)).mono ?_
                  rintro e w8 ⟨rfl, hb8⟩
                  rw [M2.out]
                  have HA1 := hid (HA1.out.later hb8)
                  have HA2 := hid (HA2.out.later hb8)
                  have HA3 := hid (HA3.out.later hb8)
                  have HE := hid (HE.out.below hb8)
                  have hB8 := hB7.trans (hb8.mono hB7.size)
                  clear hb8 hB7 hcv hl1
                  go_wp2
                  go_roundw
                  case rel => exact ⟨j + 1, by omega, by go_num, hB8, HA1.out, HA2.out, HA3.out, HE.out⟩
                  case measure => simp [intOf]; omega
              · by_cases hn1 : n.size = 1
                · have t2 : ((n.size : Int) == 1) = true := by rw [hn1]; rfl
                  go_wp2_with fail
                  refine (works_any _ HE.out).mono ?_
                  rintro e w6 ⟨rfl, hb6⟩
                  go_wp2
                  go_ret
                  exact ⟨rfl, hb.trans (hb6.mono hb.size)⟩
                · have t2 : ((n.size : Int) == 1) = false := ine (by omega)
                  have N1 : Hid (Pg.mt [⟨false, q⟩] n.data.toList = false) := hid (Pg.mt_single_len rfl _ (by rw [size_data]; exact hn1))
                  have N2 : Hid (Pg.mt [⟨false, Pg.turn true q⟩] n.data.toList = false) := hid (Pg.mt_single_len rfl _ (by rw [size_data]; exact hn1))
                  clear hn1
                  go_wp2_with fail
                  refine (match_any n HA1.out (by omega) (by simp)).mono ?_
                  rintro e w5 ⟨rfl, hb5⟩
                  rw [N1.out]
                  have HA2 := hid (HA2.out.later hb5)
                  have HE := hid (HE.out.below hb5)
                  have hB5 := hb.trans (hb5.mono hb.size)
                  clear hb5
                  go_wp2_with fail
                  refine (match_any n HA2.out (by omega) (by simp)).mono ?_
                  rintro e w6 ⟨rfl, hb6⟩
                  rw [N2.out]
                  have HE := hid (HE.out.below hb6)
                  have hB6 := hB5.trans (hb6.mono hB5.size)
                  clear hb6
                  go_wp2_with fail
                  refine (works_any _ HE.out).mono ?_
                  rintro e w7 ⟨rfl, hb7⟩
                  go_wp2
                  go_ret
                  exact ⟨rfl, hB6.trans (hb7.mono hB6.size)⟩
          · have l1 : (1000 : Int) < (T.size : Int) := by omega
            have t1 : ((L.length : Int) != 1) = false := by rw [h1]; rfl
            clear h1
            go_wp2_with fail
            refine (works_any _ HG1.out).mono ?_
            rintro e w2 ⟨rfl, hb2⟩
            go_wp2
            go_ret
            exact ⟨rfl, hb1.trans (hb2.mono hb1.size)⟩
        · have t1 : ((L.length : Int) != 1) = true := by rw [bne_iff_ne]; omega
          go_wp2_with fail
          refine (works_any _ HG1.out).mono ?_
          rintro e w2 ⟨rfl, hb2⟩
          go_wp2
          go_ret
          exact ⟨rfl, hb1.trans (hb2.mono hb1.size)⟩
    · by_cases h94 : s[0] = 94
      · have he := empty_no s h0
        have i0 : (0 : Int) < (s.size : Int) := by omega
        have t33 := byte_ne h33 (m := 33) rfl
        have t94 := byte_eq h94 (m := 94) rfl
        obtain ⟨T, hT⟩ : ∃ T, T = ByteArray.mk #[120] ++ s := ⟨_, rfl⟩
        have HT : Hid (Pg.isNot (T.data.toList ++ [93]) = false) := hid (by rw [hT]; exact not_x s)
        have hTs : T.size ≤ 140737488351233 := by rw [hT, ByteArray.size_append]; show 1 + s.size ≤ _; omega
        have HTT := hid hT
        clear hT h0 h33 h94
        go_enter Tryd.func8, Tryd.ntmps8
        go_wp2_with fail
        rw [← HTT.out]
        clear HTT
        cases hP : cmp (ByteArray.mk #[91] ++ T ++ ByteArray.mk #[93]).data.toList with
        | none =>
          have h2 := cmpN_none hP
          have HR := fun W => hid (rno hP W)
          generalize cmpN (ByteArray.mk #[91] ++ T ++ ByteArray.mk #[93]).data.toList = N at h2 HR
          clear hP
          rcases h2 with rfl | rfl
          all_goals
            refine (HR _).out.mono ?_
            rintro e w1 ⟨rfl, hb1⟩
            have HG1 := hid (HG.out.below hb1)
            clear HR HG
            go_wp2_with fail
            refine (works_any _ HG1.out).mono ?_
            rintro e w2 ⟨rfl, hb2⟩
            go_wp2
            go_ret
            exact ⟨rfl, hb1.trans (hb2.mono hb1.size)⟩
        | some L =>
          have HR := fun W => hid (ryes hP W)
          have HP := hid hP
          have hLl := (cmp_some hP).2.2
          clear hP
          refine (HR _).out.mono ?_
          rintro e w1 ⟨v, rfl, hO, hb1⟩
          have HG1 := hid (HG.out.below hb1)
          obtain ⟨ad, cp, rfl, hcp⟩ := own_shape hO
          clear HR HG hO
          by_cases h1 : L.length = 1
          · by_cases hl : T.size ≤ 1000
            · obtain ⟨q, HQ1, HQ2, HQ3⟩ := either_sets HT.out HP.out h1 hl
              have t1 : ((L.length : Int) != 1) = false := by rw [h1]; rfl
              have l1 : ¬ (1000 : Int) < (T.size : Int) := by omega
              clear h1
              go_wp2_with fail
              refine (cyes HQ1 _).mono ?_
              rintro e w2 ⟨b1, rfl, hA1, hb2⟩
              have HA1 := hid hA1
              have HG2 := hid (HG1.out.below hb2)
              have hB2 := hb1.trans (hb2.mono hb1.size)
              clear hA1 hb1 hb2 HG1
              go_wp2_with fail
              refine (cyes HQ2 _).mono ?_
              rintro e w3 ⟨b2, rfl, hA2, hb3⟩
              have HA1 := hid (HA1.out.later hb3)
              have HA2 := hid hA2
              have HG3 := hid (HG2.out.below hb3)
              have hB3 := hB2.trans (hb3.mono hB2.size)
              clear hA2 hb3 HG2 hB2
              go_wp2_with fail
              refine (cyes HQ3 _).mono ?_
              rintro e w4 ⟨b3, rfl, hA3, hb4⟩
              have HA1 := hid (HA1.out.later hb4)
              have HA2 := hid (HA2.out.later hb4)
              have HA3 := hid hA3
              have HG4 := hid (HG3.out.below hb4)
              have hB4 := hB3.trans (hb4.mono hB3.size)
              clear hA3 hb4 HG3 hB3
              go_wp2
              go_loopw [13] (fun t wr => ∃ j : Nat, j ≤ 256 ∧ t = .int .i64 j ∧ Below w.heap.size w wr ∧ GlobAt wr b1 [⟨false, q⟩] ∧ GlobAt wr b2 [⟨false, Pg.turn true q⟩] ∧ GlobAt wr b3 [⟨false, Pg.turn true q⟩] ∧ ErrVar wr) (fun t _ => 256 - (intOf t).toNat)
              case atStart => exact ⟨0, Nat.zero_le _, rfl, hB4, HA1.out, HA2.out, HA3.out, HG4.out⟩
              case round =>
                obtain ⟨j, hj, rfl, hb, hA1, hA2, hA3, hE⟩ := hrel
                clear HA1 HA2 HA3 HG4 hB4
                have HA1 := hid hA1
                have HA2 := hid hA2
                have HA3 := hid hA3
                have HE := hid hE
                have hz := hb.size
                clear hA1 hA2 hA3 hE
                by_cases hjl : j < 256
                · have hcv := conv_one wr j hjl
                  have hl1 := size_one j
                  have hWd : Below wr.heap.size wr (wr.alloc (.cells #[.int .u8 j] 5)) := (Below.refl _ _).alloc (Nat.le_refl _) _
                  have HA1 := hid (HA1.out.later hWd)
                  have HA2 := hid (HA2.out.later hWd)
                  have HA3 := hid (HA3.out.later hWd)
                  have HE := hid (HE.out.below hWd)
                  have hb1 := hb.trans (hWd.mono hz)
                  have M1 := hid (mt_pos q j)
                  have M2 := hid (mt_neg q j)
                  clear hWd
                  cases q (UInt8.ofNat j)
                  all_goals
                    go_wp2_with fail
                    refine (match_any (oneB j) HA1.out (by omega) (by simp)).mono ?_
                    rintro e w5 ⟨rfl, hb5⟩
                    rw [M1.out]
                    have HA1 := hid (HA1.out.later hb5)
                    have HA2 := hid (HA2.out.later hb5)
                    have HA3 := hid (HA3.out.later hb5)
                    have HE := hid (HE.out.below hb5)
                    have hB5 := hb1.trans (hb5.mono hb1.size)
                    clear hb5 hb1
                    go_wp2_with fail
                    refine (match_any (oneB j) HA2.out (by omega) (by simp)).mono ?_
                    rintro e w6 ⟨rfl, hb6⟩
                    rw [M2.out]
                    have HA1 := hid (HA1.out.later hb6)
                    have HA2 := hid (HA2.out.later hb6)
                    have HA3 := hid (HA3.out.later hb6)
                    have HE := hid (HE.out.below hb6)
                    have hB6 := hB5.trans (hb6.mono hB5.size)
                    clear hb6 hB5
                    go_wp2_with fail
                    refine (match_any (oneB j) HA2.out (by omega) (by simp)).mono ?_
                    rintro e w7 ⟨rfl, hb7⟩
                    rw [M2.out]
                    have HA1 := hid (HA1.out.later hb7)
                    have HA2 := hid (HA2.out.later hb7)
                    have HA3 := hid (HA3.out.later hb7)
                    have HE := hid (HE.out.below hb7)
                    have hB7 := hB6.trans (hb7.mono hB6.size)
                    clear hb7 hB6
                    go_wp2_with fail
                    refine (match_any (oneB j) HA3.out (by omega) (by simp)).mono ?_
                    rintro e w8 ⟨rfl, hb8⟩
                    rw [M2.out]
                    have HA1 := hid (HA1.out.later hb8)
                    have HA2 := hid (HA2.out.later hb8)
                    have HA3 := hid (HA3.out.later hb8)
                    have HE := hid (HE.out.below hb8)
                    have hB8 := hB7.trans (hb8.mono hB7.size)
                    clear hb8 hB7 hcv hl1
                    go_wp2
                    go_roundw
                    case rel => exact ⟨j + 1, by omega, by go_num, hB8, HA1.out, HA2.out, HA3.out, HE.out⟩
                    case measure => simp [intOf]; omega
                · by_cases hn1 : n.size = 1
                  · have t2 : ((n.size : Int) == 1) = true := by rw [hn1]; rfl
                    go_wp2_with fail
                    refine (works_any _ HE.out).mono ?_
                    rintro e w6 ⟨rfl, hb6⟩
                    go_wp2
                    go_ret
                    exact ⟨rfl, hb.trans (hb6.mono hb.size)⟩
                  · have t2 : ((n.size : Int) == 1) = false := ine (by omega)
                    have N1 : Hid (Pg.mt [⟨false, q⟩] n.data.toList = false) := hid (Pg.mt_single_len rfl _ (by rw [size_data]; exact hn1))
                    have N2 : Hid (Pg.mt [⟨false, Pg.turn true q⟩] n.data.toList = false) := hid (Pg.mt_single_len rfl _ (by rw [size_data]; exact hn1))
                    clear hn1
                    go_wp2_with fail
                    refine (match_any n HA1.out (by omega) (by simp)).mono ?_
                    rintro e w5 ⟨rfl, hb5⟩
                    rw [N1.out]
                    have HA2 := hid (HA2.out.later hb5)
                    have HE := hid (HE.out.below hb5)
                    have hB5 := hb.trans (hb5.mono hb.size)
                    clear hb5
                    go_wp2_with fail
                    refine (match_any n HA2.out (by omega) (by simp)).mono ?_
                    rintro e w6 ⟨rfl, hb6⟩
                    rw [N2.out]
                    have HE := hid (HE.out.below hb6)
                    have hB6 := hB5.trans (hb6.mono hB5.size)
                    clear hb6
                    go_wp2_with fail
                    refine (works_any _ HE.out).mono ?_
                    rintro e w7 ⟨rfl, hb7⟩
                    go_wp2
                    go_ret
                    exact ⟨rfl, hB6.trans (hb7.mono hB6.size)⟩
            · have l1 : (1000 : Int) < (T.size : Int) := by omega
              have t1 : ((L.length : Int) != 1) = false := by rw [h1]; rfl
              clear h1
              go_wp2_with fail
              refine (works_any _ HG1.out).mono ?_
              rintro e w2 ⟨rfl, hb2⟩
              go_wp2
              go_ret
              exact ⟨rfl, hb1.trans (hb2.mono hb1.size)⟩
          · have t1 : ((L.length : Int) != 1) = true := by rw [bne_iff_ne]; omega
            go_wp2_with fail
            refine (works_any _ HG1.out).mono ?_
            rintro e w2 ⟨rfl, hb2⟩
            go_wp2
            go_ret
            exact ⟨rfl, hb1.trans (hb2.mono hb1.size)⟩
      · have HT := hid (not_s s h00 h33 h94)
        have he := empty_no s h0
        have i0 : (0 : Int) < (s.size : Int) := by omega
        have t33 := byte_ne h33 (m := 33) rfl
        have t94 := byte_ne h94 (m := 94) rfl
        clear h0 h33 h94
        go_enter Tryd.func8, Tryd.ntmps8
        go_wp2_with fail
        obtain ⟨T, hT⟩ : ∃ T, T = s := ⟨_, rfl⟩
        have hTs : T.size ≤ 140737488351233 := by rw [hT]; omega
        subst hT
        cases hP : cmp (ByteArray.mk #[91] ++ T ++ ByteArray.mk #[93]).data.toList with
        | none =>
          have h2 := cmpN_none hP
          have HR := fun W => hid (rno hP W)
          generalize cmpN (ByteArray.mk #[91] ++ T ++ ByteArray.mk #[93]).data.toList = N at h2 HR
          clear hP
          rcases h2 with rfl | rfl
          all_goals
            refine (HR _).out.mono ?_
            rintro e w1 ⟨rfl, hb1⟩
            have HG1 := hid (HG.out.below hb1)
            clear HR HG
            go_wp2_with fail
            refine (works_any _ HG1.out).mono ?_
            rintro e w2 ⟨rfl, hb2⟩
            go_wp2
            go_ret
            exact ⟨rfl, hb1.trans (hb2.mono hb1.size)⟩
        | some L =>
          have HR := fun W => hid (ryes hP W)
          have HP := hid hP
          have hLl := (cmp_some hP).2.2
          clear hP
          refine (HR _).out.mono ?_
          rintro e w1 ⟨v, rfl, hO, hb1⟩
          have HG1 := hid (HG.out.below hb1)
          obtain ⟨ad, cp, rfl, hcp⟩ := own_shape hO
          clear HR HG hO
          by_cases h1 : L.length = 1
          · by_cases hl : T.size ≤ 1000
            · obtain ⟨q, HQ1, HQ2, HQ3⟩ := either_sets HT.out HP.out h1 hl
              have t1 : ((L.length : Int) != 1) = false := by rw [h1]; rfl
              have l1 : ¬ (1000 : Int) < (T.size : Int) := by omega
              clear h1
              go_wp2_with fail
              refine (cyes HQ1 _).mono ?_
              rintro e w2 ⟨b1, rfl, hA1, hb2⟩
              have HA1 := hid hA1
              have HG2 := hid (HG1.out.below hb2)
              have hB2 := hb1.trans (hb2.mono hb1.size)
              clear hA1 hb1 hb2 HG1
              go_wp2_with fail
              refine (cyes HQ2 _).mono ?_
              rintro e w3 ⟨b2, rfl, hA2, hb3⟩
              have HA1 := hid (HA1.out.later hb3)
              have HA2 := hid hA2
              have HG3 := hid (HG2.out.below hb3)
              have hB3 := hB2.trans (hb3.mono hB2.size)
              clear hA2 hb3 HG2 hB2
              go_wp2_with fail
              refine (cyes HQ3 _).mono ?_
              rintro e w4 ⟨b3, rfl, hA3, hb4⟩
              have HA1 := hid (HA1.out.later hb4)
              have HA2 := hid (HA2.out.later hb4)
              have HA3 := hid hA3
              have HG4 := hid (HG3.out.below hb4)
              have hB4 := hB3.trans (hb4.mono hB3.size)
              clear hA3 hb4 HG3 hB3
              go_wp2
              go_loopw [13] (fun t wr => ∃ j : Nat, j ≤ 256 ∧ t = .int .i64 j ∧ Below w.heap.size w wr ∧ GlobAt wr b1 [⟨false, q⟩] ∧ GlobAt wr b2 [⟨false, Pg.turn true q⟩] ∧ GlobAt wr b3 [⟨false, Pg.turn true q⟩] ∧ ErrVar wr) (fun t _ => 256 - (intOf t).toNat)
              case atStart => exact ⟨0, Nat.zero_le _, rfl, hB4, HA1.out, HA2.out, HA3.out, HG4.out⟩
              case round =>
                obtain ⟨j, hj, rfl, hb, hA1, hA2, hA3, hE⟩ := hrel
                clear HA1 HA2 HA3 HG4 hB4
                have HA1 := hid hA1
                have HA2 := hid hA2
                have HA3 := hid hA3
                have HE := hid hE
                have hz := hb.size
                clear hA1 hA2 hA3 hE
                by_cases hjl : j < 256
                · have hcv := conv_one wr j hjl
                  have hl1 := size_one j
                  have hWd : Below wr.heap.size wr (wr.alloc (.cells #[.int .u8 j] 5)) := (Below.refl _ _).alloc (Nat.le_refl _) _
                  have HA1 := hid (HA1.out.later hWd)
                  have HA2 := hid (HA2.out.later hWd)
                  have HA3 := hid (HA3.out.later hWd)
                  have HE := hid (HE.out.below hWd)
                  have hb1 := hb.trans (hWd.mono hz)
                  have M1 := hid (mt_pos q j)
                  have M2 := hid (mt_neg q j)
                  clear hWd
                  cases q (UInt8.ofNat j)
                  all_goals
                    go_wp2_with fail
                    refine (match_any (oneB j) HA1.out (by omega) (by simp)).mono ?_
                    rintro e w5 ⟨rfl, hb5⟩
                    rw [M1.out]
                    have HA1 := hid (HA1.out.later hb5)
                    have HA2 := hid (HA2.out.later hb5)
                    have HA3 := hid (HA3.out.later hb5)
                    have HE := hid (HE.out.below hb5)
                    have hB5 := hb1.trans (hb5.mono hb1.size)
                    clear hb5 hb1
                    go_wp2_with fail
                    refine (match_any (oneB j) HA2.out (by omega) (by simp)).mono ?_
                    rintro e w6 ⟨rfl, hb6⟩
                    rw [M2.out]
                    have HA1 := hid (HA1.out.later hb6)
                    have HA2 := hid (HA2.out.later hb6)
                    have HA3 := hid (HA3.out.later hb6)
                    have HE := hid (HE.out.below hb6)
                    have hB6 := hB5.trans (hb6.mono hB5.size)
                    clear hb6 hB5
                    go_wp2_with fail
                    refine (match_any (oneB j) HA2.out (by omega) (by simp)).mono ?_
                    rintro e w7 ⟨rfl, hb7⟩
                    rw [M2.out]
                    have HA1 := hid (HA1.out.later hb7)
                    have HA2 := hid (HA2.out.later hb7)
                    have HA3 := hid (HA3.out.later hb7)
                    have HE := hid (HE.out.below hb7)
                    have hB7 := hB6.trans (hb7.mono hB6.size)
                    clear hb7 hB6
                    go_wp2_with fail
                    refine (match_any (oneB j) HA3.out (by omega) (by simp)).mono ?_
                    rintro e w8 ⟨rfl, hb8⟩
                    rw [M2.out]
                    have HA1 := hid (HA1.out.later hb8)
                    have HA2 := hid (HA2.out.later hb8)
                    have HA3 := hid (HA3.out.later hb8)
                    have HE := hid (HE.out.below hb8)
                    have hB8 := hB7.trans (hb8.mono hB7.size)
                    clear hb8 hB7 hcv hl1
                    go_wp2
                    go_roundw
                    case rel => exact ⟨j + 1, by omega, by go_num, hB8, HA1.out, HA2.out, HA3.out, HE.out⟩
                    case measure => simp [intOf]; omega
                · by_cases hn1 : n.size = 1
                  · have t2 : ((n.size : Int) == 1) = true := by rw [hn1]; rfl
                    go_wp2_with fail
                    refine (works_any _ HE.out).mono ?_
                    rintro e w6 ⟨rfl, hb6⟩
                    go_wp2
                    go_ret
                    exact ⟨rfl, hb.trans (hb6.mono hb.size)⟩
                  · have t2 : ((n.size : Int) == 1) = false := ine (by omega)
                    have N1 : Hid (Pg.mt [⟨false, q⟩] n.data.toList = false) := hid (Pg.mt_single_len rfl _ (by rw [size_data]; exact hn1))
                    have N2 : Hid (Pg.mt [⟨false, Pg.turn true q⟩] n.data.toList = false) := hid (Pg.mt_single_len rfl _ (by rw [size_data]; exact hn1))
                    clear hn1
                    go_wp2_with fail
                    refine (match_any n HA1.out (by omega) (by simp)).mono ?_
                    rintro e w5 ⟨rfl, hb5⟩
                    rw [N1.out]
                    have HA2 := hid (HA2.out.later hb5)
                    have HE := hid (HE.out.below hb5)
                    have hB5 := hb.trans (hb5.mono hb.size)
                    clear hb5
                    go_wp2_with fail
                    refine (match_any n HA2.out (by omega) (by simp)).mono ?_
                    rintro e w6 ⟨rfl, hb6⟩
                    rw [N2.out]
                    have HE := hid (HE.out.below hb6)
                    have hB6 := hB5.trans (hb6.mono hB5.size)
                    clear hb6
                    go_wp2_with fail
                    refine (works_any _ HE.out).mono ?_
                    rintro e w7 ⟨rfl, hb7⟩
                    go_wp2
                    go_ret
                    exact ⟨rfl, hB6.trans (hb7.mono hB6.size)⟩
            · have l1 : (1000 : Int) < (T.size : Int) := by omega
              have t1 : ((L.length : Int) != 1) = false := by rw [h1]; rfl
              clear h1
              go_wp2_with fail
              refine (works_any _ HG1.out).mono ?_
              rintro e w2 ⟨rfl, hb2⟩
              go_wp2
              go_ret
              exact ⟨rfl, hb1.trans (hb2.mono hb1.size)⟩
          · have t1 : ((L.length : Int) != 1) = true := by rw [bne_iff_ne]; omega
            go_wp2_with fail
            refine (works_any _ HG1.out).mono ?_
            rintro e w2 ⟨rfl, hb2⟩
            go_wp2
            go_ret
            exact ⟨rfl, hb1.trans (hb2.mono hb1.size)⟩

theorem own : ownKnob Tryd.prog.godebug = none := by kernel_rfl

set_option maxRecDepth 100000 in
theorem contract (H : Type) (enc : TypeId × Value → H) (W : World) (base : Nat) (args : Array Value) (ds gs : List (DataW H)) (before : List MemPlace)
    (hval : ∀ (j : Nat) t v, Tryd.f8.params[j]? = some t → args[j]? = some v → Value.okWide Tryd.prog W .any base t v)
    (hW : DataW.Whole enc Tryd.prog Tryd.f8.params.toList Rows.globEitherSpec.vars false W args.toList ds gs before)
    (hsz : (DataW.weightsEach Tryd.prog (Tryd.f8.params.toList ++ Rows.globEitherSpec.plain.varTypes Tryd.prog) (ds ++ gs)).all (· ≤ reachBytes) = true)
    (hL : laidMetH Tryd.prog Rows.globEitherRow.laid W)
    : Calls Tryd.prog 8 args W fun e W' => ∃ v, e = .returned v ∧ Rows.globEitherSpec.post enc Tryd.prog Tryd.f8 false true false false W args v W' := by
  have hW' := hW
  obtain ⟨p, q, hA0, hV, rfl, hfz, hnd⟩ := hW
  have hA : DataW.TrodAll enc Tryd.prog W 0 (fun _ => true) true Tryd.f8.params.toList args.toList ds p := hA0
  rw [Tryd.params8] at hA hval hsz
  obtain ⟨v0, vs0, d0, ds0, p0, q0, hargs0, rfl, rfl, h0, r0⟩ := trodAll_cons hA
  obtain ⟨v1, vs1, d1, ds1, p1, q1, hargs1, rfl, rfl, h1, r1⟩ := trodAll_cons r0
  obtain ⟨rfl, rfl, rfl⟩ := trodAll_nil r1
  obtain rfl : args = #[v0, v1] := by cases args; simp_all
  obtain ⟨rfl, rfl⟩ := trodVars_none hV
  obtain ⟨x0, rfl, rfl, rfl, hmax0⟩ := open_string Tryd.underlying9 (hval 0 9 v0 rfl rfl) h0
  obtain ⟨x1, rfl, rfl, rfl, hmax1⟩ := open_string Tryd.underlying9 (hval 1 9 v1 rfl rfl) h1
  have hlen0 : x0.size ≤ 140737488351232 := by
    have := sized_string hsz (j := 0) (t := 9) rfl rfl
    rwa [size_data] at this
  have hlen1 : x1.size ≤ 140737488351232 := by
    have := sized_string hsz (j := 1) (t := 9) rfl rfl
    rwa [size_data] at this
  clear hA0 hsz
  simp only [List.append_nil] at hW'
  refine (walk x0 x1 W hlen0 hlen1 (handle_of hL)).mono fun e W' ⟨he, hb⟩ => ?_
  subst he
  exact ⟨_, rfl, _, _, _, [], [], [], hW', trodAll_cons_mk (shut_bool Tryd.underlying4 _) trodAll_mk0, trodAll_cons_mk (shut_string Tryd.underlying9 hmax0) (trodAll_cons_mk (shut_string Tryd.underlying9 hmax1) trodAll_mk0), rfl, hb.frame _, fun h => by cases h⟩

set_option maxRecDepth 100000 in
theorem lifted (os : Os) (started : os.Started) (H : Type) (enc : TypeId × Value → H) (F : Stop.Interp) :
    ReturnsInHanded {} Tryd.checked os 8 .any ((OpenSpec.ofChange Rows.globEitherSpec).preRow enc Tryd.prog Tryd.f8 Rows.globEitherRow.domain false Rows.globEitherRow.laid) (((OpenSpec.ofChange Rows.globEitherSpec).at F).post enc Tryd.prog Tryd.f8 false true false false) := by
  refine returnsInHanded_of_row (C := Tryd.checked) (s := OpenSpec.ofChange Rows.globEitherSpec) own started (by kernel_rfl) Tryd.func8
    (witness_row_at (enc := enc) (C := Tryd.checked) false
      { World.holding Tryd.prog os ⟨#[], #[], []⟩ with heap := (World.holding Tryd.prog os ⟨#[], #[], []⟩).heap.modify 0 fun
          | .cells _ t frozen => .cells #[.iface 107 (.agg #[.pointer (some ⟨2, 24, none⟩)])] t frozen
          | o => o }
      #[.string .empty, .string .empty] rfl (by kernel_rfl) (by kernel_rfl) (by kernel_rfl)
      (OpenSpec.preRow_of_cond 8 (x := ([.lit (.string []), .lit (.string [])], [], [])) (by kernel_rfl) (by kernel_rfl) (fun k hk => by cases hk) (by kernel_rfl) (laidMetH_of_parts (laidMet_nil _ _) (by kernel_rfl)))) ?_
  intro W base args ds gs before hval hW _ hcond hsz hL _ _
  exact contract H enc W base args ds gs before hval hW hsz hL

theorem said : Rows.GlobEitherSaid :=
  OpenClaim.holds_of_cond 8 Tryd.f8 rfl rfl rfl rfl rfl rfl rfl ⟨rfl, rfl, rfl, rfl, rfl⟩ rfl rfl rfl rfl rfl (by kernel_rfl) Tryd.func8 (by kernel_rfl)
    (of_decide_eq_true (by kernel_rfl)) (by unfold Func.isWrapper; first | (rw [if_pos (by decide +kernel)]; kernel_rfl) | (rw [if_neg (by decide +kernel)]; exact ⟨rfl, rfl⟩))
    (fun os started H enc _ F => by rw [OpenClaim.pre_eq_preRow]; exact lifted os started H enc F)

theorem plain (f : FuncId) (fn : Func) (hf : Tryd.pinned.checked.prog.funcNamed Rows.globEitherRow.func = some f) (hfn : Tryd.pinned.checked.prog.funcs[f]? = some fn) :
    true = Tryd.pinned.checked.prog.looks [] ∧ ∀ (j : Nat) t, fn.params[j]? = some t → Tryd.pinned.checked.prog.wantsStandIn t = false := by
  obtain rfl : f = 8 := Option.some.inj ((show Tryd.prog.funcNamed Rows.globEitherRow.func = some 8 by kernel_rfl).symm.trans hf) |>.symm
  obtain rfl : fn = Tryd.f8 := (Option.some.inj (Tryd.func8.symm.trans hfn)).symm
  refine ⟨by kernel_rfl, fun j t ht => ?_⟩
  rw [Tryd.params8] at ht
  have hm : t = 9 := by simpa using Array.mem_of_getElem? ht
  rcases hm with rfl
  · exact (show Tryd.prog.wantsStandIn 9 = false by kernel_rfl)

theorem card : Rows.GlobEitherCardSaid :=
  Claim7.holds_tied_plain_at .later [] _ _ _ _ said (fun _ h => by cases h) (by kernel_rfl) (fun _ h => by cases h) globEither_row_tie rfl ⟨rfl, rfl⟩ (by kernel_rfl) rfl plain (by kernel_rfl)
end Go.Proofs.YtialioefecpbpaaDoor.globEither
