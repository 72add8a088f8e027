/-
  UnifiedRest, for every two texts: what stands behind a diff that was read whole, and begins neither with a hunk's beginning nor with a backslash, is what is left, and nothing else changes. (The card: the row lists six package-level variables, of which the proof uses errors.errorType, strconv.ErrSyntax, strconv.ErrRange and the table of powers of ten.) (Made by wip/genlurest.py.)
-/
import Derived.Test.YtglkcajiihpccaaGreatDoorU5
import Derived.Test.YtglkcajiihpccaaGreatDoorHz
namespace Go.Proofs.YtglkcajiihpccaaGreatDoor.unifiedRest
open Go.ChangeShapes Go.WideShapes Go.ChangeAt Go.RowKit
open Go.ChangeMaps (open_string shut_string)
open Hu (Rw Hk)

theorem pre4 {z : ByteArray} (h : ¬ (4 ≤ z.size ∧ z.extract 0 4 = ⟨#[64, 64, 32, 45]⟩)) : Un.begs (Un.nx z.data.toList) = false := by
  cases hb : Un.begs (Un.nx z.data.toList) with
  | false => rfl
  | true =>
    exfalso
    apply h
    unfold Un.begs at hb
    obtain ⟨t, ht⟩ := List.isPrefixOf_iff_prefix.1 hb
    have hne : z.data.toList ≠ [] := by rintro e; rw [e] at ht; cases ht
    have hz : ∃ t', z.data.toList = [64, 64, 32, 45] ++ t' := by
      unfold Un.nx at ht
      split at ht
      · exact ⟨t ++ z.data.toList.drop (Pl.fl z.data.toList), by
          rw [← List.append_assoc]
          rw [show ([64, 64, 32, 45] : Un.Bs) = Un.mkB from rfl, ht, List.take_append_drop]⟩
      · have hl : (Un.mkB ++ t).length = z.data.toList.length + 1 := by rw [ht]; simp
        rcases List.eq_nil_or_concat t with rfl | ⟨t', c, rfl⟩
        · exfalso
          have e2 : Un.mkB ++ [] = ([64, 64, 32] : Un.Bs) ++ [45] := rfl
          rw [e2] at ht
          have := (List.append_inj' ht rfl).2
          cases this
        · refine ⟨t', ?_⟩
          have e2 : Un.mkB ++ t'.concat c = (Un.mkB ++ t') ++ [c] := by simp
          rw [e2] at ht
          exact (List.append_inj' ht rfl).1.symm
    obtain ⟨t', ht'⟩ := hz
    have hlen : 4 ≤ z.size := by rw [← dsize, ht']; simp
    refine ⟨hlen, ba_ext ?_⟩
    rw [ext0, ht']
    rfl
theorem pre1 {z : ByteArray} (h : ¬ (1 ≤ z.size ∧ z.extract 0 1 = ⟨#[92]⟩)) : Un.isEnd (Un.nx z.data.toList) = false := by
  cases hq : z.data.toList with
  | nil => rfl
  | cons c t =>
    rw [Un.isEnd_nx]
    cases hc : (c == 92) with
    | false => rfl
    | true =>
      exfalso
      apply h
      have e : c = 92 := eq_of_beq hc
      refine ⟨by rw [← dsize, hq]; simp, ba_ext ?_⟩
      rw [ext0, hq, e]
      rfl
theorem wh_last {s : ByteArray} (h : 0 < s.size) (hl : ((s[s.size - 1].toNat : Int) == 10) = true) : Pl.wh s.data.toList = true := by rw [← Cx.wh_at s h]; exact hl
theorem ba_ne {x y : ByteArray} (h : x ≠ y) : (x == y) = false := by
  cases hb : (x == y) with
  | false => rfl
  | true =>
    exfalso
    apply h
    cases x with | mk a => cases y with | mk b =>
    have : (a == b) = true := hb
    rw [eq_of_beq this]
set_option maxHeartbeats 8000000 in
set_option maxRecDepth 100000 in
theorem walk (s z : ByteArray) (w : World) (hs : s.size ≤ 140737488351232) (hz : z.size ≤ 140737488351232) (hr : RdyU w) :
    Calls Tryz.prog 6 #[.string s, .string z] w fun e w' => e = .returned (.bool true) ∧ Below w.heap.size w w' := by
  have HR := hid hr
  have HSU := hid (fun w1 (h1 : Below w.heap.size w w1) => sure_any w1 (hr.below h1))
  clear hr
  cases hp : Un.parse s.data.toList with
  | bad c er =>
    have HPA := hid (pa_bad hp HR.out.lib (by unfold maxLen; omega))
    clear hp
    go_enter Tryz.func6, Tryz.ntmps6
    go_wp2_with fail
    refine HPA.out.mono ?_
    rintro e w1 ⟨hb1, rfl⟩
    have HB1 := hid hb1
    clear hb1
    obtain ⟨hbN, n1, n2⟩ := twoF w1 (.cells #[.string ⟨#[]⟩, .string ⟨#[]⟩] 23) (.cells #[.string ⟨#[]⟩, .string ⟨#[]⟩] 23)
    have HBNw3 := hid hbN
    have P1w3 := hid n1
    have P2w3 := hid n2
    obtain ⟨C, hC⟩ : ∃ C, C = w1.heap.size := ⟨_, rfl⟩
    rw [← hC] at P1w3 P2w3
    have HCW := hid hC
    clear hbN n1 n2
    go_wp2_with (first | (guard_target =~ wpList _ _ _ (_ :: _) _ _; rw [← hC]; refine wpList_stA 23 #[.string ⟨#[]⟩, .string ⟨#[]⟩] rfl rfl P1w3.out Tryz.sizeName rfl rfl rfl rfl ?_; intro w2 hk1 hkp1; have Q1w3 := hid hk1; have HPw2 := hid hkp1; have Q2w3 := hid ((hkp1.block (C + 1) (lt_of_heap P2w3.out) (by omega)).trans P2w3.out); clear hk1 hkp1 hC) | (guard_target =~ wpList _ _ _ (_ :: _) _ _; refine wpList_stA 23 #[.string ⟨#[]⟩, .string ⟨#[]⟩] rfl rfl Q2w3.out Tryz.sizeName rfl rfl rfl rfl ?_; intro w3 hk2 hkp2; have R2w3 := hid hk2; have R1w3 := hid ((hkp2.block C (lt_of_heap Q1w3.out) (by omega)).trans Q1w3.out); have HKw3 : Hid (Below C w1 w3) := hid (Kept.onto (Kept.onto (HCW.out ▸ HBNw3.out) HPw2.out (Nat.le_refl _) (Nat.le_of_eq HCW.out)) hkp2 (Nat.le_succ _) (Nat.le_of_eq HCW.out)); have HB3 := hid (HB1.out.trans (HKw3.out.mono (by rw [HCW.out]; exact HB1.out.size))); clear hk2 hkp2))
    refine (HSU.out w3 HB3.out).mono ?_
    rintro e w4 ⟨rfl, hb4⟩
    have HB4 := hid (HB3.out.trans (hb4.mono HB3.out.size))
    clear hb4
    go_wp2_with fail
    go_ret
    exact ⟨rfl, HB4.out⟩
  | ok o q hs' rest =>
    have hne := parse_ne hp
    have HPA := hid (pa_ok hp HR.out.lib (by unfold maxLen; omega))
    have hpos : 0 < s.size := by
      rcases Nat.eq_zero_or_pos s.size with h0 | h0
      · exact absurd (List.length_eq_zero_iff.1 (by rw [dsize]; exact h0)) hne
      · exact h0
    have HP := hid hp
    have i0 : IntKind.i64.wrap ((s.size : Int) - 1) = (s.size : Int) - 1 := wrapOk (by omega) (by omega)
    have i1 : (0 : Int) ≤ (s.size : Int) - 1 := by omega
    have i2 : (s.size : Int) - 1 < (s.size : Int) := by omega
    have i3 : IntKind.i64.wrap ((s.size : Int) + (z.size : Int)) = (s.size : Int) + (z.size : Int) := wrapOk (by omega) (by omega)
    clear hp hne
    by_cases h0 : (bB rest).size = 0
    · have he := Cx.empty_yes (bB rest) h0
      have hrest : rest = [] := List.length_eq_zero_iff.1 (by rw [← dsize, bB_data] at h0; exact h0)
      cases hl : ((s[s.size - 1].toNat : Int) == 10) with
      | false =>
        have hl2 : ((s[s.size - 1].toNat : Int) != 10) = true := by unfold bne; rw [hl]; rfl
        clear hl h0 hrest
        go_enter Tryz.func6, Tryz.ntmps6
        go_wp2_with fail
        refine HPA.out.mono ?_
        rintro e w1 ⟨hb1, va, vc, rfl, hO, hsz, hlen⟩
        have HB1 := hid hb1
        clear hb1 hO hsz
        obtain ⟨hbN, n1, n2⟩ := twoF w1 (.cells #[.string ⟨#[]⟩, .string ⟨#[]⟩] 23) (.cells #[.string ⟨#[]⟩, .string ⟨#[]⟩] 23)
        have HBNw3 := hid hbN
        have P1w3 := hid n1
        have P2w3 := hid n2
        obtain ⟨C, hC⟩ : ∃ C, C = w1.heap.size := ⟨_, rfl⟩
        rw [← hC] at P1w3 P2w3
        have HCW := hid hC
        clear hbN n1 n2
        go_wp2_with (first | (guard_target =~ wpList _ _ _ (_ :: _) _ _; rw [← hC]; refine wpList_stA 23 #[.string (bB o.1), .string (bB o.2)] rfl rfl P1w3.out Tryz.sizeName rfl rfl rfl rfl ?_; intro w2 hk1 hkp1; have Q1w3 := hid hk1; have HPw2 := hid hkp1; have Q2w3 := hid ((hkp1.block (C + 1) (lt_of_heap P2w3.out) (by omega)).trans P2w3.out); clear hk1 hkp1 hC) | (guard_target =~ wpList _ _ _ (_ :: _) _ _; refine wpList_stA 23 #[.string (bB q.1), .string (bB q.2)] rfl rfl Q2w3.out Tryz.sizeName rfl rfl rfl rfl ?_; intro w3 hk2 hkp2; have R2w3 := hid hk2; have R1w3 := hid ((hkp2.block C (lt_of_heap Q1w3.out) (by omega)).trans Q1w3.out); have HKw3 : Hid (Below C w1 w3) := hid (Kept.onto (Kept.onto (HCW.out ▸ HBNw3.out) HPw2.out (Nat.le_refl _) (Nat.le_of_eq HCW.out)) hkp2 (Nat.le_succ _) (Nat.le_of_eq HCW.out)); have HB3 := hid (HB1.out.trans (HKw3.out.mono (by rw [HCW.out]; exact HB1.out.size))); clear hk2 hkp2))
        refine (HSU.out w3 HB3.out).mono ?_
        rintro e w4 ⟨rfl, hb4⟩
        have HB4 := hid (HB3.out.trans (hb4.mono HB3.out.size))
        clear hb4
        go_wp2_with fail
        go_ret
        exact ⟨rfl, HB4.out⟩
      | true =>
        have hl2 : ((s[s.size - 1].toNat : Int) != 10) = false := by unfold bne; rw [hl]; rfl
        have HWH := hid (wh_last hpos hl)
        clear hl h0
        by_cases hlong : 4194304 < s.size + z.size
        · have j1 : (4194304 : Int) < (s.size : Int) + (z.size : Int) := by omega
          clear hlong hrest
          go_enter Tryz.func6, Tryz.ntmps6
          go_wp2_with fail
          refine HPA.out.mono ?_
          rintro e w1 ⟨hb1, va, vc, rfl, hO, hsz, hlen⟩
          have HB1 := hid hb1
          clear hb1 hO hsz
          obtain ⟨hbN, n1, n2⟩ := twoF w1 (.cells #[.string ⟨#[]⟩, .string ⟨#[]⟩] 23) (.cells #[.string ⟨#[]⟩, .string ⟨#[]⟩] 23)
          have HBNw3 := hid hbN
          have P1w3 := hid n1
          have P2w3 := hid n2
          obtain ⟨C, hC⟩ : ∃ C, C = w1.heap.size := ⟨_, rfl⟩
          rw [← hC] at P1w3 P2w3
          have HCW := hid hC
          clear hbN n1 n2
          go_wp2_with (first | (guard_target =~ wpList _ _ _ (_ :: _) _ _; rw [← hC]; refine wpList_stA 23 #[.string (bB o.1), .string (bB o.2)] rfl rfl P1w3.out Tryz.sizeName rfl rfl rfl rfl ?_; intro w2 hk1 hkp1; have Q1w3 := hid hk1; have HPw2 := hid hkp1; have Q2w3 := hid ((hkp1.block (C + 1) (lt_of_heap P2w3.out) (by omega)).trans P2w3.out); clear hk1 hkp1 hC) | (guard_target =~ wpList _ _ _ (_ :: _) _ _; refine wpList_stA 23 #[.string (bB q.1), .string (bB q.2)] rfl rfl Q2w3.out Tryz.sizeName rfl rfl rfl rfl ?_; intro w3 hk2 hkp2; have R2w3 := hid hk2; have R1w3 := hid ((hkp2.block C (lt_of_heap Q1w3.out) (by omega)).trans Q1w3.out); have HKw3 : Hid (Below C w1 w3) := hid (Kept.onto (Kept.onto (HCW.out ▸ HBNw3.out) HPw2.out (Nat.le_refl _) (Nat.le_of_eq HCW.out)) hkp2 (Nat.le_succ _) (Nat.le_of_eq HCW.out)); have HB3 := hid (HB1.out.trans (HKw3.out.mono (by rw [HCW.out]; exact HB1.out.size))); clear hk2 hkp2))
          refine (HSU.out w3 HB3.out).mono ?_
          rintro e w4 ⟨rfl, hb4⟩
          have HB4 := hid (HB3.out.trans (hb4.mono HB3.out.size))
          clear hb4
          go_wp2_with fail
          go_ret
          exact ⟨rfl, HB4.out⟩
        · have j1 : ¬ ((4194304 : Int) < (s.size : Int) + (z.size : Int)) := by omega
          rw [hrest] at HP
          clear hrest
          go_enter Tryz.func6, Tryz.ntmps6
          go_wp2_with fail
          refine HPA.out.mono ?_
          rintro e w1 ⟨hb1, va, vc, rfl, hO, hsz, hlen⟩
          have HB1 := hid hb1
          obtain ⟨NL, hNL⟩ : ∃ NL, NL = hs'.length := ⟨_, rfl⟩
          have HNL := hid hNL
          have HO1 : Hid (RdH w1 (.slice va NL vc) hs') := hid (by rw [hNL]; exact hO.rd)
          have HZ := hid hsz
          rw [← hNL] at hlen ⊢
          clear hb1 hO hsz hNL
          obtain ⟨hbN, n1, n2⟩ := twoF w1 (.cells #[.string ⟨#[]⟩, .string ⟨#[]⟩] 23) (.cells #[.string ⟨#[]⟩, .string ⟨#[]⟩] 23)
          have HBNw3 := hid hbN
          have P1w3 := hid n1
          have P2w3 := hid n2
          obtain ⟨C, hC⟩ : ∃ C, C = w1.heap.size := ⟨_, rfl⟩
          rw [← hC] at P1w3 P2w3
          have HCW := hid hC
          clear hbN n1 n2
          go_wp2_with (first | (guard_target =~ wpList _ _ _ (_ :: _) _ _; rw [← hC]; refine wpList_stA 23 #[.string (bB o.1), .string (bB o.2)] rfl rfl P1w3.out Tryz.sizeName rfl rfl rfl rfl ?_; intro w2 hk1 hkp1; have Q1w3 := hid hk1; have HPw2 := hid hkp1; have Q2w3 := hid ((hkp1.block (C + 1) (lt_of_heap P2w3.out) (by omega)).trans P2w3.out); clear hk1 hkp1 hC) | (guard_target =~ wpList _ _ _ (_ :: _) _ _; refine wpList_stA 23 #[.string (bB q.1), .string (bB q.2)] rfl rfl Q2w3.out Tryz.sizeName rfl rfl rfl rfl ?_; intro w3 hk2 hkp2; have R2w3 := hid hk2; have R1w3 := hid ((hkp2.block C (lt_of_heap Q1w3.out) (by omega)).trans Q1w3.out); have HKw3 : Hid (Below C w1 w3) := hid (Kept.onto (Kept.onto (HCW.out ▸ HBNw3.out) HPw2.out (Nat.le_refl _) (Nat.le_of_eq HCW.out)) hkp2 (Nat.le_succ _) (Nat.le_of_eq HCW.out)); have HB3 := hid (HB1.out.trans (HKw3.out.mono (by rw [HCW.out]; exact HB1.out.size))); have HO3 : Hid (RdH w3 (.slice va NL vc) hs') := hid (HO1.out.below (HCW.out ▸ HKw3.out)); clear hk2 hkp2))
          have hbL := (Below.refl w3.heap.size w3).alloc (Nat.le_refl _) (.cells #[.string ⟨#[64, 64, 32, 45]⟩, .string ⟨#[92]⟩] 9)
          have hkL := heap_alloc_new w3 (.cells #[.string ⟨#[64, 64, 32, 45]⟩, .string ⟨#[92]⟩] 9)
          have HB4 := hid (HB3.out.trans (hbL.mono HB3.out.size))
          have HO4 := hid (HO3.out.below hbL)
          have HN1 := hid ((hbL.block C (lt_of_heap R1w3.out)).trans R1w3.out)
          have HN2 := hid ((hbL.block (C + 1) (lt_of_heap R2w3.out)).trans R2w3.out)
          have HL4 := hid hkL
          obtain ⟨V, hV⟩ : ∃ V, V = w3.heap.size := ⟨_, rfl⟩
          rw [← hV] at HL4 ⊢
          generalize w3.alloc (.cells #[.string ⟨#[64, 64, 32, 45]⟩, .string ⟨#[92]⟩] 9) = w4 at HB4 HO4 HN1 HN2 HL4 ⊢
          clear hbL hkL hV
          go_loopw [53] (fun ii wr => ∃ k : Nat, k ≤ 2 ∧ ii = .int .i64 k ∧ Hid (1 ≤ k → ¬ (4 ≤ z.size ∧ z.extract 0 4 = ⟨#[64, 64, 32, 45]⟩)) ∧ Hid (2 ≤ k → ¬ (1 ≤ z.size ∧ z.extract 0 1 = ⟨#[92]⟩)) ∧ wr = w4) (fun ii _ => 2 - (intOf ii).toNat)
          case atStart => exact ⟨0, by omega, rfl, hid (fun h => by omega), hid (fun h => by omega), rfl⟩
          case round =>
            obtain ⟨k, hk, rfl, HK1, HK2, rfl⟩ := hrel
            have l0 : wr.cell? ⟨V, 0, none⟩ = some (.string ⟨#[64, 64, 32, 45]⟩) := cell_of_blk HL4.out 0
            have l1 : wr.cell? ⟨V, 1, none⟩ = some (.string ⟨#[92]⟩) := cell_of_blk HL4.out 1
            rcases (show k = 0 ∨ k = 1 ∨ k = 2 by omega) with rfl | rfl | rfl
            · by_cases hge : 4 ≤ z.size
              · have j2 : (4 : Int) ≤ (z.size : Int) := by omega
                by_cases hq : z.extract 0 4 = ⟨#[64, 64, 32, 45]⟩
                · have b1 : ((z.extract 0 4) == (⟨#[64, 64, 32, 45]⟩ : ByteArray)) = true := by rw [hq]; exact ba_sameU _
                  have b2 : ((z.extract 0 4).toList == [64, 64, 32, 45]) = true := by rw [hq, str_eq, decide_eq_true]; rfl
                  clear hq hge
                  go_wp2_with fail
                  refine (HSU.out wr HB4.out).mono ?_
                  rintro e w5 ⟨rfl, hb5⟩
                  have HB5 := hid (HB4.out.trans (hb5.mono HB4.out.size))
                  clear hb5
                  go_wp2_with fail
                  go_ret
                  exact ⟨rfl, HB5.out⟩
                · have b1 : ((z.extract 0 4) == (⟨#[64, 64, 32, 45]⟩ : ByteArray)) = false := ba_ne hq
                  have b2 : ((z.extract 0 4).toList == [64, 64, 32, 45]) = false := by rw [str_eq, decide_eq_false]; exact fun e => hq (ba_ext e)
                  have HNQ := hid hq
                  clear hq hge
                  go_wp2_with fail
                  go_roundw
                  case rel => exact ⟨1, by omega, by go_num, hid (fun _ => fun h9 => HNQ.out h9.2), hid (fun h => by omega), by first | rfl | trivial⟩
                  case measure => simp [intOf]
              · have j2 : ¬ ((4 : Int) ≤ (z.size : Int)) := by omega
                have HNG := hid hge
                clear hge
                go_wp2_with fail
                go_roundw
                case rel => exact ⟨1, by omega, by go_num, hid (fun _ => fun h9 => HNG.out h9.1), hid (fun h => by omega), by first | rfl | trivial⟩
                case measure => simp [intOf]
            · by_cases hge : 1 ≤ z.size
              · have j2 : (1 : Int) ≤ (z.size : Int) := by omega
                by_cases hq : z.extract 0 1 = ⟨#[92]⟩
                · have b1 : ((z.extract 0 1) == (⟨#[92]⟩ : ByteArray)) = true := by rw [hq]; exact ba_sameU _
                  have b2 : ((z.extract 0 1).toList == [92]) = true := by rw [hq, str_eq, decide_eq_true]; rfl
                  clear hq hge
                  go_wp2_with fail
                  refine (HSU.out wr HB4.out).mono ?_
                  rintro e w5 ⟨rfl, hb5⟩
                  have HB5 := hid (HB4.out.trans (hb5.mono HB4.out.size))
                  clear hb5
                  go_wp2_with fail
                  go_ret
                  exact ⟨rfl, HB5.out⟩
                · have b1 : ((z.extract 0 1) == (⟨#[92]⟩ : ByteArray)) = false := ba_ne hq
                  have b2 : ((z.extract 0 1).toList == [92]) = false := by rw [str_eq, decide_eq_false]; exact fun e => hq (ba_ext e)
                  have HNQ := hid hq
                  clear hq hge
                  go_wp2_with fail
                  go_roundw
                  case rel => exact ⟨2, by omega, by go_num, hid (fun _ => HK1.out (by omega)), hid (fun _ => fun h9 => HNQ.out h9.2), by first | rfl | trivial⟩
                  case measure => simp [intOf]
              · have j2 : ¬ ((1 : Int) ≤ (z.size : Int)) := by omega
                have HNG := hid hge
                clear hge
                go_wp2_with fail
                go_roundw
                case rel => exact ⟨2, by omega, by go_num, hid (fun _ => HK1.out (by omega)), hid (fun _ => fun h9 => HNG.out h9.1), by first | rfl | trivial⟩
                case measure => simp [intOf]
            · have HQ4 := hid (HK1.out (by omega))
              have HQ1 := hid (HK2.out (by omega))
              have HPZ := hid (Un.parse_on (z := z.data.toList) HP.out HWH.out (pre1 HQ1.out) (pre4 HQ4.out) (by rw [dsize, dsize]; omega))
              have hSZ : (s ++ z).data.toList = s.data.toList ++ z.data.toList := by simp
              rw [← hSZ] at HPZ
              have hSS : (s ++ z).size = s.size + z.size := by simp
              have HPZ2 := hid (pa_ok HPZ.out (HR.out.below HB4.out).lib (by unfold maxLen; rw [hSS]; omega))
              rw [bB_eta] at HPZ2
              clear HPZ HQ4 HQ1 HK1 HK2 hSZ hSS l0 l1
              go_wp2_with fail
              refine HPZ2.out.mono ?_
              rintro e w5 ⟨hb5, vb, vd, rfl, hO5, _, _⟩
              have HB5 := hid (HB4.out.trans (hb5.mono HB4.out.size))
              have HO5 := hid (HO4.out.below hb5)
              have HX5 : Hid (RdH w5 (.slice vb NL vd) hs') := hid (by rw [HNL.out]; exact hO5.rd)
              have HM1 := hid ((hb5.block C (lt_of_heap HN1.out)).trans HN1.out)
              have HM2 := hid ((hb5.block (C + 1) (lt_of_heap HN2.out)).trans HN2.out)
              rw [← HNL.out]
              clear hb5 hO5
              obtain ⟨hbN, n1, n2⟩ := twoF w5 (.cells #[.string ⟨#[]⟩, .string ⟨#[]⟩] 23) (.cells #[.string ⟨#[]⟩, .string ⟨#[]⟩] 23)
              have HBNw7 := hid hbN
              have P1w7 := hid n1
              have P2w7 := hid n2
              obtain ⟨D, hD⟩ : ∃ D, D = w5.heap.size := ⟨_, rfl⟩
              rw [← hD] at P1w7 P2w7
              have HDW := hid hD
              clear hbN n1 n2
              have HMF : Hid (∀ w', Below D w5 w' → w'.cell? ⟨C, 0, none⟩ = some (.string (bB o.1)) ∧ w'.cell? ⟨C, 1, none⟩ = some (.string (bB o.2)) ∧ w'.cell? ⟨C + 1, 0, none⟩ = some (.string (bB q.1)) ∧ w'.cell? ⟨C + 1, 1, none⟩ = some (.string (bB q.2))) := hid (fun w' hb' => by
                have h8 := lt_of_heap HM2.out
                have h9 := HDW.out
                have k1 := (hb'.block C (by omega)).trans HM1.out
                have k2 := (hb'.block (C + 1) (by omega)).trans HM2.out
                exact ⟨cell_of_blk k1 0, cell_of_blk k1 1, cell_of_blk k2 0, cell_of_blk k2 1⟩)
              have y1 : (bB o.1 == bB o.1) = true := ba_sameU _
              have y2 : (bB o.2 == bB o.2) = true := ba_sameU _
              have y3 : (bB q.1 == bB q.1) = true := ba_sameU _
              have y4 : (bB q.2 == bB q.2) = true := ba_sameU _
              have y5 : (z == z) = true := ba_sameU _
              go_wp2_with (first | (guard_target =~ wpList _ _ _ (_ :: _) _ _; rw [← hD]; refine wpList_stA 23 #[.string (bB o.1), .string (bB o.2)] rfl rfl P1w7.out Tryz.sizeName rfl rfl rfl rfl ?_; intro w6 hk1 hkp1; have Q1w7 := hid hk1; have HPw6 := hid hkp1; have Q2w7 := hid ((hkp1.block (D + 1) (lt_of_heap P2w7.out) (by omega)).trans P2w7.out); clear hk1 hkp1 hD) | (guard_target =~ wpList _ _ _ (_ :: _) _ _; refine wpList_stA 23 #[.string (bB q.1), .string (bB q.2)] rfl rfl Q2w7.out Tryz.sizeName rfl rfl rfl rfl ?_; intro w7 hk2 hkp2; have R2w7 := hid hk2; have R1w7 := hid ((hkp2.block D (lt_of_heap Q1w7.out) (by omega)).trans Q1w7.out); have HKw7 : Hid (Below D w5 w7) := hid (Kept.onto (Kept.onto (HDW.out ▸ HBNw7.out) HPw6.out (Nat.le_refl _) (Nat.le_of_eq HDW.out)) hkp2 (Nat.le_succ _) (Nat.le_of_eq HDW.out)); have HB7 := hid (HB5.out.trans (HKw7.out.mono (by rw [HDW.out]; exact HB5.out.size))); have HO7 : Hid (RdH w7 (.slice va NL vc) hs') := hid (HO5.out.below (HDW.out ▸ HKw7.out)); have HX7 : Hid (RdH w7 (.slice vb NL vd) hs') := hid (HX5.out.below (HDW.out ▸ HKw7.out)); obtain ⟨m0, m1, m2, m3⟩ := HMF.out w7 HKw7.out; have g0 : w7.cell? ⟨D, 0, none⟩ = some (.string (bB o.1)) := cell_of_blk R1w7.out 0; have g1 : w7.cell? ⟨D, 1, none⟩ = some (.string (bB o.2)) := cell_of_blk R1w7.out 1; have g2 : w7.cell? ⟨D + 1, 0, none⟩ = some (.string (bB q.1)) := cell_of_blk R2w7.out 0; have g3 : w7.cell? ⟨D + 1, 1, none⟩ = some (.string (bB q.2)) := cell_of_blk R2w7.out 1; clear hk2 hkp2))
              refine (sameHunks_yes HO7.out HX7.out (by rw [← HNL.out]; exact hlen) (fun h hh => (HZ.out h hh).rowsLe)).mono ?_
              rintro e w8 ⟨rfl, hb8⟩
              have HB8 := hid (HB7.out.trans (hb8.mono HB7.out.size))
              clear hb8
              go_wp2_with fail
              refine (HSU.out w8 HB8.out).mono ?_
              rintro e w9 ⟨rfl, hb9⟩
              have HB9 := hid (HB8.out.trans (hb9.mono HB8.out.size))
              clear hb9
              go_wp2_with fail
              go_ret
              exact ⟨rfl, HB9.out⟩
    · have he := Cx.empty_no (bB rest) h0
      clear h0
      go_enter Tryz.func6, Tryz.ntmps6
      go_wp2_with fail
      refine HPA.out.mono ?_
      rintro e w1 ⟨hb1, va, vc, rfl, hO, hsz, hlen⟩
      have HB1 := hid hb1
      clear hb1 hO hsz
      obtain ⟨hbN, n1, n2⟩ := twoF w1 (.cells #[.string ⟨#[]⟩, .string ⟨#[]⟩] 23) (.cells #[.string ⟨#[]⟩, .string ⟨#[]⟩] 23)
      have HBNw3 := hid hbN
      have P1w3 := hid n1
      have P2w3 := hid n2
      obtain ⟨C, hC⟩ : ∃ C, C = w1.heap.size := ⟨_, rfl⟩
      rw [← hC] at P1w3 P2w3
      have HCW := hid hC
      clear hbN n1 n2
      go_wp2_with (first | (guard_target =~ wpList _ _ _ (_ :: _) _ _; rw [← hC]; refine wpList_stA 23 #[.string (bB o.1), .string (bB o.2)] rfl rfl P1w3.out Tryz.sizeName rfl rfl rfl rfl ?_; intro w2 hk1 hkp1; have Q1w3 := hid hk1; have HPw2 := hid hkp1; have Q2w3 := hid ((hkp1.block (C + 1) (lt_of_heap P2w3.out) (by omega)).trans P2w3.out); clear hk1 hkp1 hC) | (guard_target =~ wpList _ _ _ (_ :: _) _ _; refine wpList_stA 23 #[.string (bB q.1), .string (bB q.2)] rfl rfl Q2w3.out Tryz.sizeName rfl rfl rfl rfl ?_; intro w3 hk2 hkp2; have R2w3 := hid hk2; have R1w3 := hid ((hkp2.block C (lt_of_heap Q1w3.out) (by omega)).trans Q1w3.out); have HKw3 : Hid (Below C w1 w3) := hid (Kept.onto (Kept.onto (HCW.out ▸ HBNw3.out) HPw2.out (Nat.le_refl _) (Nat.le_of_eq HCW.out)) hkp2 (Nat.le_succ _) (Nat.le_of_eq HCW.out)); have HB3 := hid (HB1.out.trans (HKw3.out.mono (by rw [HCW.out]; exact HB1.out.size))); clear hk2 hkp2))
      refine (HSU.out w3 HB3.out).mono ?_
      rintro e w4 ⟨rfl, hb4⟩
      have HB4 := hid (HB3.out.trans (hb4.mono HB3.out.size))
      clear hb4
      go_wp2_with fail
      go_ret
      exact ⟨rfl, HB4.out⟩
theorem own : ownKnob Tryz.prog.godebug = none := by kernel_rfl

set_option maxRecDepth 100000 in
theorem contract (H : Type) (enc : TypeId × Value → H) (W : World) (base : Nat) (args : Array Value) (ds gs : List (DataW H)) (before : List MemPlace)
    (hval : ∀ (j : Nat) t v, Tryz.f6.params[j]? = some t → args[j]? = some v → Value.okWide Tryz.prog W .any base t v)
    (hW : DataW.Whole enc Tryz.prog Tryz.f6.params.toList Rows.unifiedRestSpec.vars false W args.toList ds gs before)
    (hsz : (DataW.weightsEach Tryz.prog (Tryz.f6.params.toList ++ Rows.unifiedRestSpec.plain.varTypes Tryz.prog) (ds ++ gs)).all (· ≤ reachBytes) = true)
    (hL : laidMetH Tryz.prog Rows.unifiedRestRow.laid W)
    (hSh : W.ShapedOpen Tryz.prog)
    : Calls Tryz.prog 6 args W fun e W' => ∃ v, e = .returned v ∧ Rows.unifiedRestSpec.post enc Tryz.prog Tryz.f6 false true false false W args v W' := by
  have hW' := hW
  obtain ⟨p, q, hA0, hV, rfl, hfz, hnd⟩ := hW
  have hA : DataW.TrodAll enc Tryz.prog W 0 (fun _ => true) true Tryz.f6.params.toList args.toList ds p := hA0
  rw [Tryz.params6] at hA hval hsz
  obtain ⟨v0, vs0, d0, ds0, p0, q0, hargs0, rfl, rfl, h0, r0⟩ := trodAll_cons hA
  obtain ⟨v1, vs1, d1, ds1, p1, q1, hargs1, rfl, rfl, h1, r1⟩ := trodAll_cons r0
  obtain ⟨rfl, rfl, rfl⟩ := trodAll_nil r1
  obtain rfl : args = #[v0, v1] := by cases args; simp_all
  obtain ⟨rfl, rfl⟩ := trodVars_none hV
  obtain ⟨x0, rfl, rfl, rfl, hmax0⟩ := open_string Tryz.underlying9 (hval 0 9 v0 rfl rfl) h0
  obtain ⟨x1, rfl, rfl, rfl, hmax1⟩ := open_string Tryz.underlying9 (hval 1 9 v1 rfl rfl) h1
  have hlen0 : x0.size ≤ 140737488351232 := by
    have := sized_string hsz (j := 0) (t := 9) rfl rfl
    rwa [size_data] at this
  have hlen1 : x1.size ≤ 140737488351232 := by
    have := sized_string hsz (j := 1) (t := 9) rfl rfl
    rwa [size_data] at this
  clear hA0 hsz
  simp only [List.append_nil] at hW'
  refine (walk x0 x1 W hlen0 hlen1 (ready_of hL hSh)).mono fun e W' ⟨he, hb⟩ => ?_
  subst he
  exact ⟨_, rfl, _, _, _, [], [], [], hW', trodAll_cons_mk (shut_bool Tryz.underlying4 _) trodAll_mk0, trodAll_cons_mk (shut_string Tryz.underlying9 hmax0) (trodAll_cons_mk (shut_string Tryz.underlying9 hmax1) trodAll_mk0), rfl, hb.frame _, fun h => by cases h⟩

set_option maxRecDepth 100000 in
theorem lifted (os : Os) (started : os.Started) (H : Type) (enc : TypeId × Value → H) (F : Stop.Interp) :
    ReturnsInHanded {} Tryz.checked os 6 .any ((OpenSpec.ofChange Rows.unifiedRestSpec).preRow enc Tryz.prog Tryz.f6 Rows.unifiedRestRow.domain false Rows.unifiedRestRow.laid) (((OpenSpec.ofChange Rows.unifiedRestSpec).at F).post enc Tryz.prog Tryz.f6 false true false false) := by
  refine returnsInHanded_of_row (C := Tryz.checked) (s := OpenSpec.ofChange Rows.unifiedRestSpec) own started (by kernel_rfl) Tryz.func6
    (witness_row_at (enc := enc) (C := Tryz.checked) false
      (laidWorld os)
      #[.string .empty, .string .empty] rfl (by kernel_rfl) (by kernel_rfl) (by kernel_rfl)
      (OpenSpec.preRow_of_cond 8 (x := ([.lit (.string []), .lit (.string [])], [], [])) (by kernel_rfl) (by kernel_rfl) (fun k hk => by cases hk) (by kernel_rfl) (laidWorld_met os _))) ?_
  intro W base args ds gs before hval hW _ hcond hsz hL hSh _
  exact contract H enc W base args ds gs before hval hW hsz hL hSh

theorem said : Rows.UnifiedRestSaid :=
  OpenClaim.holds_of_cond 6 Tryz.f6 rfl rfl rfl rfl rfl rfl rfl ⟨rfl, rfl, rfl, rfl, rfl⟩ rfl rfl rfl rfl rfl (by kernel_rfl) Tryz.func6 (by kernel_rfl)
    (of_decide_eq_true (by kernel_rfl)) (by unfold Func.isWrapper; first | (rw [if_pos (by decide +kernel)]; kernel_rfl) | (rw [if_neg (by decide +kernel)]; exact ⟨rfl, rfl⟩))
    (fun os started H enc _ F => by rw [OpenClaim.pre_eq_preRow]; exact lifted os started H enc F)

theorem plain (f : FuncId) (fn : Func) (hf : Tryz.pinned.checked.prog.funcNamed Rows.unifiedRestRow.func = some f) (hfn : Tryz.pinned.checked.prog.funcs[f]? = some fn) :
    true = Tryz.pinned.checked.prog.looks [] ∧ ∀ (j : Nat) t, fn.params[j]? = some t → Tryz.pinned.checked.prog.wantsStandIn t = false := by
  obtain rfl : f = 6 := Option.some.inj ((show Tryz.prog.funcNamed Rows.unifiedRestRow.func = some 6 by kernel_rfl).symm.trans hf) |>.symm
  obtain rfl : fn = Tryz.f6 := (Option.some.inj (Tryz.func6.symm.trans hfn)).symm
  refine ⟨by kernel_rfl, fun j t ht => ?_⟩
  rw [Tryz.params6] at ht
  have hm : t = 9 := by simpa using Array.mem_of_getElem? ht
  rcases hm with rfl
  · exact (show Tryz.prog.wantsStandIn 9 = false by kernel_rfl)

theorem card : Rows.UnifiedRestCardSaid :=
  Claim7.holds_tied_plain_at .later [] _ _ _ _ said (fun _ h => by cases h) (by kernel_rfl) (fun _ h => by cases h) unifiedRest_row_tie rfl ⟨rfl, rfl⟩ (by kernel_rfl) rfl plain (by kernel_rfl)
end Go.Proofs.YtglkcajiihpccaaGreatDoor.unifiedRest
