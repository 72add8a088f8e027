/-
  The document's blanks, mark, row, Columns (layer 15).
-/
import Derived.Test.YtjgjfnmljmmplaaDoorSp
namespace Go.Proofs.YtjgjfnmljmmplaaDoor
namespace Sy
open Go.RowKit
open Ed (Ch)

set_option maxHeartbeats 2000000 in
set_option maxRecDepth 100000 in
theorem refBlanks_any (n : Nat) (w : World) (hn : n ≤ 100000000000000) :
    Calls Tryd.prog 44 #[.int .i64 (n : Int)] w fun e w' => e = .returned (.string (bB (Sd.blk n))) ∧ Below w.heap.size w w' := by
  go_enter Tryd.func44, Tryd.ntmps44
  go_wp2_with fail
  go_loopw [3, 4] (fun bo ii wr => ∃ k : Nat, ii = .int .i64 k ∧ k ≤ n ∧ Hid (OwY wr w.heap.size bo (Sd.blk k)) ∧ Hid (Below w.heap.size w wr)) (fun _ ii _ => n - (intOf ii).toNat)
  case atStart => exact ⟨0, rfl, Nat.zero_le _, hid (World.ownsRow_nil _ _ _ _), hid (Below.refl _ _)⟩
  case round =>
    obtain ⟨k, rfl, hk, HO, HB⟩ := hrel
    by_cases hlt : k < n
    · have i2 : (k : Int) < (n : Int) := by omega
      have HAM : Hid ((Sd.blk k).length + 1 ≤ 140737488355328) := hid (by rw [Sd.blk_len]; omega)
      have HBA := hid (HB.out.alloc HB.out.size (.cells #[.int .u8 32] 5))
      go_wp2_with (at_builtin; refine wpList_append_byteY rfl _ _ rfl w.heap.size _ (Sd.blk k) rfl HO.out 32 rfl HAM.out HB.out.size ?_; intro v7 w7 ho7 hb7; have HO7 := hid ho7; have HB7 := hid (HBA.out.trans hb7); clear ho7 hb7)
      go_roundw
      case rel => exact ⟨k + 1, by go_num, by omega, hid (by rw [← Sd.blk_more]; exact HO7.out), HB7⟩
      case measure => simp [intOf]; omega
    · obtain rfl : k = n := by omega
      have i2 : ¬ ((k : Int) < (k : Int)) := by omega
      have hcv := conv_ownY HO.out
      go_wp2_with fail
      go_ret
      exact ⟨rfl, HB.out⟩
set_option maxHeartbeats 2000000 in
theorem refMark_any (x y : ByteArray) (w : World) (hx : x.size ≤ 1099511627776) (hy : y.size ≤ 1099511627776) :
    Calls Tryd.prog 25 #[.string x, .string y] w fun e w' => e = .returned (.string (bB [Sd.mkT (dat x) (dat y)])) ∧ w' = w := by
  have HX := hid (fun w1 => Cx.refBare_any x w1 (by unfold maxLen; omega))
  have HY := hid (fun w1 => Cx.refBare_any y w1 (by unfold maxLen; omega))
  have HW := hid (fun w1 => Cx.refWhole_any x w1 (by unfold maxLen; omega))
  unfold Sd.mkT
  by_cases h : x = y
  · subst h
    have t1 := eq_yes x
    rw [if_pos rfl]
    go_enter Tryd.func25, Tryd.ntmps25
    go_wp2_with fail
    go_ret
    exact ⟨rfl, rfl⟩
  · have t1 := eq_no h
    rw [if_neg (show ¬ (dat x = dat y) from fun e => h (ba_ext e))]
    by_cases hb : Sd.bare (dat x) = Sd.bare (dat y)
    · have hbb : Cx.bareB x = Cx.bareB y := ba_ext (by rw [bare_data, bare_data]; exact hb)
      rw [if_neg (fun e => e hb)]
      rw [hbb] at HX
      have t2 := eq_yes (Cx.bareB y)
      generalize Cx.bareB y = Z at HX HY t2
      have hwe : Pl.wh x.data.toList = Sd.whole (dat x) := rfl
      rw [hwe] at HW
      clear hbb hb h hwe
      cases hw : Sd.whole (dat x) with
      | true =>
        rw [hw] at HW
        rw [if_pos rfl]
        clear hw
        go_enter Tryd.func25, Tryd.ntmps25
        go_wp2_with fail
        refine (HX.out _).mono ?_
        rintro e w1 ⟨rfl, rfl⟩
        go_wp2_with fail
        refine (HY.out _).mono ?_
        rintro e w2 ⟨rfl, rfl⟩
        go_wp2_with fail
        refine (HW.out _).mono ?_
        rintro e w3 ⟨rfl, rfl⟩
        go_wp2_with fail
        go_ret
        exact ⟨rfl, rfl⟩
      | false =>
        rw [hw] at HW
        rw [if_neg Bool.false_ne_true]
        clear hw
        go_enter Tryd.func25, Tryd.ntmps25
        go_wp2_with fail
        refine (HX.out _).mono ?_
        rintro e w1 ⟨rfl, rfl⟩
        go_wp2_with fail
        refine (HY.out _).mono ?_
        rintro e w2 ⟨rfl, rfl⟩
        go_wp2_with fail
        refine (HW.out _).mono ?_
        rintro e w3 ⟨rfl, rfl⟩
        go_wp2_with fail
        go_ret
        exact ⟨rfl, rfl⟩
    · have t2 : ((Cx.bareB x).toList == (Cx.bareB y).toList) = false := eq_no (fun e => hb (by rw [show Sd.bare (dat x) = (Cx.bareB x).data.toList from (bare_data x).symm, show Sd.bare (dat y) = (Cx.bareB y).data.toList from (bare_data y).symm, e]))
      rw [if_pos hb]
      clear hb h HW
      go_enter Tryd.func25, Tryd.ntmps25
      go_wp2_with fail
      refine (HX.out _).mono ?_
      rintro e w1 ⟨rfl, rfl⟩
      go_wp2_with fail
      refine (HY.out _).mono ?_
      rintro e w2 ⟨rfl, rfl⟩
      go_wp2_with fail
      go_ret
      exact ⟨rfl, rfl⟩
/-- a string's last byte -/
theorem last_at {l : Sd.Bs} {k : Nat} {c : UInt8} (hk : k < (bB l).size) (he : k + 1 = l.length) (h : l.getLast? = some c) : (bB l)[k] = c := by
  have h1 : l[k]? = some c := by rw [← h, List.getLast?_eq_getElem?, ← he]; rfl
  have h2 : l[k]? = some (bB l)[k] := by
    have h3 : k < l.length := by omega
    rw [List.getElem?_eq_getElem h3]
    rfl
  rw [h2] at h1
  exact Option.some.inj h1
theorem ext_first (l m : Sd.Bs) : (bB (l ++ m)).extract 0 l.length = bB l := by
  apply ba_ext
  simp [bB, ByteArray.data_extract]
def strN (v : Value) : Nat := match v with
  | .string b => b.size
  | _ => 0
set_option maxHeartbeats 4000000 in
set_option maxRecDepth 100000 in
theorem refRow_any {half sec : Nat} {w : World} (x y : ByteArray) (mk : UInt8) (hh : half ≤ 4096) (hx : x.size ≤ 1099511627776) (hy : y.size ≤ 1099511627776) :
    Calls Tryd.prog 24 #[.string x, .string (bB [mk]), .string y, .int .i64 (half : Int), .int .i64 (sec : Int)] w fun e w' => e = .returned (.string (bB (Sd.rowT half sec (dat x) mk (dat y)))) ∧ Below w.heap.size w w' := by
  have HC1 := hid (fun w1 => refCut_any x 0 (half : Int) w1 (by omega) (by omega) hx)
  have HC2 := hid (fun w1 => refCut_any y (sec : Int) (half : Int) w1 (by omega) (by omega) hy)
  rw [show frm 0 = 0 from rfl] at HC1
  rw [frm_nat] at HC2
  have hll := Sd.cut_half 0 half (Sd.bare x.data.toList)
  have hrl := Sd.cut_half (sec % 8) half (Sd.bare y.data.toList)
  unfold Sd.rowT dat
  generalize Sd.cutT 0 (half : Int) [] (Sd.bare x.data.toList) = L at HC1 hll ⊢
  generalize Sd.cutT (sec % 8) (half : Int) [] (Sd.bare y.data.toList) = R at HC2 hrl ⊢
  have HBK := hid (fun w1 => refBlanks_any (half - L.length) w1 (by omega))
  have hbz : (bB (Sd.blk (half - L.length))).size = half - L.length := by rw [bsz, Sd.blk_len]
  have hlz := bsz L
  have hrz := bsz R
  have hmz := bsz [mk]
  have htx : ((bB L) ++ (bB (Sd.blk (half - L.length))) ++ (⟨#[32]⟩ : ByteArray) ++ (bB [mk]) ++ (⟨#[32]⟩ : ByteArray)).data.toList = L ++ Sd.blk (half - L.length) ++ [32] ++ [mk] ++ [32] := by simp [bB]
  obtain ⟨LN, hLN⟩ : ∃ LN, LN = L.length := ⟨_, rfl⟩
  have i1 : IntKind.i64.wrap ((half : Int) - (LN : Int)) = ((half - LN : Nat) : Int) := by rw [wrapB (by omega) (by omega)]; omega
  have HLX := hid hLN
  rw [← hLN] at HC1 HBK hbz hlz htx hll
  obtain ⟨BN, hBN⟩ : ∃ BN, half - LN = BN := ⟨_, rfl⟩
  rw [hBN] at HBK hbz htx i1
  rw [List.length_singleton] at hmz
  generalize bB (Sd.blk BN) = BB at HBK hbz htx
  by_cases hr0 : R = []
  · obtain ⟨k0, hk0⟩ := Sd.row_pre (mk := mk) (half := half) (l := L) (by omega)
    have hst := Sd.row_stop (half := half) (l := L) (mk := mk)
    have hbr := Sd.row_bare (half := half) (l := L) (mk := mk)
    have hyl : (Sd.rowY half L mk).length ≤ half + 2 := by
      unfold Sd.rowY
      split
      · omega
      · simp only [List.length_append, Sd.blk_len, List.length_singleton]
        omega
    have hkl := congrArg List.length hk0
    simp only [List.length_append, Sd.blk_len, List.length_singleton] at hkl
    have hk6 : k0 ≤ 5000 := by omega
    clear hkl
    generalize Sd.rowY half L mk = Y at hk0 hst hbr hyl
    have HS5 : Hid ((bB L) ++ BB ++ (⟨#[32]⟩ : ByteArray) ++ (bB [mk]) ++ (⟨#[32]⟩ : ByteArray) = bB (Y ++ Sd.blk (k0 + 1))) := hid (ba_ext (by rw [htx, ← hk0, ← hBN, hLN]; rfl))
    have HBR : Hid (bB Y ++ (⟨#[10]⟩ : ByteArray) = bB (Sd.rowG half L mk R)) := hid (by rw [hr0, hbr]; apply ba_ext; simp [bB])
    rw [← HBR.out]
    rw [hr0, show bB ([] : Sd.Bs) = ⟨#[]⟩ from rfl] at HC2
    have hst2 : LN = Y.length ∨ (LN < Y.length ∧ Y.getLast? ≠ some 32) := by rw [hLN]; exact hst
    have HST := hid hst2
    generalize bB L = LB at HC1 hlz HS5
    generalize bB [mk] = MK at hmz HS5 ⊢
    have z1 : ¬ (9223372036854775807 < LN + BN) := by omega
    have z2 : ¬ (9223372036854775807 < LN + BN + 1) := by omega
    have z3 : ¬ (9223372036854775807 < LN + BN + 1 + 1) := by omega
    have z4 : ¬ (9223372036854775807 < LN + BN + 1 + 1 + 1) := by omega
    have HYL := hid hyl
    clear hst hst2 hbr hk0 hr0 htx hrz hrl hLN hBN
    go_enter Tryd.func24, Tryd.ntmps24
    go_wp2_with fail
    refine (HC1.out w).mono ?_
    rintro e w1 ⟨rfl, hb1⟩
    have HB1 := hid hb1
    clear hb1 HC1
    go_wp2_with fail
    refine (HBK.out w1).mono ?_
    rintro e w2 ⟨rfl, hb2⟩
    have HB2 := hid (HB1.out.trans (hb2.mono HB1.out.size))
    clear hb2 HBK HB1
    go_wp2_with fail
    rw [HS5.out]
    generalize hS6 : bB (Y ++ Sd.blk (k0 + 1)) = S6
    refine (HC2.out w2).mono ?_
    rintro e w3 ⟨rfl, hb3⟩
    have HB3 := hid (HB2.out.trans (hb3.mono HB2.out.size))
    clear hb3 HC2 HB2
    have HS6 := hid hS6
    have hz6 : S6.size = Y.length + (k0 + 1) := by rw [← hS6, bsz, List.length_append, Sd.blk_len]
    have hz7 : ¬ (9223372036854775807 < Y.length + (k0 + 1)) := by have := HYL.out; omega
    clear hS6
    go_wp2_with fail
    go_loopw [13] (fun ss wr => ∃ k : Nat, k ≤ 6000 ∧ ss = .string (bB (Y ++ Sd.blk k)) ∧ wr = w3) (fun ss _ => strN ss)
    case atStart => exact ⟨k0 + 1, by omega, by rw [HS6.out]; first | rfl | (congr 1; apply ba_ext; simp), rfl⟩
    case round =>
      obtain ⟨k, hk, rfl, rfl⟩ := hrel
      have hyl := HYL.out
      obtain ⟨ZN, hZN⟩ : ∃ ZN, ZN = Y.length + k := ⟨_, rfl⟩
      have hzs : (bB (Y ++ Sd.blk k)).size = ZN := by rw [bsz, List.length_append, Sd.blk_len, hZN]
      have HZ := hid hZN
      have hz8 : ¬ (9223372036854775807 < ZN + 1) := by omega
      by_cases hk0 : k = 0
      · have HY0 : Hid (bB (Y ++ Sd.blk k) = bB Y) := hid (by rw [hk0, show Sd.blk 0 = [] from rfl, List.append_nil])
        by_cases hy0 : ZN = 0
        · have t1 : ¬ ((0 : Int) < (ZN : Int)) := by omega
          generalize bB (Y ++ Sd.blk k) = Z at hzs HY0
          clear hZN hk0 hz6 hz7
          go_wp2_with fail
          rw [HY0.out]
          go_ret
          exact ⟨rfl, HB3.out⟩
        · obtain ⟨ZM, hZM⟩ : ∃ ZM, ZM = ZN - 1 := ⟨_, rfl⟩
          have t1 : (0 : Int) < (ZN : Int) := by omega
          have q1 : IntKind.i64.wrap ((ZN : Int) - 1) = (ZM : Int) := by rw [wrapB (by omega) (by omega)]; omega
          have hzm : ZM < (bB (Y ++ Sd.blk k)).size := by omega
          obtain ⟨c, hc⟩ : ∃ c, Y.getLast? = some c := by
            cases hg : Y.getLast? with
            | none => rw [List.getLast?_eq_none_iff] at hg; rw [hg] at hZN; simp at hZN; omega
            | some c => exact ⟨c, rfl⟩
          have hxs : (bB (Y ++ Sd.blk k))[ZM] = c := last_at hzm (by rw [List.length_append, Sd.blk_len]; omega) (by rw [hk0, show Sd.blk 0 = [] from rfl, List.append_nil]; exact hc)
          have j1 : (0 : Int) ≤ (ZM : Int) := by omega
          have j2 : (ZM : Int) < (ZN : Int) := by omega
          by_cases hc32 : c = 32
          · have hLZ : ¬ ((LN : Int) < (ZN : Int)) := by
              rcases HST.out with h | h
              · omega
              · exact absurd (by rw [hc, hc32]) h.2
            have hLZ2 : ¬ (LN < ZN) := by omega
            have hLZ3 : ZN ≤ LN := by omega
            rw [hc32] at hxs
            generalize bB (Y ++ Sd.blk k) = Z at hzs HY0 hzm hxs
            clear hZN hk0 hz6 hz7 hZM hc hc32
            go_wp2_with fail
            go_ret
            exact ⟨by rw [HY0.out]; rfl, HB3.out⟩
          · have t2 : ((c.toNat : Int) == 32) = false := by
              rw [beq_eq_false_iff_ne]
              intro e
              apply hc32
              apply UInt8.toNat_inj.1
              show c.toNat = 32
              omega
            generalize bB (Y ++ Sd.blk k) = Z at hzs HY0 hzm hxs
            clear hZN hk0 hz6 hz7 hZM hc hc32
            go_wp2_with fail
            rw [HY0.out]
            go_ret
            exact ⟨rfl, HB3.out⟩
      · obtain ⟨j, hj⟩ : ∃ j, k = j + 1 := ⟨k - 1, by omega⟩
        obtain ⟨ZM, hZM⟩ : ∃ ZM, ZM = ZN - 1 := ⟨_, rfl⟩
        have t1 : (0 : Int) < (ZN : Int) := by omega
        have q1 : IntKind.i64.wrap ((ZN : Int) - 1) = (ZM : Int) := by rw [wrapB (by omega) (by omega)]; omega
        have hzm : ZM < (bB (Y ++ Sd.blk k)).size := by omega
        have hxs : (bB (Y ++ Sd.blk k))[ZM] = 32 := last_at hzm (by rw [List.length_append, Sd.blk_len]; omega) (by rw [hj, ← Sd.blk_more, ← List.append_assoc, List.getLast?_concat])
        have j1 : (0 : Int) ≤ (ZM : Int) := by omega
        have j2 : (ZM : Int) < (ZN : Int) := by omega
        have j3 : (ZM : Int) ≤ (ZN : Int) := by omega
        have hLZ : (LN : Int) < (ZN : Int) := by
          rcases HST.out with h | h
          · omega
          · omega
        have HEX : Hid ((bB (Y ++ Sd.blk k)).extract 0 ZM = bB (Y ++ Sd.blk j)) := hid (by
          rw [show ZM = (Y ++ Sd.blk j).length by rw [List.length_append, Sd.blk_len]; omega, hj, ← Sd.blk_more, ← List.append_assoc]
          exact ext_first _ _)
        have HZJ : Hid (strN (.string (bB (Y ++ Sd.blk j))) < strN (.string (bB (Y ++ Sd.blk k)))) := hid (by show (bB _).size < (bB _).size; rw [bsz, bsz, List.length_append, List.length_append, Sd.blk_len, Sd.blk_len]; omega)
        have hjk : j ≤ 6000 := by omega
        generalize bB (Y ++ Sd.blk k) = Z at hzs hzm hxs HEX HZJ
        clear hZN hk0 hz6 hz7 hZM hj
        go_wp2_with fail
        go_roundw
        case rel => exact ⟨j, hjk, by rw [HEX.out], by trivial⟩
        case measure => simpa [HEX.out] using HZJ.out
  · have hrf := Sd.row_full (mk := mk) (r := R) (half := half) (l := L) (by omega) hr0
    have hx := empN (bB R) (by rw [hrz]; exact fun e => hr0 (List.length_eq_zero_iff.1 e))
    have HBR : Hid ((bB L) ++ BB ++ (⟨#[32]⟩ : ByteArray) ++ (bB [mk]) ++ (⟨#[32]⟩ : ByteArray) ++ bB R ++ (⟨#[10]⟩ : ByteArray) = bB (Sd.rowG half L mk R)) := hid (by
      rw [← hrf]
      apply ba_ext
      have e9 : ((bB L) ++ BB ++ (⟨#[32]⟩ : ByteArray) ++ (bB [mk]) ++ (⟨#[32]⟩ : ByteArray) ++ bB R ++ (⟨#[10]⟩ : ByteArray)).data.toList = ((bB L) ++ BB ++ (⟨#[32]⟩ : ByteArray) ++ (bB [mk]) ++ (⟨#[32]⟩ : ByteArray)).data.toList ++ R ++ [10] := by simp [bB]
      rw [e9, htx, ← hBN, hLN]
      rfl)
    rw [← HBR.out]
    generalize bB L = LB at HC1 hlz
    generalize bB [mk] = MK at hmz ⊢
    obtain ⟨RN, hRN⟩ : ∃ RN, RN = R.length := ⟨_, rfl⟩
    rw [← hRN] at HC2 hrz hrl
    generalize bB R = RB at HC2 hrz hx ⊢
    have z1 : ¬ (9223372036854775807 < LN + BN) := by omega
    have z2 : ¬ (9223372036854775807 < LN + BN + 1) := by omega
    have z3 : ¬ (9223372036854775807 < LN + BN + 1 + 1) := by omega
    have z4 : ¬ (9223372036854775807 < LN + BN + 1 + 1 + 1) := by omega
    have z5 : ¬ (9223372036854775807 < LN + BN + 1 + 1 + 1 + RN) := by omega
    have z6 : ¬ (9223372036854775807 < LN + BN + 1 + 1 + 1 + RN + 1) := by omega
    clear HBR hrf hr0 htx hRN hLN hBN
    go_enter Tryd.func24, Tryd.ntmps24
    go_wp2_with fail
    refine (HC1.out w).mono ?_
    rintro e w1 ⟨rfl, hb1⟩
    have HB1 := hid hb1
    clear hb1 HC1
    go_wp2_with fail
    refine (HBK.out w1).mono ?_
    rintro e w2 ⟨rfl, hb2⟩
    have HB2 := hid (HB1.out.trans (hb2.mono HB1.out.size))
    clear hb2 HBK HB1
    go_wp2_with fail
    refine (HC2.out w2).mono ?_
    rintro e w3 ⟨rfl, hb3⟩
    have HB3 := hid (HB2.out.trans (hb3.mono HB2.out.size))
    clear hb3 HC2 HB2
    go_wp2_with fail
    go_ret
    exact ⟨rfl, HB3.out⟩
set_option maxHeartbeats 2000000 in
theorem refCols_any (wd : Int) (w : World) : Calls Tryd.prog 9 #[.int .i64 wd] w fun e w' => e = .returned (.tuple #[.int .i64 (colH wd : Nat), .int .i64 (colS wd : Nat), .int .i64 (colE wd : Nat)]) ∧ Below w.heap.size w w' := by
  unfold colH colS colE
  by_cases h1 : wd < 7
  · rw [if_neg (by omega), if_neg (by omega), if_neg (by omega)]
    go_enter Tryd.func9, Tryd.ntmps9
    go_wp2
    go_ret3
    exact ⟨rfl, Below.refl _ _⟩
  · by_cases h2 : 4096 < wd
    · rw [if_neg (by omega), if_neg (by omega), if_neg (by omega)]
      go_enter Tryd.func9, Tryd.ntmps9
      go_wp2
      go_ret3
      exact ⟨rfl, Below.refl _ _⟩
    · rw [if_pos (by omega), if_pos (by omega), if_pos (by omega)]
      obtain ⟨H, hH⟩ : ∃ H, H = ((wd - 3) / 2).toNat := ⟨_, rfl⟩
      have q1 : IntKind.i64.wrap (wd - 3) = wd - 3 := wrapB (by omega) (by omega)
      have q2 : (wd - 3).tdiv 2 = (H : Int) := by rw [Int.tdiv_eq_ediv_of_nonneg (by omega)]; omega
      have q3 : IntKind.i64.wrap (H : Int) = (H : Int) := wrapB (by omega) (by omega)
      have q4 : IntKind.i64.wrap ((H : Int) + 3) = ((H + 3 : Nat) : Int) := by rw [wrapB (by omega) (by omega)]; omega
      rw [← hH]
      clear hH
      go_enter Tryd.func9, Tryd.ntmps9
      go_wp2
      go_ret3
      exact ⟨rfl, Below.refl _ _⟩
end Sy
end Go.Proofs.YtjgjfnmljmmplaaDoor
