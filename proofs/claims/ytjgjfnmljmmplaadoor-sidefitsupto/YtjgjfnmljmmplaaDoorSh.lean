/-
  The program's Cut (layer 15).
-/
import Derived.Test.YtjgjfnmljmmplaaDoorSg
import Derived.Test.YtjgjfnmljmmplaaDoorBx
import Derived.Test.YtjgjfnmljmmplaaDoorXEnds
import Derived.Test.YtjgjfnmljmmplaaDoorC3
import Derived.Test.YtjgjfnmljmmplaaDoorShelf
import Derived.Lib.Repeat
namespace Go.Proofs.YtjgjfnmljmmplaaDoor
namespace Sy
open Go.RowKit

theorem bsz (l : Sd.Bs) : (bB l).size = l.length := by rw [← dsize]; rfl
theorem bare_data (s : ByteArray) : (Cx.bareB s).data.toList = Sd.bare s.data.toList := by
  unfold Cx.bareB Sd.bare Pl.wh
  by_cases h : s.data.toList.getLast? = some 10
  · rw [if_pos (by rw [h]; rfl), if_pos h]
    rw [List.dropLast_eq_take]
    simp [ByteArray.data_extract]
    have e : s.data.size = s.size := rfl
    rw [List.dropLast_eq_take, Array.length_toList, e]
  · rw [if_neg (by simpa using h), if_neg h]
theorem bare_size (s : ByteArray) : (Sd.bare s.data.toList).length ≤ s.size := by
  rw [← dsize]
  unfold Sd.bare
  split
  · simp
  · exact Nat.le_refl _
theorem run_maxS (t : TypeId) (x y : Int) (w : World) : (Builtin.max_ #[3, 3] t #[.int .i64 x, .int .i64 y]).run Tryd.prog w = .ok (.int .i64 (max x y)) w := by
  rw [run_max_int2]
  congr 2
  by_cases h : y > x
  · rw [if_pos h]; omega
  · rw [if_neg h]; omega
theorem wrapB {x : Int} (h1 : -9223372036854775808 ≤ x) (h2 : x ≤ 9223372036854775807) : IntKind.i64.wrap x = x := wrapOk h1 h2
theorem repL : ∀ n : Nat, Lib.repeatL [32] n = Sd.blk n
  | 0 => rfl
  | n + 1 => by rw [Lib.repeatL, repL n]; rfl
theorem blanks_any (n : Nat) (w : World) (hn : n ≤ 140737488355328) :
    Calls Tryd.prog 27 #[.string ⟨#[32]⟩, .int .i64 (n : Int)] w fun e w' => e = .returned (.string (bB (Sd.blk n))) ∧ Below w.heap.size w w' := by
  have hs : (ByteArray.mk #[32]).size = 1 := rfl
  refine (Tryd.strings_Repeat ⟨#[32]⟩ n w (by omega) (by rw [hs]; omega)).mono ?_
  rintro e w' ⟨rfl, hb⟩
  refine ⟨?_, hb⟩
  rw [← repL n]
  rfl
theorem ext_one (S : ByteArray) {k : Nat} (h : k < S.size) : (S.extract k (k + 1)).data.toList = [S[k]] := by
  have h' : k < S.data.toList.length := by rw [dsize]; exact h
  simp only [ByteArray.data_extract, Array.toList_extract, List.extract]
  rw [show k + 1 - k = 1 by omega, List.drop_eq_getElem_cons h']
  rfl
/-- where a line begins, from the last stop on -/
def frm (c : Int) : Nat := (max c 0).toNat % 8
theorem frm_eq (c : Int) : (max c 0).tmod 8 = (frm c : Int) := by
  rw [Int.tmod_eq_emod_of_nonneg (by omega)]
  unfold frm
  omega
set_option maxHeartbeats 400000 in
set_option maxRecDepth 100000 in
theorem cut_any (s : ByteArray) (c wd : Int) (w : World) (h1 : -9223372036854775808 ≤ wd) (h2 : wd ≤ 9223372036854775807) (hs : s.size ≤ 1099511627776) :
    Calls Tryd.prog 12 #[.string s, .int .i64 c, .int .i64 wd] w fun e w' => e = .returned (.tuple #[.string (bB (Sd.cutT (frm c) wd [] (Sd.bare s.data.toList))), .int .i64 (Sd.cutT (frm c) wd [] (Sd.bare s.data.toList)).length]) ∧ Below w.heap.size w w' := by
  have HBR := hid (Cx.bare_any s w (by unfold maxLen; omega))
  have hbl := bare_size s
  have hbd := bare_data s
  obtain ⟨L, hL⟩ : ∃ L, L = Sd.bare s.data.toList := ⟨_, rfl⟩
  rw [← hL] at hbl hbd ⊢
  generalize Cx.bareB s = S at HBR hbd
  have hSz : S.size = L.length := by rw [← dsize, hbd]
  obtain ⟨N, hN⟩ : ∃ N, N = L.length := ⟨_, rfl⟩
  rw [← hN] at hSz hbl
  have hfe := frm_eq c
  have hf8 : frm c < 8 := by unfold frm; omega
  generalize frm c = fr at hfe hf8 ⊢
  obtain ⟨M, hM⟩ : ∃ M, M = max c 0 := ⟨_, rfl⟩
  have hmx : ∀ X : World, (Builtin.max_ #[3, 3] 3 #[.int .i64 c, .int .i64 0]).run Tryd.prog X = .ok (.int .i64 M) X := fun X => by rw [hM]; exact run_maxS _ _ _ _
  rw [← hM] at hfe
  obtain ⟨R, hR⟩ : ∃ R, R = Sd.cutT fr wd [] L := ⟨_, rfl⟩
  have HR := hid hR.symm
  rw [← hR]
  have HSD := hid hbd
  have HNL := hid hN
  have hF0 := Bx.fresh w
  have HF0 := hid hF0
  have HB0 := hid ((Below.refl w.heap.size w).alloc (Nat.le_refl _) (.cells #[.pointer none, .slice none 0 0] 57))
  obtain ⟨D, hD⟩ : ∃ D, D = w.heap.size := ⟨_, rfl⟩
  rw [← hD] at HF0 HB0 ⊢
  have HDW : Hid (D ≤ (w.alloc (.cells #[.pointer none, .slice none 0 0] 57)).heap.size) := hid (by rw [hD]; exact HB0.out.size |> fun h => by rw [hD] at HB0; exact HB0.out.size)
  clear hM hR hbd hF0 hL hN
  go_enter Tryd.func12, Tryd.ntmps12
  go_wp2_with fail
  refine HBR.out.mono ?_
  rintro e w1 ⟨rfl, rfl⟩
  go_wp2_with fail
  rw [← hD]
  clear hD
  generalize w1.alloc (.cells #[.pointer none, .slice none 0 0] 57) = w2 at HF0 HB0 HDW ⊢
  go_loopw [19] (fun ii wr => ∃ (k : Nat) (acc : Sd.Bs), ii = .int .i64 k ∧ k ≤ N ∧ Hid (Bx.PgAt D D 57 [] acc wr) ∧ Hid (Below D w1 wr) ∧ Hid (D ≤ wr.heap.size) ∧ Hid (Sd.cutT fr wd acc (L.drop k) = R) ∧ Hid ((acc.length : Int) ≤ max wd 0) ∧ Hid (acc.length ≤ 8 * k)) (fun ii _ => N - (intOf ii).toNat)
  case atStart => exact ⟨0, [], rfl, Nat.zero_le _, HF0, HB0, HDW, hid (by rw [List.drop_zero]; exact HR.out), hid (by show (0 : Int) ≤ _; omega), hid (Nat.le_refl _)⟩
  case round =>
    obtain ⟨k, acc, rfl, hk, HF, HB, HDR, HC, HW, H8⟩ := hrel
    clear HF0 HB0 HDW
    by_cases hlt : k < N
    · obtain ⟨x, hx⟩ : ∃ x, L[k]? = some x := ⟨_, List.getElem?_eq_getElem (by have := HNL.out; omega)⟩
      have i1 : (0 : Int) ≤ (k : Int) := by omega
      have i2 : (k : Int) < (N : Int) := by omega
      have i3 : IntKind.i64.wrap ((k : Int) + 1) = (k : Int) + 1 := wrapB (by omega) (by omega)
      have hkS : k < S.size := by omega
      have hmn : min (k + 1) N - k = 1 := by omega
      have hxs : S[k] = x := by
        have h9 : S.data.toList[k]? = some x := by rw [HSD.out]; exact hx
        have h8 : S.data.toList[k]? = some S[k] := by rw [List.getElem?_eq_getElem (by rw [dsize]; exact hkS)]; rfl
        rw [h8] at h9
        exact Option.some.inj h9
      have HXT : Hid ((S.extract k (k + 1)).data.toList = [x]) := hid (by
        have e := List.getElem?_eq_some_iff.1 hx
        rw [ext_one S hkS, hxs])
      have hdr : L.drop k = x :: L.drop (k + 1) := by
        obtain ⟨h5, h6⟩ := List.getElem?_eq_some_iff.1 hx
        rw [List.drop_eq_getElem_cons h5, h6]
      rw [hdr] at HC
      obtain ⟨A, hA⟩ : ∃ A, A = acc.length := ⟨_, rfl⟩
      have hw := HW.out
      have h8 := H8.out
      rw [← hA] at hw h8
      obtain ⟨p3, a3, c3, hk3⟩ := HF.out.blk
      rw [← hA] at hk3
      have HA := hid hA
      clear hA
      have HLN := hid (Bx.len_any hk3)
      have HKB := hid hk3
      have j1 : IntKind.i64.wrap (wd - (A : Int)) = wd - (A : Int) := wrapB (by omega) (by omega)
      clear hx hk3 hdr
      by_cases h9 : x = 9
      · have t1 : ((x.toNat : Int) == 9) = true := by rw [h9]; rfl
        obtain ⟨E, hE⟩ : ∃ E, E = (fr + A) % 8 := ⟨_, rfl⟩
        obtain ⟨Q, hQ⟩ : ∃ Q, Q = 8 - E := ⟨_, rfl⟩
        have hE8 : E < 8 := by omega
        have q1 : IntKind.i64.wrap ((fr : Int) + (A : Int)) = (fr : Int) + (A : Int) := wrapB (by omega) (by omega)
        have q2 : ((fr : Int) + (A : Int)).tmod 8 = (E : Int) := by rw [Int.tmod_eq_emod_of_nonneg (by omega)]; omega
        have q4 : IntKind.i64.wrap (E : Int) = (E : Int) := wrapB (by omega) (by omega)
        have q3 : IntKind.i64.wrap (8 - (E : Int)) = (Q : Int) := by rw [wrapB (by omega) (by omega)]; omega
        have hQ8 : 1 ≤ Q ∧ Q ≤ 8 := by omega
        have HTD : Hid (Sd.told fr acc.length x = Sd.blk Q) := hid (by
          unfold Sd.told
          rw [if_pos h9, ← HA.out, hQ, hE])
        have HBK := hid (fun w5 => blanks_any Q w5 (by omega))
        have hTz : (bB (Sd.blk Q)).size = Q := by rw [bsz, Sd.blk_len]
        have HTL : Hid ((bB (Sd.blk Q)).data.toList = Sd.blk Q) := hid rfl
        generalize bB (Sd.blk Q) = TB at HBK hTz HTL
        clear hE hQ hfe hmx
        go_wp2_with fail
        refine HLN.out.mono ?_
        rintro e w3 ⟨rfl, rfl⟩
        go_wp2_with fail
        refine (HBK.out _).mono ?_
        rintro e w4 ⟨rfl, hb4⟩
        replace HKB := hid ((hb4.block D (lt_of_heap HKB.out)).trans HKB.out)
        replace HF := hid (HF.out.below hb4)
        replace HB := hid (HB.out.trans (hb4.mono HDR.out))
        replace HDR := hid (Nat.le_trans HDR.out hb4.size)
        replace HLN := hid (Bx.len_any HKB.out)
        clear hb4 HBK q1 q2 q3 q4
        by_cases hcut : wd - (A : Int) < (Q : Int)
        · have HRA : Hid (acc = R) := hid ((Sd.cut_stop (by rw [HTD.out, Sd.blk_len, ← HA.out]; exact hcut)).symm.trans HC.out)
          go_wp2_with fail
          refine HLN.out.mono ?_
          rintro e w5 ⟨rfl, rfl⟩
          rw [HRA.out] at HF
          go_wp2_with fail
          refine (Bx.str_any (by decide) HF.out HDR.out).mono ?_
          rintro e w6 ⟨rfl, hb6, hk6⟩
          obtain ⟨p6, a6, c6, hk7⟩ := HF.out.blk
          have HL6 := hid (Bx.len_any (hk6.trans hk7))
          have HB6 := hid (HB.out.trans hb6)
          clear hb6 hk6 hk7
          go_wp2_with fail
          refine HL6.out.mono ?_
          rintro e w7 ⟨rfl, rfl⟩
          go_wp2_with fail
          go_ret2
          exact ⟨rfl, HB6.out⟩
        · have hnc : ¬ (wd - (acc.length : Int) < ((Sd.told fr acc.length x).length : Int)) := by rw [HTD.out, Sd.blk_len, ← HA.out]; exact hcut
          have HC5 : Hid (Sd.cutT fr wd (acc ++ Sd.blk Q) (L.drop (k + 1)) = R) := hid (by rw [← HC.out, Sd.cut_on hnc, HTD.out])
          have HW5 : Hid (((acc ++ Sd.blk Q).length : Int) ≤ max wd 0) := hid (by rw [List.length_append, Sd.blk_len, ← HA.out]; omega)
          have H85 : Hid ((acc ++ Sd.blk Q).length ≤ 8 * (k + 1)) := hid (by rw [List.length_append, Sd.blk_len, ← HA.out]; omega)
          clear hnc
          go_wp2_with fail
          refine HLN.out.mono ?_
          rintro e w5 ⟨rfl, rfl⟩
          have HWS := hid (Bx.ws_any Bx.embB (TB) HF.out (by rw [hTz, ← HA.out]; omega) HDR.out)
          rw [HTL.out] at HWS
          go_wp2_with fail
          refine HWS.out.mono ?_
          rintro e w5 ⟨rfl, hf5, hr5⟩
          have HF5 := hid hf5
          have HB5 := hid (HB.out.trans hr5.below)
          have HD5 := hid (Nat.le_trans HDR.out hr5.below.size)
          clear hf5 hr5 HWS
          go_wp2_with fail
          go_roundw
          case rel => exact ⟨k + 1, acc ++ Sd.blk Q, by go_num, by omega, HF5, HB5, HD5, HC5, HW5, H85⟩
          case measure => simp [intOf]; omega
      · have t1 : ((x.toNat : Int) == 9) = false := by
          rw [beq_eq_false_iff_ne]
          intro e
          apply h9
          apply UInt8.toNat_inj.1
          show x.toNat = 9
          omega
        have HTD : Hid (Sd.told fr acc.length x = [x]) := hid (by
          unfold Sd.told
          rw [if_neg h9])
        have HTL := HXT
        have hXz : (S.extract k (k + 1)).size = 1 := by rw [← dsize, HXT.out]; rfl
        have HXZ := hid hXz
        clear hXz hfe hmx
        by_cases hcut : wd - (A : Int) < 1
        · have HRA : Hid (acc = R) := hid ((Sd.cut_stop (by rw [HTD.out, ← HA.out]; exact hcut)).symm.trans HC.out)
          go_wp2_with fail
          refine HLN.out.mono ?_
          rintro e w5 ⟨rfl, rfl⟩
          rw [HRA.out] at HF
          go_wp2_with fail
          refine (Bx.str_any (by decide) HF.out HDR.out).mono ?_
          rintro e w6 ⟨rfl, hb6, hk6⟩
          obtain ⟨p6, a6, c6, hk7⟩ := HF.out.blk
          have HL6 := hid (Bx.len_any (hk6.trans hk7))
          have HB6 := hid (HB.out.trans hb6)
          clear hb6 hk6 hk7
          go_wp2_with fail
          refine HL6.out.mono ?_
          rintro e w7 ⟨rfl, rfl⟩
          go_wp2_with fail
          go_ret2
          exact ⟨rfl, HB6.out⟩
        · have hnc : ¬ (wd - (acc.length : Int) < ((Sd.told fr acc.length x).length : Int)) := by rw [HTD.out, ← HA.out]; exact hcut
          have HC5 : Hid (Sd.cutT fr wd (acc ++ [x]) (L.drop (k + 1)) = R) := hid (by rw [← HC.out, Sd.cut_on hnc, HTD.out])
          have HW5 : Hid (((acc ++ [x]).length : Int) ≤ max wd 0) := hid (by rw [List.length_append, List.length_singleton, ← HA.out]; omega)
          have H85 : Hid ((acc ++ [x]).length ≤ 8 * (k + 1)) := hid (by rw [List.length_append, List.length_singleton, ← HA.out]; omega)
          clear hnc
          go_wp2_with fail
          refine HLN.out.mono ?_
          rintro e w5 ⟨rfl, rfl⟩
          have HWS := hid (Bx.ws_any Bx.embB (S.extract k (k + 1)) HF.out (by rw [HXZ.out, ← HA.out]; omega) HDR.out)
          rw [HTL.out] at HWS
          go_wp2_with fail
          refine HWS.out.mono ?_
          rintro e w5 ⟨rfl, hf5, hr5⟩
          have HF5 := hid hf5
          have HB5 := hid (HB.out.trans hr5.below)
          have HD5 := hid (Nat.le_trans HDR.out hr5.below.size)
          clear hf5 hr5 HWS
          go_wp2_with fail
          go_roundw
          case rel => exact ⟨k + 1, acc ++ [x], by go_num, by omega, HF5, HB5, HD5, HC5, HW5, H85⟩
          case measure => simp [intOf]; omega
    · obtain rfl : k = N := by omega
      have i2 : ¬ ((k : Int) < (k : Int)) := by omega
      have HRA : Hid (acc = R) := hid (by
        have h := HC.out
        rw [List.drop_of_length_le (by have := HNL.out; omega)] at h
        exact h)
      rw [HRA.out] at HF
      go_wp2_with fail
      refine (Bx.str_any (by decide) HF.out HDR.out).mono ?_
      rintro e w6 ⟨rfl, hb6, hk6⟩
      obtain ⟨p6, a6, c6, hk7⟩ := HF.out.blk
      have HL6 := hid (Bx.len_any (hk6.trans hk7))
      have HB6 := hid (HB.out.trans hb6)
      clear hb6 hk6 hk7
      go_wp2_with fail
      refine HL6.out.mono ?_
      rintro e w7 ⟨rfl, rfl⟩
      go_wp2_with fail
      go_ret2
      exact ⟨rfl, HB6.out⟩
end Sy
end Go.Proofs.YtjgjfnmljmmplaaDoor
