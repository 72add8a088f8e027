/-
  The document's Cut (layer 15). (Made by wip/gensi.py.)
-/
import Derived.Test.YtjgjfnmljmmplaaDoorSh
namespace Go.Proofs.YtjgjfnmljmmplaaDoor
namespace Sy
open Go.RowKit

abbrev OwY (w : World) (B : Nat) (v : Value) (l : Sd.Bs) : Prop := w.ownsRow B 5 1 v l.length (Lib.byteCells l)
theorem conv_ownY {w : World} {base : Nat} {v : Value} {l : List UInt8} (h : OwY w base v l) :
    (convert 55 9 v).run Tryd.prog w = .ok (.string (bB l)) w := by
  have h' := h
  rcases h.2 with ⟨hv, hn⟩ | ⟨g, cap, cur, hv, _⟩
  · subst hv
    rw [List.length_eq_zero_iff.1 hn]
    rw [run_convert_bytes_string w 55 9 5 none 0 0 Tryd.underlying55 Tryd.underlying5 Tryd.underlying9]
    simp [Conv.bytesToString]
    rfl
  · subst hv
    refine run_convert_bytes_back w 55 9 5 ⟨g, 0, none⟩ cap l Tryd.underlying55 Tryd.underlying5 Tryd.underlying9 fun j hj => ?_
    have := h'.cellAt j (by omega)
    have ea : (⟨g, 0, none⟩ : Addr).add j = ⟨g, j, none⟩ := by
      simp only [Addr.add, Nat.zero_add]
      split
      · next h0 => rw [h0]
      · rfl
    rw [ea, this]
    simp [Lib.byteCells, hj]
theorem own_geY {w : World} {B : Nat} {v : Value} {l : Sd.Bs} (h : OwY w B v l) : ∀ k, v.ownBlock = some k → B ≤ k := fun k hk => (World.ownsRow.lt h k hk).1
/-- one byte appended to a row of the call's own, out of a row of one cell just made -/
theorem wpList_append_byteY {ops : Array Oper} {rest : List Oper} {o : Oper} {a : Act} {w : World} {Q : Exit → Act → World → Prop} (hgd : o.guard = none) (sl x : Operand)
    (ho : o.op = .call { callee := .builtin .append, args := #[sl, x], argTypes := #[55, 55] }) (B : Nat) (v : Value) (l : Sd.Bs) (hs : a.eval sl = v)
    (hown : OwY w B v l) (c : UInt8) (hx : a.eval x = .slice (some ⟨w.heap.size, 0, none⟩) 1 1) (hfit : l.length + 1 ≤ 140737488355328) (hB : B ≤ w.heap.size)
    (h : ∀ v' w', OwY w' B v' (l ++ [c]) → Below B (w.alloc (.cells #[.int .u8 c.toNat] 5)) w' → wpList Tryd.prog ops Q rest (a.put o.dst v') w') : wpList Tryd.prog ops Q (o :: rest) a (w.alloc (.cells #[.int .u8 c.toNat] 5)) := by
  obtain ⟨i0, hi, hz0, hz1, hz2⟩ := info_parts Bx.infoByteB
  refine wpList_append_own _ hgd sl x 55 ho B 5 i0 (.int .u8 0) 1 1 Tryd.underlying55 hi hz0 hz1 hz2 rfl (by decide) v l.length (Lib.byteCells l) hs (hown.alloc _) ⟨w.heap.size, 0, none⟩ 1 1 [.int .u8 c.toNat] hx rfl ?c1 ?c2 ?c3 ?c4 ?c5 ?_
  case c1 =>
    intro j u hj
    match j, hj with
    | 0, hj => simp at hj; subst hj; simp [Addr.add]
  case c2 => intro u hu; simp at hu; subst hu; rfl
  case c3 => unfold maxLen; omega
  case c4 => omega
  case c5 => simp; omega
  intro v2 w2 ho2 hg2 _
  refine h v2 w2 ?_ ((Below.refl B _).grown hg2 (by simp; omega) (own_geY hown))
  show w2.ownsRow _ _ _ _ _ _
  rw [Lib.byteCells_append, List.length_append]
  exact ho2
set_option maxHeartbeats 8000000 in
set_option maxRecDepth 100000 in
theorem refCut_any (s : ByteArray) (c wd : Int) (w : World) (h1 : -9223372036854775808 ≤ wd) (h2 : wd ≤ 9223372036854775807) (hs : s.size ≤ 1099511627776) :
    Calls Tryd.prog 13 #[.string s, .int .i64 c, .int .i64 wd] w fun e w' => e = .returned (.tuple #[.string (bB (Sd.cutT (frm c) wd [] (Sd.bare s.data.toList))), .int .i64 (Sd.cutT (frm c) wd [] (Sd.bare s.data.toList)).length]) ∧ Below w.heap.size w w' := by
  have HBR := hid (Cx.refBare_any s w (by unfold maxLen; omega))
  have hbl := bare_size s
  have hbd := bare_data s
  obtain ⟨L, hL⟩ : ∃ L, L = Sd.bare s.data.toList := ⟨_, rfl⟩
  rw [← hL] at hbl hbd ⊢
  generalize Cx.bareB s = S at HBR hbd
  have hSz : S.size = L.length := by rw [← dsize, hbd]
  obtain ⟨N, hN⟩ : ∃ N, N = L.length := ⟨_, rfl⟩
  rw [← hN] at hSz hbl
  have hfe := frm_eq c
  have hf8 : frm c < 8 := by unfold frm; omega
  generalize frm c = fr at hfe hf8 ⊢
  obtain ⟨M, hM⟩ : ∃ M, M = max c 0 := ⟨_, rfl⟩
  have hmx : ∀ X : World, (Builtin.max_ #[3, 3] 3 #[.int .i64 c, .int .i64 0]).run Tryd.prog X = .ok (.int .i64 M) X := fun X => by rw [hM]; exact run_maxS _ _ _ _
  rw [← hM] at hfe
  obtain ⟨R, hR⟩ : ∃ R, R = Sd.cutT fr wd [] L := ⟨_, rfl⟩
  have HR := hid hR.symm
  rw [← hR]
  have HSD := hid hbd
  have HNL := hid hN
  have HFE := hid hfe
  clear hM hR hbd hL hN hfe
  go_enter Tryd.func13, Tryd.ntmps13
  go_wp2_with fail
  refine HBR.out.mono ?_
  rintro e w1 ⟨rfl, rfl⟩
  go_wp2_with fail
  go_loopw [9, 10, 11] (fun bo aa ii wr => ∃ (k : Nat) (acc : Sd.Bs), ii = .int .i64 k ∧ aa = .int .i64 (acc.length : Nat) ∧ k ≤ N ∧ Hid (OwY wr w1.heap.size bo acc) ∧ Hid (Below w1.heap.size w1 wr) ∧ Hid (Sd.cutT fr wd acc (L.drop k) = R) ∧ Hid ((acc.length : Int) ≤ max wd 0) ∧ Hid (acc.length ≤ 8 * k)) (fun _ _ ii _ => N - (intOf ii).toNat)
  case atStart => exact ⟨0, [], rfl, rfl, Nat.zero_le _, hid (World.ownsRow_nil _ _ _ _), hid (Below.refl _ _), hid (by rw [List.drop_zero]; exact HR.out), hid (by show (0 : Int) ≤ _; omega), hid (Nat.le_refl _)⟩
  case round =>
    obtain ⟨k, acc, rfl, rfl, hk, HO, HB, HC, HW, H8⟩ := hrel
    obtain ⟨wo, hwo⟩ : ∃ wo, wo = wr := ⟨_, rfl⟩
    subst hwo
    by_cases hlt : k < N
    · obtain ⟨x, hx⟩ : ∃ x, L[k]? = some x := ⟨_, List.getElem?_eq_getElem (by have := HNL.out; omega)⟩
      have i1 : (0 : Int) ≤ (k : Int) := by omega
      have i2 : (k : Int) < (N : Int) := by omega
      have hkS : k < S.size := by omega
      have hxs : S[k] = x := by
        have h9 : S.data.toList[k]? = some x := by rw [HSD.out]; exact hx
        have h8 : S.data.toList[k]? = some S[k] := by rw [List.getElem?_eq_getElem (by rw [dsize]; exact hkS)]; rfl
        rw [h8] at h9
        exact Option.some.inj h9
      have hdr : L.drop k = x :: L.drop (k + 1) := by
        obtain ⟨h5, h6⟩ := List.getElem?_eq_some_iff.1 hx
        rw [List.drop_eq_getElem_cons h5, h6]
      rw [hdr] at HC
      obtain ⟨A, hA⟩ : ∃ A, A = acc.length := ⟨_, rfl⟩
      have hw := HW.out
      have h8 := H8.out
      rw [← hA] at hw h8 ⊢
      have HA := hid hA
      have HAL : Hid (acc.length ≤ 100000000000000) := hid (by omega)
      clear hA
      have j1 : IntKind.i64.wrap (wd - (A : Int)) = wd - (A : Int) := wrapB (by omega) (by omega)
      clear hx hdr
      by_cases h9 : x = 9
      · have t1 : ((x.toNat : Int) == 9) = true := by rw [h9]; rfl
        have t2 : ((x.toNat : Int) != 9) = false := by rw [h9]; rfl
        obtain ⟨E, hE⟩ : ∃ E, E = (fr + A) % 8 := ⟨_, rfl⟩
        obtain ⟨Q, hQ⟩ : ∃ Q, Q = 8 - E := ⟨_, rfl⟩
        have hE8 : E < 8 := by omega
        have hfe := HFE.out
        have q0 : IntKind.i64.wrap (fr : Int) = (fr : Int) := wrapB (by omega) (by omega)
        have q1 : IntKind.i64.wrap ((fr : Int) + (A : Int)) = (fr : Int) + (A : Int) := wrapB (by omega) (by omega)
        have q2 : ((fr : Int) + (A : Int)).tmod 8 = (E : Int) := by rw [Int.tmod_eq_emod_of_nonneg (by omega)]; omega
        have q4 : IntKind.i64.wrap (E : Int) = (E : Int) := wrapB (by omega) (by omega)
        have q3 : IntKind.i64.wrap (8 - (E : Int)) = (Q : Int) := by rw [wrapB (by omega) (by omega)]; omega
        have hQ8 : 1 ≤ Q ∧ Q ≤ 8 := by omega
        have q5 : IntKind.i64.wrap ((A : Int) + (Q : Int)) = ((A + Q : Nat) : Int) := by rw [wrapB (by omega) (by omega)]; omega
        have HTD : Hid (Sd.told fr acc.length x = Sd.blk Q) := hid (by
          unfold Sd.told
          rw [if_pos h9, ← HA.out, hQ, hE])
        clear hE hQ
        by_cases hcut : wd - (A : Int) < (Q : Int)
        · have HRA : Hid (acc = R) := hid ((Sd.cut_stop (by rw [HTD.out, Sd.blk_len, ← HA.out]; exact hcut)).symm.trans HC.out)
          rw [HRA.out] at HA
          have hAR : (A : Int) = ((R.length : Nat) : Int) := by rw [HA.out]
          rw [hAR] at j1 q1 q2 q5 hcut ⊢
          clear hAR
          rw [HRA.out] at HO
          have hcv := conv_ownY HO.out
          go_wp2_with fail
          go_ret2
          exact ⟨rfl, HB.out⟩
        · have hw1 : ¬ (wd < 1) := by omega
          have hnc : ¬ (wd - (acc.length : Int) < ((Sd.told fr acc.length x).length : Int)) := by rw [HTD.out, Sd.blk_len, ← HA.out]; exact hcut
          have HC5 : Hid (Sd.cutT fr wd (acc ++ Sd.blk Q) (L.drop (k + 1)) = R) := hid (by rw [← HC.out, Sd.cut_on hnc, HTD.out])
          have HW5 : Hid (((acc ++ Sd.blk Q).length : Int) ≤ max wd 0) := hid (by rw [List.length_append, Sd.blk_len, ← HA.out]; omega)
          have H85 : Hid ((acc ++ Sd.blk Q).length ≤ 8 * (k + 1)) := hid (by rw [List.length_append, Sd.blk_len, ← HA.out]; omega)
          have HL5 : Hid (A + Q = (acc ++ Sd.blk Q).length) := hid (by rw [List.length_append, Sd.blk_len, ← HA.out])
          clear hnc hw h8 hE8
          go_wp2_with fail
          go_loopw [9, 13] (fun bo jj wr => ∃ (m : Nat), jj = .int .i64 m ∧ m ≤ Q ∧ Hid (OwY wr w1.heap.size bo (acc ++ Sd.blk m)) ∧ Hid (Below w1.heap.size w1 wr)) (fun _ jj _ => Q - (intOf jj).toNat)
          case atStart => exact ⟨0, rfl, Nat.zero_le _, hid (by rw [show Sd.blk 0 = [] from rfl, List.append_nil]; exact HO.out), HB⟩
          case round =>
            obtain ⟨m, rfl, hm, HOm, HBm⟩ := hrel
            by_cases hmt : m < Q
            · have m1 : (m : Int) < (Q : Int) := by omega
              have HAM : Hid ((acc ++ Sd.blk m).length + 1 ≤ 140737488355328) := hid (by have := HAL.out; rw [List.length_append, Sd.blk_len]; omega)
              have HBA := hid (HBm.out.alloc HBm.out.size (.cells #[.int .u8 32] 5))
              go_wp2_with (at_builtin; refine wpList_append_byteY rfl _ _ rfl w1.heap.size _ (acc ++ Sd.blk m) rfl HOm.out 32 rfl HAM.out HBm.out.size ?_; intro v7 w7 ho7 hb7; have HO7 := hid ho7; have HB7 := hid (HBA.out.trans hb7); clear ho7 hb7)
              go_roundw
              case rel => exact ⟨m + 1, by go_num, by omega, hid (by rw [← Sd.blk_more, ← List.append_assoc]; exact HO7.out), HB7⟩
              case measure => simp [intOf]; omega
            · obtain rfl : m = Q := by omega
              have m1 : ¬ ((m : Int) < (m : Int)) := by omega
              go_wp2_with fail
              go_roundw
              case rel => exact ⟨k + 1, acc ++ Sd.blk m, by go_num, by rw [← HL5.out, Int.natCast_add], by omega, HOm, HBm, HC5, HW5, H85⟩
              case measure => simp [intOf]; omega
      · have t1 : ((x.toNat : Int) == 9) = false := by
          rw [beq_eq_false_iff_ne]
          intro e
          apply h9
          apply UInt8.toNat_inj.1
          show x.toNat = 9
          omega
        have t2 : ((x.toNat : Int) != 9) = true := by rw [bne, t1]; rfl
        have HTD : Hid (Sd.told fr acc.length x = [x]) := hid (by
          unfold Sd.told
          rw [if_neg h9])
        have q5 : IntKind.i64.wrap ((A : Int) + 1) = ((A + 1 : Nat) : Int) := by rw [wrapB (by omega) (by omega)]; omega
        by_cases hcut : wd - (A : Int) < 1
        · have HRA : Hid (acc = R) := hid ((Sd.cut_stop (by rw [HTD.out, ← HA.out]; exact hcut)).symm.trans HC.out)
          rw [HRA.out] at HA
          have hAR : (A : Int) = ((R.length : Nat) : Int) := by rw [HA.out]
          rw [hAR] at j1 q5 hcut ⊢
          clear hAR
          rw [HRA.out] at HO
          have hcv := conv_ownY HO.out
          go_wp2_with fail
          go_ret2
          exact ⟨rfl, HB.out⟩
        · have hw1 : ¬ (wd < 1) := by omega
          have hnc : ¬ (wd - (acc.length : Int) < ((Sd.told fr acc.length x).length : Int)) := by rw [HTD.out, ← HA.out]; exact hcut
          have HC5 : Hid (Sd.cutT fr wd (acc ++ [x]) (L.drop (k + 1)) = R) := hid (by rw [← HC.out, Sd.cut_on hnc, HTD.out])
          have HW5 : Hid (((acc ++ [x]).length : Int) ≤ max wd 0) := hid (by rw [List.length_append, List.length_singleton, ← HA.out]; omega)
          have H85 : Hid ((acc ++ [x]).length ≤ 8 * (k + 1)) := hid (by rw [List.length_append, List.length_singleton, ← HA.out]; omega)
          have HL5 : Hid (A + 1 = (acc ++ [x]).length) := hid (by rw [List.length_append, List.length_singleton, ← HA.out])
          have HAM : Hid (acc.length + 1 ≤ 140737488355328) := hid (by have := HAL.out; omega)
          have HBA := hid (HB.out.alloc HB.out.size (.cells #[.int .u8 x.toNat] 5))
          clear hnc hw h8
          go_wp2_with (at_builtin; refine wpList_append_byteY rfl _ _ rfl w1.heap.size _ acc rfl HO.out x rfl HAM.out HB.out.size ?_; intro v7 w7 ho7 hb7; have HO7 := hid ho7; have HB7 := hid (HBA.out.trans hb7); clear ho7 hb7)
          go_loopw [9, 13] (fun bo jj wr => bo = v7 ∧ jj = .int .i64 0 ∧ wr = w7) (fun _ _ _ => 0)
          case atStart => exact ⟨rfl, rfl, rfl⟩
          case round =>
            obtain ⟨rfl, rfl, rfl⟩ := hrel
            go_wp2_with fail
            go_roundw
            case rel => exact ⟨k + 1, acc ++ [x], by go_num, by rw [← HL5.out, Int.natCast_add]; rfl, by omega, HO7, HB7, HC5, HW5, H85⟩
            case measure => simp [intOf]; omega
    · obtain rfl : k = N := by omega
      have i2 : ¬ ((k : Int) < (k : Int)) := by omega
      have HRA : Hid (acc = R) := hid (by
        have h := HC.out
        rw [List.drop_of_length_le (by have := HNL.out; omega)] at h
        exact h)
      rw [HRA.out]
      rw [HRA.out] at HO
      have hcv := conv_ownY HO.out
      go_wp2_with fail
      go_ret2
      exact ⟨rfl, HB.out⟩
end Sy
end Go.Proofs.YtjgjfnmljmmplaaDoor
