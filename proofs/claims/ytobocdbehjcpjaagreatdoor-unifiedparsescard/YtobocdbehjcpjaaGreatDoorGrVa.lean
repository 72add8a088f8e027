/-
  Several texts in one: XSplitRef, Va, Vb, Vc.
-/
import Derived.Test.YtobocdbehjcpjaaGreatDoorGrX
import Derived.Test.YtobocdbehjcpjaaGreatDoorGrU6
import Derived.Laws.OwnMore
/-
  The walk of the document's Split, and of its Count: for every text whose lines' headers fit into memory.
-/
namespace Go.Proofs.YtobocdbehjcpjaaGreatDoor.Cx
open Go.RowKit

theorem ref_hit (l : List UInt8) (fr k : Nat) (hk : l[k]? = some 10) (hfr : fr ≤ k) (hno : (10 : UInt8) ∉ (l.take k).drop fr) :
    Pl.cut (l.drop fr) = [(l.drop fr).take (k + 1 - fr)] ++ Pl.cut (l.drop (k + 1)) := by
  have hlt : k < l.length := by
    rcases Nat.lt_or_ge k l.length with h | h
    · exact h
    · rw [List.getElem?_eq_none h] at hk; cases hk
  have e1 : l.drop k = 10 :: l.drop (k + 1) := by
    rw [List.drop_eq_getElem_cons hlt]
    rw [List.getElem?_eq_getElem hlt] at hk
    rw [Option.some.inj hk]
  have e2 : l.drop fr = (l.take k).drop fr ++ 10 :: l.drop (k + 1) := by
    rw [← e1]
    have : l = l.take k ++ l.drop k := (List.take_append_drop k l).symm
    conv => lhs; rw [this]
    rw [List.drop_append_of_le_length (by rw [List.length_take]; omega)]
  have el : ((l.take k).drop fr).length = k - fr := by rw [List.length_drop, List.length_take]; omega
  have e3 : (l.drop fr).take (k + 1 - fr) = (l.take k).drop fr ++ [10] := by
    rw [e2]
    have : k + 1 - fr = ((l.take k).drop fr ++ [10]).length := by rw [List.length_append, el]; simp; omega
    rw [this, show (l.take k).drop fr ++ 10 :: l.drop (k + 1) = ((l.take k).drop fr ++ [10]) ++ l.drop (k + 1) by simp, List.take_left]
  rw [e3, e2, Pl.cut_first _ _ hno]
  rfl
theorem ref_miss (l : List UInt8) (fr k : Nat) (c : UInt8) (hk : l[k]? = some c) (hc : c ≠ 10) (hfr : fr ≤ k) (hno : (10 : UInt8) ∉ (l.take k).drop fr) : (10 : UInt8) ∉ (l.take (k + 1)).drop fr := by
  have hlt : k < l.length := by
    rcases Nat.lt_or_ge k l.length with h | h
    · exact h
    · rw [List.getElem?_eq_none h] at hk; cases hk
  rw [List.take_add_one, hk, List.drop_append_of_le_length (by rw [List.length_take]; omega)]
  intro h
  rcases List.mem_append.1 h with h | h
  · exact hno h
  · simp at h; exact hc h.symm

theorem own_geS {w : World} {base n : Nat} {e : TypeId} {size : Nat} {v : Value} {xs : List Value} (h : w.ownsRow base e size v n xs) : ∀ k, v.ownBlock = some k → base ≤ k := by
  intro k hk
  rcases h.2 with ⟨hv, _⟩ | ⟨g, cap, cur, hv, hg, _⟩
  · subst hv; cases hk
  · subst hv; cases hk; exact hg
theorem SV_snoc (done : List (List UInt8)) (a : ByteArray) : SV (done ++ [a.data.toList]) = SV done ++ [.string a] := by rw [SV_append, SV_one]

set_option maxHeartbeats 2000000 in
theorem refSplit_any (s : ByteArray) (w : World) (hs : s.size < 4611686018427387904) (hn : Pl.num s.data.toList * 16 ≤ 140737488355328) :
    Calls Tryz.prog 64 #[.string s] w fun e w' => ∃ v, e = .returned v ∧
      w'.ownsRow w.heap.size 9 1 v (Pl.cut s.data.toList).length (SV (Pl.cut s.data.toList)) ∧ Below w.heap.size w w' := by
  obtain ⟨i0, hi, hz0, hz1, hz2⟩ := info_parts Tryz.info9
  rw [Pl.num_eq] at hn
  have HN := hid hn
  clear hn
  go_enter Tryz.func64, Tryz.ntmps64
  go_wp2
  go_loopw [3, 4, 5] (fun v f i wr => ∃ (k fr : Nat) (done : List (List UInt8)), k ≤ s.size ∧ fr ≤ k ∧ i = .int .i64 k ∧ f = .int .i64 fr ∧
      wr.ownsRow w.heap.size 9 1 v done.length (SV done) ∧ Pl.cut s.data.toList = done ++ Pl.cut (s.data.toList.drop fr) ∧ (10 : UInt8) ∉ (s.data.toList.take k).drop fr ∧ Below w.heap.size w wr) (fun _ _ i _ => s.size - (intOf i).toNat)
  case atStart => exact ⟨0, 0, [], Nat.zero_le _, Nat.le_refl _, rfl, rfl, World.ownsRow_nil _ _ _ _, rfl, by simp, Below.refl _ _⟩
  case round =>
    obtain ⟨k, fr, done, hk, hfr, rfl, rfl, hown, hcut, hno, hb⟩ := hrel
    have HC := hid hcut
    have HO := hid hno
    clear hcut hno
    by_cases hlt : k < s.size
    · have hat := hid (byte_at s k hlt)
      cases he : ((s[k].toNat : Int) == 10) with
      | true =>
        have e2 := (ten_iff _).1 (beq_iff_eq.1 he)
        have hp := hid (ref_hit s.data.toList fr k (by rw [hat.out, e2]) hfr HO.out)
        have hfit : (done.length + 1) * 16 ≤ 140737488355328 := by
          have := HN.out
          rw [HC.out, hp.out, List.length_append, List.length_append, List.length_singleton] at this
          omega
        clear e2
        go_wp2_with (at_builtin; refine wpList_append_own _ rfl _ _ 49 rfl w.heap.size 9 i0 (.string ⟨#[]⟩) 1 16 Tryz.underlying49 hi hz0 hz1 hz2 rfl (by decide) _ _ _ rfl (hown.alloc _) ⟨wr.heap.size, 0, none⟩ 1 1 [.string (s.extract fr (k + 1))] rfl rfl ?c1 ?c2 ?c3 hfit ?c5 ?_)
        case c1 =>
          intro j u hj
          match j, hj with
          | 0, hj => simp at hj; subst hj; simp [Addr.add]
        case c2 => intro u hu; simp at hu; subst hu; rfl
        case c3 => unfold maxLen; omega
        case c5 => have := hb.size; simp; omega
        intro v' w3 hown3 hgrow3 _
        have hb3 : Below w.heap.size w w3 := (hb.alloc (hb.size) _).grown hgrow3 (by have := hb.size; simp; omega) (own_geS hown)
        have hown4 : w3.ownsRow w.heap.size 9 1 v' (done ++ [(s.extract fr (k + 1)).data.toList]).length (SV (done ++ [(s.extract fr (k + 1)).data.toList])) := by
          rw [SV_snoc, List.length_append]; exact hown3
        have hcut' : Pl.cut s.data.toList = (done ++ [(s.extract fr (k + 1)).data.toList]) ++ Pl.cut (s.data.toList.drop (k + 1)) := by
          rw [HC.out, hp.out, Lib.extract_data, List.append_assoc]
        have HC2 := hid hcut'
        clear hown3 hgrow3 hown hb hcut'
        go_wp2
        go_roundw
        case rel => exact ⟨k + 1, k + 1, _, by omega, Nat.le_refl _, by go_num, by go_num, hown4, HC2.out, by rw [List.drop_eq_nil_of_le (by rw [List.length_take]; omega)]; simp, hb3⟩
        case measure => simp [intOf]; omega
      | false =>
        have e2 : s[k] ≠ 10 := fun x => (beq_eq_false_iff_ne.1 he) ((ten_iff _).2 x)
        have hm := hid (ref_miss s.data.toList fr k _ hat.out e2 hfr HO.out)
        clear e2
        go_wp2
        go_roundw
        case rel => exact ⟨k + 1, fr, done, by omega, by omega, by go_num, rfl, hown, HC.out, hm.out, hb⟩
        case measure => simp [intOf]; omega
    · have hks : k = s.size := by omega
      subst hks
      have hall : (10 : UInt8) ∉ s.data.toList.drop fr := by
        have := HO.out
        rw [← size_data, List.take_length] at this
        exact this
      by_cases hf : fr < s.size
      · have hlast : Pl.cut (s.data.toList.drop fr) = [(s.extract fr s.size).data.toList] := by
          have e : (s.extract fr s.size).data.toList = s.data.toList.drop fr := by
            rw [Lib.extract_data, List.take_of_length_le (by rw [List.length_drop, size_data]; omega)]
          rw [e]
          refine Pl.cut_last _ hall ?_
          intro e0
          have := congrArg List.length e0
          rw [List.length_drop, size_data, List.length_nil] at this
          omega
        have hfit : (done.length + 1) * 16 ≤ 140737488355328 := by
          have := HN.out
          rw [HC.out, hlast, List.length_append, List.length_singleton] at this
          exact this
        have hcut' : Pl.cut s.data.toList = done ++ [(s.extract fr s.size).data.toList] := by rw [HC.out, hlast]
        have HC2 := hid hcut'
        clear hall hlast hcut'
        go_wp2_with (at_builtin; refine wpList_append_own _ rfl _ _ 49 rfl w.heap.size 9 i0 (.string ⟨#[]⟩) 1 16 Tryz.underlying49 hi hz0 hz1 hz2 rfl (by decide) _ _ _ rfl (hown.alloc _) ⟨wr.heap.size, 0, none⟩ 1 1 [.string (s.extract fr s.size)] rfl rfl ?d1 ?d2 ?d3 hfit ?d5 ?_)
        case d1 =>
          intro j u hj
          match j, hj with
          | 0, hj => simp at hj; subst hj; simp [Addr.add]
        case d2 => intro u hu; simp at hu; subst hu; rfl
        case d3 => unfold maxLen; omega
        case d5 => have := hb.size; simp; omega
        intro v' w3 hown3 hgrow3 _
        have hb3 : Below w.heap.size w w3 := (hb.alloc (hb.size) _).grown hgrow3 (by have := hb.size; simp; omega) (own_geS hown)
        have hown4 : w3.ownsRow w.heap.size 9 1 v' (Pl.cut s.data.toList).length (SV (Pl.cut s.data.toList)) := by
          rw [HC2.out, SV_snoc, List.length_append]; exact hown3
        clear hown3 hgrow3 hown hb
        go_wp2
        go_ret
        exact ⟨v', rfl, hown4, hb3⟩
      · have hnil : s.data.toList.drop fr = [] := List.drop_eq_nil_of_le (by rw [size_data]; omega)
        have hcut' : Pl.cut s.data.toList = done := by rw [HC.out, hnil, Pl.cut_nil, List.append_nil]
        have HC2 := hid hcut'
        clear hall hnil hcut'
        go_wp2
        go_ret
        exact ⟨_, rfl, by rw [HC2.out]; exact hown, hb⟩
end Go.Proofs.YtobocdbehjcpjaaGreatDoor.Cx
/-
  The document's Place, InOrder and Lines (layer 11).
-/
namespace Go.Proofs.YtobocdbehjcpjaaGreatDoor
open Go.RowKit
open Hu (Rw Hk)

set_option maxHeartbeats 1000000 in
set_option maxRecDepth 100000 in
theorem rPlace11_any (a n : Int) (w : World) (ha : -9223372036854775808 < a) (ha2 : a ≤ 9223372036854775807) (hn : 0 ≤ n) : Calls Tryz.prog 68 #[.int .i64 a, .int .i64 n] w fun e w' => e = .returned (.int .i64 (Hu.plc a n)) ∧ w' = w := by
  by_cases h : n = 0
  · have HE : Hid (Hu.plc a n = a) := hid (if_neg (by omega))
    rw [HE.out]
    subst h
    go_enter Tryz.func68, Tryz.ntmps68
    go_wp2_with fail
    go_ret
    exact ⟨rfl, rfl⟩
  · have HE : Hid (Hu.plc a n = a - 1) := hid (if_pos (by omega))
    have h0 : (n == 0) = false := beq_eq_false_iff_ne.2 h
    have i1 : IntKind.i64.wrap (a - 1) = a - 1 := wrapOk (by omega) (by omega)
    rw [HE.out]
    clear h
    go_enter Tryz.func68, Tryz.ntmps68
    go_wp2_with fail
    go_ret
    exact ⟨rfl, rfl⟩
set_option maxHeartbeats 4000000 in
set_option maxRecDepth 100000 in
theorem rInOrder_any {w : World} {g h : Hk} {ua qa : Option Addr} {un uc qn qc : Nat} (hh : SmH h) (hg : SmH g) :
    Calls Tryz.prog 36 #[HkV g (.slice qa qn qc), HkV h (.slice ua un uc)] w fun e w' => e = .returned (.bool (Un.inO g h)) ∧ Below w.heap.size w w' := by
  obtain ⟨xa, xn, xb, xm, xh, xr⟩ := h
  obtain ⟨ga, gn, gb, gm, gh, gr⟩ := g
  unfold HkV Un.inO
  obtain ⟨s1, s2, s3, s4, s5, s6, s7, s8⟩ := hh
  obtain ⟨t1, t2, t3, t4, t5, t6, t7, t8⟩ := hg
  dsimp only at *
  have p1 := plc_le (n := xn) s1 s2
  have p2 := plc_le (n := gn) t1 t2
  have p3 := plc_le (n := xm) s5 s6
  have p4 := plc_le (n := gm) t5 t6
  have HF1 := hid (fun w1 => rPlace11_any xa xn w1 (by omega) (by omega) s3)
  have HF2 := hid (fun w1 => rPlace11_any ga gn w1 (by omega) (by omega) t3)
  have HF3 := hid (fun w1 => rPlace11_any xb xm w1 (by omega) (by omega) s7)
  have HF4 := hid (fun w1 => rPlace11_any gb gm w1 (by omega) (by omega) t7)
  generalize Hu.plc xa xn = P1 at HF1 p1 ⊢
  generalize Hu.plc ga gn = P2 at HF2 p2 ⊢
  generalize Hu.plc xb xm = P3 at HF3 p3 ⊢
  generalize Hu.plc gb gm = P4 at HF4 p4 ⊢
  have i1 : IntKind.i64.wrap (P2 + gn) = P2 + gn := wrapOk (by omega) (by omega)
  have i2 : IntKind.i64.wrap (P4 + gm) = P4 + gm := wrapOk (by omega) (by omega)
  have HW2 := hid (twoF w (.cells #[.int .i64 ga, .int .i64 gn, .int .i64 gb, .int .i64 gm, .string gh, .slice qa qn qc] 37) (.cells #[.int .i64 xa, .int .i64 xn, .int .i64 xb, .int .i64 xm, .string xh, .slice ua un uc] 37))
  clear p1 p2 p3 p4 s1 s2 s3 s4 s5 s6 s7 s8 t1 t2 t3 t4 t5 t6 t7 t8
  go_enter Tryz.func36, Tryz.ntmps36
  go_wp2_with fail
  obtain ⟨hb2, hk1, hk2⟩ := HW2.out
  have HB2 := hid hb2
  generalize (w.alloc (.cells #[.int .i64 ga, .int .i64 gn, .int .i64 gb, .int .i64 gm, .string gh, .slice qa qn qc] 37)).alloc (.cells #[.int .i64 xa, .int .i64 xn, .int .i64 xb, .int .i64 xm, .string xh, .slice ua un uc] 37) = w2 at hk1 hk2 HB2 ⊢
  obtain ⟨H, hH⟩ : ∃ H, H = w.heap.size := ⟨_, rfl⟩
  rw [← hH] at hk1 hk2 ⊢
  have x0 : w2.cell? ⟨H + 1, 0, none⟩ = some (.int .i64 xa) := cell_of_blk hk2 0
  have x1 : w2.cell? ⟨H + 1, 1, none⟩ = some (.int .i64 xn) := cell_of_blk hk2 1
  have x2 : w2.cell? ⟨H + 1, 2, none⟩ = some (.int .i64 xb) := cell_of_blk hk2 2
  have x3 : w2.cell? ⟨H + 1, 3, none⟩ = some (.int .i64 xm) := cell_of_blk hk2 3
  have g0 : w2.cell? ⟨H, 0, none⟩ = some (.int .i64 ga) := cell_of_blk hk1 0
  have g1 : w2.cell? ⟨H, 1, none⟩ = some (.int .i64 gn) := cell_of_blk hk1 1
  have g2 : w2.cell? ⟨H, 2, none⟩ = some (.int .i64 gb) := cell_of_blk hk1 2
  have g3 : w2.cell? ⟨H, 3, none⟩ = some (.int .i64 gm) := cell_of_blk hk1 3
  clear hb2 hk1 hk2 HW2 hH
  by_cases hq : P2 + gn ≤ P1
  · have HQ := hid (decide_eq_true hq)
    go_quiet ((go_at_call 68; first | with_reducible exact Calls.quiet_of_same (HF1.out _) | with_reducible exact Calls.quiet_of_same (HF2.out _) | with_reducible exact Calls.quiet_of_same (HF3.out _) | with_reducible exact Calls.quiet_of_same (HF4.out _)))
    have HB3 := hid (below_drewN HB2.out nq)
    go_wp2_with fail
    go_ret
    exact ⟨by rw [HQ.out, Bool.true_and]; rfl, HB3.out⟩
  · have HQ := hid (decide_eq_false hq)
    go_quiet ((go_at_call 68; first | with_reducible exact Calls.quiet_of_same (HF1.out _) | with_reducible exact Calls.quiet_of_same (HF2.out _) | with_reducible exact Calls.quiet_of_same (HF3.out _) | with_reducible exact Calls.quiet_of_same (HF4.out _)))
    have HB3 := hid (below_drewN HB2.out nq)
    go_wp2_with fail
    go_ret
    exact ⟨by rw [HQ.out, Bool.false_and]; rfl, HB3.out⟩
theorem app10 (s : ByteArray) : s ++ ⟨#[10]⟩ = bB (s.data.toList ++ [10]) := by
  rw [← bB_app, bB_eta]; rfl
theorem num_le (l : Un.Bs) : Pl.num l ≤ l.length + 1 := by
  exact Nat.le_succ_of_le (Pl.num_le l)
set_option maxHeartbeats 1000000 in
set_option maxRecDepth 100000 in
theorem rLines_any (s : ByteArray) (w : World) (hs : s.size ≤ 4194304) :
    Calls Tryz.prog 31 #[.string s] w fun e w' => ∃ v, e = .returned v ∧
      w'.ownsRow w.heap.size 9 1 v (Un.lns s.data.toList).length (Cx.SV (Un.lns s.data.toList)) ∧ Below w.heap.size w w' := by
  have HW := hid (fun w1 => Cx.refWhole_any s w1 (by unfold maxLen; omega))
  unfold Un.lns Un.fin
  by_cases h0 : s.size = 0
  · have HE : Hid (s.data.toList = []) := hid (List.length_eq_zero_iff.1 (by rw [dsize]; exact h0))
    have ye := emptyB h0
    have HS := hid (Cx.refSplit_any s w (by omega) (by have := num_le s.data.toList; rw [dsize] at this; omega))
    rw [if_pos (.inl HE.out)]
    clear h0 hs HE
    go_enter Tryz.func31, Tryz.ntmps31
    go_wp2_with fail
    refine HS.out.mono ?_
    rintro e w2 ⟨v, rfl, h1, h2⟩
    go_wp2_with fail
    go_ret
    exact ⟨_, rfl, h1, h2⟩
  · have ye := fullB (y := s) (by omega)
    have HE : Hid (s.data.toList ≠ []) := hid (fun e => h0 (by rw [← dsize, e]; rfl))
    cases hw : Pl.wh s.data.toList with
    | true =>
      have HS := hid (Cx.refSplit_any s w (by omega) (by have := num_le s.data.toList; rw [dsize] at this; omega))
      rw [if_pos (.inr rfl)]
      rw [hw] at HW
      clear h0 hs HE hw
      go_enter Tryz.func31, Tryz.ntmps31
      go_wp2_with fail
      refine (HW.out w).mono ?_
      rintro e w1 ⟨rfl, rfl⟩
      go_wp2_with fail
      refine HS.out.mono ?_
      rintro e w2 ⟨v, rfl, h1, h2⟩
      go_wp2_with fail
      go_ret
      exact ⟨_, rfl, h1, h2⟩
    | false =>
      have hz : (bB (s.data.toList ++ [10])).size = s.size + 1 := by rw [bB_size, List.length_append, dsize]; rfl
      have HS := hid (Cx.refSplit_any (bB (s.data.toList ++ [10])) w (by omega) (by have := num_le (bB (s.data.toList ++ [10])).data.toList; rw [dsize] at this; omega))
      rw [bB_data] at HS
      rw [if_neg (fun h => h.elim HE.out (fun h => by cases h))]
      rw [hw] at HW
      have HA := hid (app10 s)
      clear h0 HE hw hz
      go_enter Tryz.func31, Tryz.ntmps31
      go_wp2_with fail
      refine (HW.out w).mono ?_
      rintro e w1 ⟨rfl, rfl⟩
      go_wp2_with fail
      rw [HA.out]
      refine HS.out.mono ?_
      rintro e w2 ⟨v, rfl, h1, h2⟩
      go_wp2_with fail
      go_ret
      exact ⟨_, rfl, h1, h2⟩
end Go.Proofs.YtobocdbehjcpjaaGreatDoor
/-
  The document's rows (layer 11). (Made by wip/genvb.py out of wip/vb.head.)
-/
namespace Go.Proofs.YtobocdbehjcpjaaGreatDoor
open Go.RowKit
open Hu (Rw Hk)

theorem dropAt {l : List Un.Bs} {k : Nat} {x : Un.Bs} (h : l[k]? = some x) : l.drop k = x :: l.drop (k + 1) := by
  have hk : k < l.length := by
    rcases Nat.lt_or_ge k l.length with h' | h'
    · exact h'
    · rw [List.getElem?_eq_none h'] at h; cases h
  rw [List.drop_eq_getElem_cons hk]
  rw [List.getElem?_eq_getElem hk] at h
  rw [Option.some.inj h]
theorem head_B (y : ByteArray) (h : 0 < y.size) : y.data.toList.head? = some y[0] := by
  have e := Cx.drop_head y 0 h
  rw [List.drop_zero] at e
  rw [e]; rfl
theorem rowsD_end {x : Un.Bs} {ls : List Un.Bs} {n m c : Nat} {acc : List (Int × Un.Bs)} (h : Un.isEnd x = true) : Un.rowsD (x :: ls) n m false acc c = .bad c := by
  rw [Un.rowsD, if_pos h]; rfl
theorem rowsD_take {x : Un.Bs} {ls : List Un.Bs} {n m c : Nat} {acc : List (Int × Un.Bs)} (h : Un.isEnd x = true) : Un.rowsD (x :: ls) n m true acc c = Un.rowsD ls n m false (Un.bareLast acc) (c + 1) := by
  rw [Un.rowsD, if_pos h]; rfl
theorem rowsD_full {x : Un.Bs} {ls : List Un.Bs} {c : Nat} {mk : Bool} {acc : List (Int × Un.Bs)} (h : Un.isEnd x = false) : Un.rowsD (x :: ls) 0 0 mk acc c = .ok acc (x :: ls) c := by
  rw [Un.rowsD, if_neg (by rw [h]; exact Bool.false_ne_true), if_pos ⟨rfl, rfl⟩]
theorem rowsD_full0 {c : Nat} {mk : Bool} {acc : List (Int × Un.Bs)} : Un.rowsD [] 0 0 mk acc c = .ok acc [] c := by
  rw [Un.rowsD, if_pos ⟨rfl, rfl⟩]
theorem rowsD_out {n m c : Nat} {mk : Bool} {acc : List (Int × Un.Bs)} (h : ¬ (n = 0 ∧ m = 0)) : Un.rowsD [] n m mk acc c = .bad c := by
  rw [Un.rowsD, if_neg h]
theorem rowsD_no {x : Un.Bs} {ls : List Un.Bs} {n m c : Nat} {mk : Bool} {acc : List (Int × Un.Bs)} (h : Un.isEnd x = false) (h0 : ¬ (n = 0 ∧ m = 0)) (hm : Un.mark x = none) : Un.rowsD (x :: ls) n m mk acc c = .bad c := by
  rw [Un.rowsD, if_neg (by rw [h]; exact Bool.false_ne_true), if_neg h0, hm]
theorem rowsD_less {x : Un.Bs} {ls : List Un.Bs} {n m c j : Nat} {k : Int} {mk : Bool} {acc : List (Int × Un.Bs)} (h : Un.isEnd x = false) (h0 : ¬ (n = 0 ∧ m = 0)) (hm : Un.mark x = some (k, j)) (hl : Un.less k n m = none) : Un.rowsD (x :: ls) n m mk acc c = .bad c := by
  rw [Un.rowsD, if_neg (by rw [h]; exact Bool.false_ne_true), if_neg h0, hm]
  simp only
  rw [hl]
theorem rowsD_step {x : Un.Bs} {ls : List Un.Bs} {n m c j n' m' : Nat} {k : Int} {mk : Bool} {acc : List (Int × Un.Bs)} (h : Un.isEnd x = false) (h0 : ¬ (n = 0 ∧ m = 0)) (hm : Un.mark x = some (k, j)) (hl : Un.less k n m = some (n', m')) : Un.rowsD (x :: ls) n m mk acc c = Un.rowsD ls n' m' true (acc ++ [(k, x.drop j)]) (c + 1) := by
  rw [Un.rowsD, if_neg (by rw [h]; exact Bool.false_ne_true), if_neg h0, hm]
  simp only
  rw [hl]
theorem is_ten {x p : Un.Bs} {c : UInt8} (h : x.head? = some c) (hc : c.toNat = 10) (hx : x = p ++ [10]) (hp : (10 : UInt8) ∉ p) : x = [10] := by
  cases p with
  | nil => exact hx
  | cons d p =>
    exfalso
    rw [hx] at h
    have : d = c := Option.some.inj h
    exact hp (by rw [this, UInt8.toNat_inj.1 (show c.toNat = (10 : UInt8).toNat from hc)]; exact List.mem_cons_self)
theorem mark_ten {x p : Un.Bs} {c : UInt8} (h : x.head? = some c) (hc : c.toNat = 10) (hx : x = p ++ [10]) (hp : (10 : UInt8) ∉ p) : Un.mark x = some (1, 0) := by
  rw [is_ten h hc hx hp]; rfl
theorem not_ten {x : Un.Bs} {c : UInt8} (h : x.head? = some c) (hc : c.toNat ≠ 10) : x ≠ [10] := fun e => by
  rw [e] at h
  exact hc (by rw [← Option.some.inj h]; rfl)
theorem mark_32 {x : Un.Bs} {c : UInt8} (h : x.head? = some c) (hc : c.toNat = 32) : Un.mark x = some (1, 1) := by
  unfold Un.mark
  rw [if_neg (not_ten h (by omega)), h]
  simp only
  rw [if_pos (UInt8.toNat_inj.1 (show c.toNat = (32 : UInt8).toNat from hc))]
theorem mark_45 {x : Un.Bs} {c : UInt8} (h : x.head? = some c) (hc : c.toNat = 45) : Un.mark x = some (2, 1) := by
  unfold Un.mark
  rw [if_neg (not_ten h (by omega)), h, UInt8.toNat_inj.1 (show c.toNat = (45 : UInt8).toNat from hc)]
  rfl
theorem mark_43 {x : Un.Bs} {c : UInt8} (h : x.head? = some c) (hc : c.toNat = 43) : Un.mark x = some (3, 1) := by
  unfold Un.mark
  rw [if_neg (not_ten h (by omega)), h, UInt8.toNat_inj.1 (show c.toNat = (43 : UInt8).toNat from hc)]
  rfl
theorem mark_other {x : Un.Bs} {c : UInt8} (h : x.head? = some c) (h1 : ¬ c.toNat = 32) (h2 : ¬ c.toNat = 10) (h3 : ¬ c.toNat = 45) (h4 : ¬ c.toNat = 43) : Un.mark x = none := by
  unfold Un.mark
  rw [if_neg (not_ten h h2), h]
  simp only
  rw [if_neg (fun e => h1 (by rw [e]; rfl)), if_neg (fun e => h3 (by rw [e]; rfl)), if_neg (fun e => h4 (by rw [e]; rfl))]
theorem less_n1 {n m : Nat} (h : n = 0) : Un.less 1 n m = none := by unfold Un.less; rw [if_pos rfl, if_neg (fun q => by omega)]
theorem less_m1 {n m : Nat} (h : m = 0) : Un.less 1 n m = none := by unfold Un.less; rw [if_pos rfl, if_neg (fun q => by omega)]
theorem less_n2 {n m : Nat} (h : n = 0) : Un.less 2 n m = none := by unfold Un.less; rw [if_neg (by decide), if_pos rfl, if_neg (by omega)]
theorem less_m3 {n m : Nat} (h : m = 0) : Un.less 3 n m = none := by unfold Un.less; rw [if_neg (by decide), if_neg (by decide), if_neg (by omega)]
theorem less_1 {n m n' m' : Nat} (h1 : 0 < n) (h2 : 0 < m) (h3 : n' = n - 1) (h4 : m' = m - 1) : Un.less 1 n m = some (n', m') := by unfold Un.less; rw [if_pos rfl, if_pos ⟨h1, h2⟩, h3, h4]
theorem less_2 {n m n' m' : Nat} (h1 : 0 < n) (_ : 0 ≤ m) (h3 : n' = n - 1) (h4 : m' = m) : Un.less 2 n m = some (n', m') := by unfold Un.less; rw [if_neg (by decide), if_pos rfl, if_pos h1, h3, h4]
theorem less_3 {n m n' m' : Nat} (_ : 0 ≤ n) (h2 : 0 < m) (h3 : n' = n) (h4 : m' = m - 1) : Un.less 3 n m = some (n', m') := by unfold Un.less; rw [if_neg (by decide), if_neg (by decide), if_pos h2, h3, h4]
theorem acc_last {acc : List (Int × Un.Bs)} (h : acc ≠ []) : ∃ A0 r, acc = A0 ++ [r] := ⟨acc.dropLast, acc.getLast h, (List.dropLast_concat_getLast h).symm⟩
theorem bareLast_snoc (A0 : List (Int × Un.Bs)) (r : Int × Un.Bs) : Un.bareLast (A0 ++ [r]) = A0 ++ [(r.1, Un.bare r.2)] := by
  unfold Un.bareLast
  simp
theorem own_addr {w : World} {B n vc : Nat} {va : Option Addr} {X : List Rw} (h : OwnW w B (.slice va n vc) X) (hp : X ≠ []) : ∃ g, va = some ⟨g, 0, none⟩ ∧ B ≤ g := by
  rcases h.2 with ⟨_, hn⟩ | ⟨g, cap, cur, hv, hg, _⟩
  · exact absurd (List.length_eq_zero_iff.1 hn) hp
  · cases hv; exact ⟨g, rfl, hg⟩
theorem rwsC_last (X0 : List Rw) (k : Int) (t u : ByteArray) : (rwsC (X0 ++ [⟨k, t⟩])).set (X0.length * 2 + 1) (.string u) = rwsC (X0 ++ [⟨k, u⟩]) := by
  rw [rwsC_append, rwsC_append, List.set_append, if_neg (by rw [rwsC_length]; omega), rwsC_length]
  congr 1
  rw [show X0.length * 2 + 1 - X0.length * 2 = 1 by omega]
  rfl
theorem own_lastRow {w : World} {B g n cap : Nat} {X0 : List Rw} {k : Int} {t u : ByteArray} (h : OwnW w B (.slice (some ⟨g, 0, none⟩) n cap) (X0 ++ [⟨k, t⟩])) (hn : n = X0.length + 1) : OwnW (w.setCell ⟨g, X0.length * 2 + 1, none⟩ (.string u)) B (.slice (some ⟨g, 0, none⟩) n cap) (X0 ++ [⟨k, u⟩]) := by
  have e1 : (X0 ++ [(⟨k, t⟩ : Rw)]).length = n := by rw [hn]; simp
  have e2 : (X0 ++ [(⟨k, u⟩ : Rw)]).length = n := by rw [hn]; simp
  unfold OwnW at h ⊢
  rw [e1] at h
  rw [e2, ← rwsC_last X0 k t u]
  exact (h.stored (X0.length * 2 + 1) (.string u)).1
theorem own_free {w : World} {B g n cap : Nat} {X : List Rw} (h : OwnW w B (.slice (some ⟨g, 0, none⟩) n cap) X) (j : Nat) : w.frozen? ⟨g, j, none⟩ = false := by
  rcases h.2 with ⟨h', _⟩ | ⟨g', cap', cur, h', _, hg, _⟩
  · cases h'
  · cases h'; exact frozR hg j
theorem own_setG {w w' : World} {B G : Nat} {v : Value} {X : List Rw} (h : OwnW w B v X) (hk : Kept (fun j => j = G) w w') (hG : G < B) : OwnW w' B v X := by
  refine ⟨h.1, ?_⟩
  rcases h.2 with h2 | ⟨g, cap, cur, hv, hg, hh, r⟩
  · exact .inl h2
  · exact .inr ⟨g, cap, cur, hv, hg, (hk.block g (lt_of_heap hh) (by omega)).trans hh, r⟩
/-- what rows answers -/
def RwAns (w w' : World) (ls : List Un.Bs) (k0 a N b M : Nat) (hd : ByteArray) (e : Ending) : Prop :=
  match Un.rowsD (ls.drop k0) N M false [] k0 with
  | .bad c => ∃ va n vc, e = .returned (.tuple #[.agg #[.int .i64 (a : Nat), .int .i64 (N : Nat), .int .i64 (b : Nat), .int .i64 (M : Nat), .string hd, .slice va n vc], .int .i64 (c : Nat), .int .i64 111])
  | .ok rows _ c => ∃ v, e = .returned (.tuple #[.agg #[.int .i64 (a : Nat), .int .i64 (N : Nat), .int .i64 (b : Nat), .int .i64 (M : Nat), .string hd, v], .int .i64 (c : Nat), .int .i64 0]) ∧ OwnW w' (w.heap.size + 2) v (rows.map Un.toR) ∧ c ≤ ls.length
theorem rwBad {w w' : World} {ls : List Un.Bs} {k0 a N b M c n vc : Nat} {hd : ByteArray} {va : Option Addr} (h : Un.rowsD (ls.drop k0) N M false [] k0 = .bad c) : RwAns w w' ls k0 a N b M hd (.returned (.tuple #[.agg #[.int .i64 (a : Nat), .int .i64 (N : Nat), .int .i64 (b : Nat), .int .i64 (M : Nat), .string hd, .slice va n vc], .int .i64 (c : Nat), .int .i64 111])) := by
  unfold RwAns
  rw [h]
  exact ⟨_, _, _, rfl⟩
theorem rwOk {w w' : World} {ls ls' : List Un.Bs} {rows : List (Int × Un.Bs)} {k0 a N b M c : Nat} {hd : ByteArray} {v : Value} (h : Un.rowsD (ls.drop k0) N M false [] k0 = .ok rows ls' c) (ho : OwnW w' (w.heap.size + 2) v (rows.map Un.toR)) (hc : c ≤ ls.length) : RwAns w w' ls k0 a N b M hd (.returned (.tuple #[.agg #[.int .i64 (a : Nat), .int .i64 (N : Nat), .int .i64 (b : Nat), .int .i64 (M : Nat), .string hd, v], .int .i64 (c : Nat), .int .i64 0])) := by
  unfold RwAns
  rw [h]
  exact ⟨_, rfl, ho, hc⟩
set_option maxHeartbeats 8000000 in
set_option maxRecDepth 100000 in
theorem rRows11_any {w : World} {lv : Value} {ls : List Un.Bs} {k0 a N b M : Nat} {hd : ByteArray} (hr : RdT w lv (ls.map bB)) (hls : ∀ x ∈ ls, (∃ p, x = p ++ [10] ∧ (10 : UInt8) ∉ p) ∧ x.length ≤ 4194305) (hL : ls.length ≤ 4194305) (hk0 : k0 ≤ ls.length) (hN : N ≤ 2147483647) (hM : M ≤ 2147483647) :
    Calls Tryz.prog 35 #[lv, .int .i64 k0, .agg #[.int .i64 (a : Nat), .int .i64 (N : Nat), .int .i64 (b : Nat), .int .i64 (M : Nat), .string hd, .slice none 0 0]] w fun e w' => Below w.heap.size w w' ∧ RwAns w w' ls k0 a N b M hd e := by
  obtain ⟨la, lc, rfl⟩ := hr.shape
  rw [List.length_map] at *
  have HRL := hid hr
  have HLS := hid hls
  obtain ⟨LL, hLL⟩ : ∃ LL, LL = ls.length := ⟨_, rfl⟩
  rw [← hLL] at hL hk0 HRL ⊢
  have HLL := hid hLL
  clear hr hls hLL
  have HW2 := hid (twoF w (.cells #[.int .i64 (a : Nat), .int .i64 (N : Nat), .int .i64 (b : Nat), .int .i64 (M : Nat), .string hd, .slice none 0 0] 37) (.cells #[.int .i64 0, .int .i64 0, .int .i64 0, .int .i64 0, .string ⟨#[]⟩, .slice none 0 0] 37))
  obtain ⟨P, hP⟩ : ∃ P, P = w.heap.size := ⟨_, rfl⟩
  obtain ⟨G, hG⟩ : ∃ G, G = P + 1 := ⟨_, rfl⟩
  have HGW : Hid (w.heap.size ≤ G) := hid (by omega)
  have HPW : Hid (w.heap.size ≤ P) := hid (by omega)
  have HGB : Hid (G < w.heap.size + 2) := hid (by omega)
  have HPB : Hid (P < w.heap.size + 2) := hid (by omega)
  have HPG : Hid (P ≠ G) := hid (by omega)
  have HG2 : Hid (w.heap.size + 2 = G + 1) := hid (by omega)
  go_enter Tryz.func35, Tryz.ntmps35
  go_wp2_with fail
  obtain ⟨hb2, hk1, hk2⟩ := HW2.out
  rw [← hP] at hk1 hk2 ⊢
  rw [← hG] at hk2 ⊢
  have HB2 := hid hb2
  have KP2 := hid hk1
  have KG2 := hid hk2
  clear hP hG hb2 hk1 hk2 HW2
  generalize (w.alloc (.cells #[.int .i64 (a : Nat), .int .i64 (N : Nat), .int .i64 (b : Nat), .int .i64 (M : Nat), .string hd, .slice none 0 0] 37)).alloc (.cells #[.int .i64 0, .int .i64 0, .int .i64 0, .int .i64 0, .string ⟨#[]⟩, .slice none 0 0] 37) = w2 at HB2 KP2 KG2 ⊢
  go_loopw [1, 9, 10, 11] (fun at_ nn mm kk wr => ∃ (k n1 m1 XL vc : Nat) (mk : Bool) (acc : List (Int × Un.Bs)) (X : List Rw) (va : Option Addr), at_ = .int .i64 k ∧ nn = .int .i64 n1 ∧ mm = .int .i64 m1 ∧ kk = .bool mk ∧ k ≤ LL ∧ n1 ≤ N ∧ m1 ≤ M ∧ XL ≤ k ∧ Hid (XL = X.length) ∧ Hid (X = acc.map Un.toR) ∧
      Hid (wr.heap[P]? = some (.cells #[.int .i64 (a : Nat), .int .i64 (N : Nat), .int .i64 (b : Nat), .int .i64 (M : Nat), .string hd, .slice va XL vc] 37)) ∧ Hid (wr.heap[G]? = some (.cells #[.int .i64 0, .int .i64 0, .int .i64 0, .int .i64 0, .string ⟨#[]⟩, .slice none 0 0] 37)) ∧
      Hid (OwnW wr (w.heap.size + 2) (.slice va XL vc) X) ∧ Hid (Below w.heap.size w wr) ∧ Hid (mk = true → acc ≠ []) ∧ Hid (∀ q ∈ acc, q.2.length ≤ 4194305) ∧ Hid (Un.rowsD (ls.drop k) (N - n1) (M - m1) mk acc k = Un.rowsD (ls.drop k0) N M false [] k0)) (fun at_ _ _ _ _ => LL - (intOf at_).toNat)
  case atStart => exact ⟨k0, 0, 0, 0, 0, false, [], [], none, rfl, rfl, rfl, rfl, hk0, Nat.zero_le _, Nat.zero_le _, Nat.zero_le _, hid rfl, hid rfl, KP2, KG2, hid (World.ownsRow_nil _ _ _ _), HB2, hid (fun h => by cases h), hid (fun q hq => by cases hq), hid rfl⟩
  case round =>
    obtain ⟨k, n1, m1, XL, vc, mk, acc, X, va, rfl, rfl, rfl, rfl, hk, hn1, hm1, hXk, HXL, HX, KP, KG, HW, HB, HMK, HSZ, HI⟩ := hrel
    by_cases hlt : k < LL
    · obtain ⟨x, hx⟩ : ∃ x, ls[k]? = some x := ⟨_, List.getElem?_eq_getElem (by have := HLL.out; omega)⟩
      obtain ⟨p, hxp, hp10⟩ := (HLS.out x (List.mem_of_getElem? hx)).1
      have hxl := (HLS.out x (List.mem_of_getElem? hx)).2
      obtain ⟨y, hy⟩ : ∃ y, y = bB x := ⟨_, rfl⟩
      have hyx : y.data.toList = x := by rw [hy, bB_data]
      have hys : y.size = x.length := by rw [← dsize, hyx]
      have hpos : 0 < y.size := by rw [hys, hxp]; simp
      have hdr : ls.drop k = x :: ls.drop (k + 1) := dropAt hx
      have hhd : x.head? = some y[0] := by rw [← hyx]; exact head_B y hpos
      obtain ⟨lb, lo, hla, hlb, hlc⟩ := rdT_at HRL.out (k := k) (x := y) (by rw [List.getElem?_map, hx, hy]; rfl)
      have hla' : la = some ⟨lb, lo, none⟩ := hla
      subst hla'
      have hcl : wr.cell? ⟨lb, lo + k, none⟩ = some (.string y) := (HB.out.cell hlb).trans hlc
      have i1 : (k : Int) < (LL : Int) := by omega
      have i2 : (0 : Int) < (y.size : Int) := by omega
      have i3 : (1 : Int) ≤ (y.size : Int) := by omega
      have HXD := hid (dropE y 1)
      rw [hyx] at HXD
      have HDL0 : Hid ((x.drop 0).length ≤ 4194305) := hid (by rw [List.length_drop]; omega)
      have HDL1 : Hid ((x.drop 1).length ≤ 4194305) := hid (by rw [List.length_drop]; omega)
      clear hla hlb hlc hys hxl hy
      have z0 : wr.cell? ⟨P, 0, none⟩ = some (.int .i64 (a : Nat)) := cell_of_blk KP.out 0
      have z1 : wr.cell? ⟨P, 1, none⟩ = some (.int .i64 (N : Nat)) := cell_of_blk KP.out 1
      have z2 : wr.cell? ⟨P, 2, none⟩ = some (.int .i64 (b : Nat)) := cell_of_blk KP.out 2
      have z3 : wr.cell? ⟨P, 3, none⟩ = some (.int .i64 (M : Nat)) := cell_of_blk KP.out 3
      have z4 : wr.cell? ⟨P, 4, none⟩ = some (.string hd) := cell_of_blk KP.out 4
      have z5 : wr.cell? ⟨P, 5, none⟩ = some (.slice va XL vc) := cell_of_blk KP.out 5
      by_cases c92 : y[0].toNat = 92
      · have t92 : ((y[0].toNat : Int) == 92) = true := by rw [c92]; rfl
        have he : Un.isEnd x = true := by unfold Un.isEnd; rw [hhd, UInt8.toNat_inj.1 (show y[0].toNat = (92 : UInt8).toNat from c92)]; rfl
        clear c92
        cases mk with
        | false =>
          have HE : Hid (Un.rowsD (ls.drop k) (N - n1) (M - m1) false acc k = .bad k) := hid (by rw [hdr]; exact rowsD_end he)
          clear he hdr hhd hxp hp10 hx hyx HXD
          go_wp2_with (guard_target =~ wpList _ _ _ (_ :: _) _ _; refine wpList_stA 37 #[.int .i64 (a : Nat), .int .i64 (N : Nat), .int .i64 (b : Nat), .int .i64 (M : Nat), .string hd, .slice va XL vc] rfl rfl KG.out sizeHk rfl rfl rfl rfl ?_; intro w8 hk8 hkp8; have y0 : w8.cell? ⟨G, 0, none⟩ = some (.int .i64 (a : Nat)) := cell_of_blk hk8 0; have y1 : w8.cell? ⟨G, 1, none⟩ = some (.int .i64 (N : Nat)) := cell_of_blk hk8 1; have y2 : w8.cell? ⟨G, 2, none⟩ = some (.int .i64 (b : Nat)) := cell_of_blk hk8 2; have y3 : w8.cell? ⟨G, 3, none⟩ = some (.int .i64 (M : Nat)) := cell_of_blk hk8 3; have y4 : w8.cell? ⟨G, 4, none⟩ = some (.string hd) := cell_of_blk hk8 4; have y5 : w8.cell? ⟨G, 5, none⟩ = some (.slice va XL vc) := cell_of_blk hk8 5; have HKP := hid hkp8; clear hk8 hkp8)
          exact bodyPost_ret (v := .tuple #[.agg #[.int .i64 (a : Nat), .int .i64 (N : Nat), .int .i64 (b : Nat), .int .i64 (M : Nat), .string hd, .slice va XL vc], .int .i64 (k : Nat), .int .i64 111]) (by simp [results, Tryz.results35, go_sem, y0, y1, y2, y3, y4, y5]) rfl ⟨Kept.onto HB.out HKP.out HGW.out (Nat.le_refl _), rwBad (by rw [← HI.out, HE.out])⟩
        | true =>
          obtain ⟨A0, r, hA⟩ := acc_last (HMK.out rfl)
          subst hA
          obtain ⟨X0, hX0⟩ : ∃ X0, X0 = A0.map Un.toR := ⟨_, rfl⟩
          have hX1 : X = X0 ++ [⟨r.1, bB r.2⟩] := by rw [HX.out, hX0, List.map_append]; rfl
          subst hX1
          have HE : Hid (Un.rowsD (ls.drop (k + 1)) (N - n1) (M - m1) false (A0 ++ [(r.1, Un.bare r.2)]) (k + 1) = Un.rowsD (ls.drop k0) N M false [] k0) := hid (by rw [← HI.out, hdr, rowsD_take he, bareLast_snoc])
          have HR2 := hid (HSZ.out r (by simp))
          have HBR := hid (fun w1 => Cx.refBare_any (bB r.2) w1 (by rw [bB_size]; have := HR2.out; unfold maxLen; omega))
          rw [bareB_eq, bB_data] at HBR
          obtain ⟨g, hga, hgB⟩ := own_addr HW.out (by simp)
          subst hga
          obtain ⟨Q, hQ⟩ : ∃ Q, Q = X0.length := ⟨_, rfl⟩
          have hXQ : XL = Q + 1 := by rw [HXL.out, hQ]; simp
          obtain ⟨b', o', hbo, _, _, hct⟩ := rdW_at (own_rd HW.out) (k := Q) (x := ⟨r.1, bB r.2⟩) (by rw [hQ]; simp)
          have hbo1 : g = b' := by cases hbo; rfl
          have hbo2 : o' = 0 := by cases hbo; rfl
          subst hbo1 hbo2
          rw [Nat.zero_add] at hct
          have l1 : IntKind.i64.wrap ((XL : Int) - 1) = (Q : Int) := by rw [wrapOk (by omega) (by omega)]; omega
          have l2 : (0 : Int) ≤ (Q : Int) := by omega
          have l3 : (Q : Int) < (XL : Int) := by omega
          have l4 : IntKind.i64.wrap ((k : Int) + 1) = ((k + 1 : Nat) : Int) := by rw [wrapOk (by omega) (by omega)]; omega
          have HQ := hid hQ
          have HXQ := hid hXQ
          have HGG := hid hgB
          have HX0 := hid hX0
          clear he hdr hhd hxp hp10 hx hyx HXD hbo hQ hXQ hgB hX0 HX HXL HI HMK
          go_wp2_with fail
          refine wp_region_qtail 12 (by kernel_rfl) (by kernel_rfl) ?_
          simp only [List.take_succ_cons, List.take_zero, List.drop_succ_cons, List.drop_zero]
          repeat (quiet_step (fail))
          refine wpQuiet_step (fun K hK => ?_)
          go_simp
          apply Exists.intro
          refine ⟨HBR.out _, hK _ ?_⟩
          clear hK K
          repeat (quiet_step (fail))
          refine wpQuiet_nil ?_
          have hct1 : (wr.drewN 1).cell? ⟨g, Q * 2 + 1, none⟩ = some (.string (bB r.2)) := hct
          have hf1 : (wr.drewN 1).frozen? ⟨g, Q * 2 + 1, none⟩ = false := own_free HW.out _
          have HW1 : Hid (OwnW (wr.drewN 1) (w.heap.size + 2) (.slice (some ⟨g, 0, none⟩) XL vc) (X0 ++ [⟨r.1, bB r.2⟩])) := hid HW.out
          have HB1 := hid (below_drewN HB.out 1)
          have KP1 : Hid ((wr.drewN 1).heap[P]? = some (.cells #[.int .i64 (a : Nat), .int .i64 (N : Nat), .int .i64 (b : Nat), .int .i64 (M : Nat), .string hd, .slice (some ⟨g, 0, none⟩) XL vc] 37)) := hid KP.out
          have KG1 : Hid ((wr.drewN 1).heap[G]? = some (.cells #[.int .i64 0, .int .i64 0, .int .i64 0, .int .i64 0, .string ⟨#[]⟩, .slice none 0 0] 37)) := hid KG.out
          generalize wr.drewN 1 = w1 at hct1 hf1 HW1 HB1 KP1 KG1 ⊢
          clear hct
          go_wp2_with fail
          go_roundw
          case rel => exact ⟨k + 1, n1, m1, XL, vc, false, A0 ++ [(r.1, Un.bare r.2)], X0 ++ [⟨r.1, bB (Un.bare r.2)⟩], some ⟨g, 0, none⟩, rfl, rfl, rfl, rfl, by omega, hn1, hm1, by omega, hid (by rw [HXQ.out, HQ.out]; simp), hid (by rw [HX0.out, List.map_append]; rfl), hid ((Below.heap_setCell _ _ _ _ (by show P ≠ g; have := HPB.out; have := HGG.out; omega)).trans KP1.out), hid ((Below.heap_setCell _ _ _ _ (by show G ≠ g; have := HGB.out; have := HGG.out; omega)).trans KG1.out), hid (by rw [HQ.out]; exact own_lastRow HW1.out (by rw [HXQ.out, HQ.out])), hid (below_set HB1.out (Nat.le_trans (Nat.le_add_right _ _) HGG.out)), hid (fun h => by cases h), hid (fun q hq => by rcases List.mem_append.1 hq with h | h; exact HSZ.out q (by simp [h]); rw [List.mem_singleton.1 h]; exact Nat.le_trans (bare_le _) HR2.out), HE⟩
          case measure => simp [intOf]; omega
      · have t92 : ((y[0].toNat : Int) == 92) = false := ine (by omega)
        have he : Un.isEnd x = false := by unfold Un.isEnd; rw [hhd]; exact beq_eq_false_iff_ne.2 (fun e => c92 (by rw [Option.some.inj e]; rfl))
        by_cases hfull : n1 = N ∧ m1 = M
        · obtain ⟨rfl, rfl⟩ := hfull
          have HE : Hid (Un.rowsD (ls.drop k) (n1 - n1) (m1 - m1) mk acc k = .ok acc (ls.drop k) k) := hid (by rw [hdr, Nat.sub_self, Nat.sub_self]; exact rowsD_full he)
          clear he hdr hhd hxp hp10 hx hyx HXD c92
          go_wp2_with (guard_target =~ wpList _ _ _ (_ :: _) _ _; refine wpList_stA 37 #[.int .i64 (a : Nat), .int .i64 (n1 : Nat), .int .i64 (b : Nat), .int .i64 (m1 : Nat), .string hd, .slice va XL vc] rfl rfl KG.out sizeHk rfl rfl rfl rfl ?_; intro w8 hk8 hkp8; have y0 : w8.cell? ⟨G, 0, none⟩ = some (.int .i64 (a : Nat)) := cell_of_blk hk8 0; have y1 : w8.cell? ⟨G, 1, none⟩ = some (.int .i64 (n1 : Nat)) := cell_of_blk hk8 1; have y2 : w8.cell? ⟨G, 2, none⟩ = some (.int .i64 (b : Nat)) := cell_of_blk hk8 2; have y3 : w8.cell? ⟨G, 3, none⟩ = some (.int .i64 (m1 : Nat)) := cell_of_blk hk8 3; have y4 : w8.cell? ⟨G, 4, none⟩ = some (.string hd) := cell_of_blk hk8 4; have y5 : w8.cell? ⟨G, 5, none⟩ = some (.slice va XL vc) := cell_of_blk hk8 5; have HKP := hid hkp8; clear hk8 hkp8)
          exact bodyPost_ret (v := .tuple #[.agg #[.int .i64 (a : Nat), .int .i64 (n1 : Nat), .int .i64 (b : Nat), .int .i64 (m1 : Nat), .string hd, .slice va XL vc], .int .i64 (k : Nat), .int .i64 0]) (by simp [results, Tryz.results35, go_sem, y0, y1, y2, y3, y4, y5]) rfl ⟨Kept.onto HB.out HKP.out HGW.out (Nat.le_refl _), rwOk (by rw [← HI.out, HE.out]) (by rw [← HX.out]; exact own_setG HW.out HKP.out HGB.out) (by rw [← HLL.out]; exact hk)⟩
        · have HF : Hid (¬ (N - n1 = 0 ∧ M - m1 = 0)) := hid (fun h => hfull (by omega))
          have i5 : ((k : Int) == (LL : Int)) = false := ine (by omega)
          have i6 : IntKind.i64.wrap ((k : Int) + 1) = ((k + 1 : Nat) : Int) := by rw [wrapOk (by omega) (by omega)]; omega
          obtain ⟨n2, hn2⟩ : ∃ n2, n2 = n1 + 1 := ⟨_, rfl⟩
          obtain ⟨m2, hm2⟩ : ∃ m2, m2 = m1 + 1 := ⟨_, rfl⟩
          have i7 : IntKind.i64.wrap ((n1 : Int) + 1) = (n2 : Int) := by rw [wrapOk (by omega) (by omega)]; omega
          have i8 : IntKind.i64.wrap ((m1 : Int) + 1) = (m2 : Int) := by rw [wrapOk (by omega) (by omega)]; omega
          have HFIT : Hid (X.length < 5864062014800) := hid (by have := HXL.out; omega)
          have HZ : Hid (w.heap.size + 2 ≤ wr.heap.size) := hid (by have := lt_of_heap KG.out; have := HG2.out; omega)
          have hcl0 : (wr.alloc (.cells #[.int .i64 0, .string (y.extract 1 y.size)] 52)).cell? ⟨lb, lo + k, none⟩ = some (.string y) := (((Below.refl wr.heap.size wr).alloc (Nat.le_refl _) (.cells #[.int .i64 0, .string (y.extract 1 y.size)] 52)).cell (lt_of_cell hcl)).trans hcl
          by_cases hn : n1 = N
          · have q1 : ((n1 : Int) == (N : Int)) = true := beq_iff_eq.2 (by omega)
            have q2 : ((m1 : Int) == (M : Int)) = false := ine (by omega)
            by_cases cc : y[0].toNat = 32
            · skip
              have HM := hid (mark_32 hhd cc)
              have g1 : (N : Int) < (n2 : Int) := by omega
              have HE : Hid (Un.rowsD (ls.drop k) (N - n1) (M - m1) mk acc k = .bad k) := hid (by rw [hdr]; exact rowsD_less he HF.out HM.out (less_n1 (by omega)))
              have t32 : ((y[0].toNat : Int) == 32) = true := by rw [cc]; rfl
              have HA3 := hid ((Below.refl wr.heap.size wr).alloc (Nat.le_refl _) (.cells #[.int .i64 1, .string (y.extract 1 y.size)] 52))
              have KP3 := hid ((HA3.out.block P (lt_of_heap KP.out)).trans KP.out)
              have KG3 := hid ((HA3.out.block G (lt_of_heap KG.out)).trans KG.out)
              have HB3 := hid (HB.out.alloc HB.out.size (.cells #[.int .i64 1, .string (y.extract 1 y.size)] 52))
              have u0 : (wr.alloc (.cells #[.int .i64 1, .string (y.extract 1 y.size)] 52)).cell? ⟨P, 0, none⟩ = some (.int .i64 (a : Nat)) := cell_of_blk KP3.out 0
              have u1 : (wr.alloc (.cells #[.int .i64 1, .string (y.extract 1 y.size)] 52)).cell? ⟨P, 1, none⟩ = some (.int .i64 (N : Nat)) := cell_of_blk KP3.out 1
              have u2 : (wr.alloc (.cells #[.int .i64 1, .string (y.extract 1 y.size)] 52)).cell? ⟨P, 2, none⟩ = some (.int .i64 (b : Nat)) := cell_of_blk KP3.out 2
              have u3 : (wr.alloc (.cells #[.int .i64 1, .string (y.extract 1 y.size)] 52)).cell? ⟨P, 3, none⟩ = some (.int .i64 (M : Nat)) := cell_of_blk KP3.out 3
              have u4 : (wr.alloc (.cells #[.int .i64 1, .string (y.extract 1 y.size)] 52)).cell? ⟨P, 4, none⟩ = some (.string hd) := cell_of_blk KP3.out 4
              have u5 : (wr.alloc (.cells #[.int .i64 1, .string (y.extract 1 y.size)] 52)).cell? ⟨P, 5, none⟩ = some (.slice va XL vc) := cell_of_blk KP3.out 5
              clear cc c92 he hdr hhd hxp hp10 hx hyx HXD hfull HM HF hn2 hm2
              go_wp2_with (guard_target =~ wpList _ _ _ (_ :: _) _ _; refine wpList_stA 37 #[.int .i64 (a : Nat), .int .i64 (N : Nat), .int .i64 (b : Nat), .int .i64 (M : Nat), .string hd, .slice va XL vc] rfl rfl KG3.out sizeHk rfl rfl rfl rfl ?_; intro w8 hk8 hkp8; have y0 : w8.cell? ⟨G, 0, none⟩ = some (.int .i64 (a : Nat)) := cell_of_blk hk8 0; have y1 : w8.cell? ⟨G, 1, none⟩ = some (.int .i64 (N : Nat)) := cell_of_blk hk8 1; have y2 : w8.cell? ⟨G, 2, none⟩ = some (.int .i64 (b : Nat)) := cell_of_blk hk8 2; have y3 : w8.cell? ⟨G, 3, none⟩ = some (.int .i64 (M : Nat)) := cell_of_blk hk8 3; have y4 : w8.cell? ⟨G, 4, none⟩ = some (.string hd) := cell_of_blk hk8 4; have y5 : w8.cell? ⟨G, 5, none⟩ = some (.slice va XL vc) := cell_of_blk hk8 5; have HKP := hid hkp8; clear hk8 hkp8)
              exact bodyPost_ret (v := .tuple #[.agg #[.int .i64 (a : Nat), .int .i64 (N : Nat), .int .i64 (b : Nat), .int .i64 (M : Nat), .string hd, .slice va XL vc], .int .i64 (k : Nat), .int .i64 111]) (by simp [results, Tryz.results35, go_sem, y0, y1, y2, y3, y4, y5]) rfl ⟨Kept.onto HB3.out HKP.out HGW.out (Nat.le_refl _), rwBad (by rw [← HI.out, HE.out])⟩
            · have n32 := cc
              clear cc
              by_cases cc : y[0].toNat = 10
              · skip
                have HTEN : Hid ((⟨#[10]⟩ : ByteArray) = bB (x.drop 0)) := hid (by rw [is_ten hhd cc hxp hp10]; rfl)
                have HM := hid (mark_ten hhd cc hxp hp10)
                have g1 : (N : Int) < (n2 : Int) := by omega
                have HE : Hid (Un.rowsD (ls.drop k) (N - n1) (M - m1) mk acc k = .bad k) := hid (by rw [hdr]; exact rowsD_less he HF.out HM.out (less_n1 (by omega)))
                have t32 : ((y[0].toNat : Int) == 32) = false := ine (by omega)
                have t10 : ((y[0].toNat : Int) == 10) = true := by rw [cc]; rfl
                have HA3 := hid ((Below.refl wr.heap.size wr).alloc (Nat.le_refl _) (.cells #[.int .i64 1, .string ⟨#[10]⟩] 52))
                have KP3 := hid ((HA3.out.block P (lt_of_heap KP.out)).trans KP.out)
                have KG3 := hid ((HA3.out.block G (lt_of_heap KG.out)).trans KG.out)
                have HB3 := hid (HB.out.alloc HB.out.size (.cells #[.int .i64 1, .string ⟨#[10]⟩] 52))
                have u0 : (wr.alloc (.cells #[.int .i64 1, .string ⟨#[10]⟩] 52)).cell? ⟨P, 0, none⟩ = some (.int .i64 (a : Nat)) := cell_of_blk KP3.out 0
                have u1 : (wr.alloc (.cells #[.int .i64 1, .string ⟨#[10]⟩] 52)).cell? ⟨P, 1, none⟩ = some (.int .i64 (N : Nat)) := cell_of_blk KP3.out 1
                have u2 : (wr.alloc (.cells #[.int .i64 1, .string ⟨#[10]⟩] 52)).cell? ⟨P, 2, none⟩ = some (.int .i64 (b : Nat)) := cell_of_blk KP3.out 2
                have u3 : (wr.alloc (.cells #[.int .i64 1, .string ⟨#[10]⟩] 52)).cell? ⟨P, 3, none⟩ = some (.int .i64 (M : Nat)) := cell_of_blk KP3.out 3
                have u4 : (wr.alloc (.cells #[.int .i64 1, .string ⟨#[10]⟩] 52)).cell? ⟨P, 4, none⟩ = some (.string hd) := cell_of_blk KP3.out 4
                have u5 : (wr.alloc (.cells #[.int .i64 1, .string ⟨#[10]⟩] 52)).cell? ⟨P, 5, none⟩ = some (.slice va XL vc) := cell_of_blk KP3.out 5
                clear cc c92 he hdr hhd hxp hp10 hx hyx HXD hfull HM HF hn2 hm2
                go_wp2_with (guard_target =~ wpList _ _ _ (_ :: _) _ _; refine wpList_stA 37 #[.int .i64 (a : Nat), .int .i64 (N : Nat), .int .i64 (b : Nat), .int .i64 (M : Nat), .string hd, .slice va XL vc] rfl rfl KG3.out sizeHk rfl rfl rfl rfl ?_; intro w8 hk8 hkp8; have y0 : w8.cell? ⟨G, 0, none⟩ = some (.int .i64 (a : Nat)) := cell_of_blk hk8 0; have y1 : w8.cell? ⟨G, 1, none⟩ = some (.int .i64 (N : Nat)) := cell_of_blk hk8 1; have y2 : w8.cell? ⟨G, 2, none⟩ = some (.int .i64 (b : Nat)) := cell_of_blk hk8 2; have y3 : w8.cell? ⟨G, 3, none⟩ = some (.int .i64 (M : Nat)) := cell_of_blk hk8 3; have y4 : w8.cell? ⟨G, 4, none⟩ = some (.string hd) := cell_of_blk hk8 4; have y5 : w8.cell? ⟨G, 5, none⟩ = some (.slice va XL vc) := cell_of_blk hk8 5; have HKP := hid hkp8; clear hk8 hkp8)
                exact bodyPost_ret (v := .tuple #[.agg #[.int .i64 (a : Nat), .int .i64 (N : Nat), .int .i64 (b : Nat), .int .i64 (M : Nat), .string hd, .slice va XL vc], .int .i64 (k : Nat), .int .i64 111]) (by simp [results, Tryz.results35, go_sem, y0, y1, y2, y3, y4, y5]) rfl ⟨Kept.onto HB3.out HKP.out HGW.out (Nat.le_refl _), rwBad (by rw [← HI.out, HE.out])⟩
              · have n10 := cc
                clear cc
                by_cases cc : y[0].toNat = 45
                · skip
                  have HM := hid (mark_45 hhd cc)
                  have g1 : (N : Int) < (n2 : Int) := by omega
                  have HE : Hid (Un.rowsD (ls.drop k) (N - n1) (M - m1) mk acc k = .bad k) := hid (by rw [hdr]; exact rowsD_less he HF.out HM.out (less_n2 (by omega)))
                  have t32 : ((y[0].toNat : Int) == 32) = false := ine (by omega)
                  have t10 : ((y[0].toNat : Int) == 10) = false := ine (by omega)
                  have t45 : ((y[0].toNat : Int) == 45) = true := by rw [cc]; rfl
                  have HA3 := hid ((Below.refl wr.heap.size wr).alloc (Nat.le_refl _) (.cells #[.int .i64 2, .string (y.extract 1 y.size)] 52))
                  have KP3 := hid ((HA3.out.block P (lt_of_heap KP.out)).trans KP.out)
                  have KG3 := hid ((HA3.out.block G (lt_of_heap KG.out)).trans KG.out)
                  have HB3 := hid (HB.out.alloc HB.out.size (.cells #[.int .i64 2, .string (y.extract 1 y.size)] 52))
                  have u0 : (wr.alloc (.cells #[.int .i64 2, .string (y.extract 1 y.size)] 52)).cell? ⟨P, 0, none⟩ = some (.int .i64 (a : Nat)) := cell_of_blk KP3.out 0
                  have u1 : (wr.alloc (.cells #[.int .i64 2, .string (y.extract 1 y.size)] 52)).cell? ⟨P, 1, none⟩ = some (.int .i64 (N : Nat)) := cell_of_blk KP3.out 1
                  have u2 : (wr.alloc (.cells #[.int .i64 2, .string (y.extract 1 y.size)] 52)).cell? ⟨P, 2, none⟩ = some (.int .i64 (b : Nat)) := cell_of_blk KP3.out 2
                  have u3 : (wr.alloc (.cells #[.int .i64 2, .string (y.extract 1 y.size)] 52)).cell? ⟨P, 3, none⟩ = some (.int .i64 (M : Nat)) := cell_of_blk KP3.out 3
                  have u4 : (wr.alloc (.cells #[.int .i64 2, .string (y.extract 1 y.size)] 52)).cell? ⟨P, 4, none⟩ = some (.string hd) := cell_of_blk KP3.out 4
                  have u5 : (wr.alloc (.cells #[.int .i64 2, .string (y.extract 1 y.size)] 52)).cell? ⟨P, 5, none⟩ = some (.slice va XL vc) := cell_of_blk KP3.out 5
                  clear cc c92 he hdr hhd hxp hp10 hx hyx HXD hfull HM HF hn2 hm2
                  go_wp2_with (guard_target =~ wpList _ _ _ (_ :: _) _ _; refine wpList_stA 37 #[.int .i64 (a : Nat), .int .i64 (N : Nat), .int .i64 (b : Nat), .int .i64 (M : Nat), .string hd, .slice va XL vc] rfl rfl KG3.out sizeHk rfl rfl rfl rfl ?_; intro w8 hk8 hkp8; have y0 : w8.cell? ⟨G, 0, none⟩ = some (.int .i64 (a : Nat)) := cell_of_blk hk8 0; have y1 : w8.cell? ⟨G, 1, none⟩ = some (.int .i64 (N : Nat)) := cell_of_blk hk8 1; have y2 : w8.cell? ⟨G, 2, none⟩ = some (.int .i64 (b : Nat)) := cell_of_blk hk8 2; have y3 : w8.cell? ⟨G, 3, none⟩ = some (.int .i64 (M : Nat)) := cell_of_blk hk8 3; have y4 : w8.cell? ⟨G, 4, none⟩ = some (.string hd) := cell_of_blk hk8 4; have y5 : w8.cell? ⟨G, 5, none⟩ = some (.slice va XL vc) := cell_of_blk hk8 5; have HKP := hid hkp8; clear hk8 hkp8)
                  exact bodyPost_ret (v := .tuple #[.agg #[.int .i64 (a : Nat), .int .i64 (N : Nat), .int .i64 (b : Nat), .int .i64 (M : Nat), .string hd, .slice va XL vc], .int .i64 (k : Nat), .int .i64 111]) (by simp [results, Tryz.results35, go_sem, y0, y1, y2, y3, y4, y5]) rfl ⟨Kept.onto HB3.out HKP.out HGW.out (Nat.le_refl _), rwBad (by rw [← HI.out, HE.out])⟩
                · have n45 := cc
                  clear cc
                  by_cases cc : y[0].toNat = 43
                  · skip
                    have HM := hid (mark_43 hhd cc)
                    have g1 : ¬ ((N : Int) < (n1 : Int)) := by omega
                    have g2 : ¬ ((M : Int) < (m2 : Int)) := by omega
                    have HE : Hid (Un.rowsD (ls.drop k) (N - n1) (M - m1) mk acc k = Un.rowsD (ls.drop (k + 1)) (N - n1) (M - m2) true (acc ++ [(3, x.drop 1)]) (k + 1)) := hid (by rw [hdr]; exact rowsD_step he HF.out HM.out (less_3 (by omega) (by omega) (by omega) (by omega)))
                    have t32 : ((y[0].toNat : Int) == 32) = false := ine (by omega)
                    have t10 : ((y[0].toNat : Int) == 10) = false := ine (by omega)
                    have t45 : ((y[0].toNat : Int) == 45) = false := ine (by omega)
                    have t43 : ((y[0].toNat : Int) == 43) = true := by rw [cc]; rfl
                    have HA3 := hid ((Below.refl wr.heap.size wr).alloc (Nat.le_refl _) (.cells #[.int .i64 3, .string (y.extract 1 y.size)] 52))
                    have KP3 := hid ((HA3.out.block P (lt_of_heap KP.out)).trans KP.out)
                    have KG3 := hid ((HA3.out.block G (lt_of_heap KG.out)).trans KG.out)
                    have HB3 := hid (HB.out.alloc HB.out.size (.cells #[.int .i64 3, .string (y.extract 1 y.size)] 52))
                    have u0 : (wr.alloc (.cells #[.int .i64 3, .string (y.extract 1 y.size)] 52)).cell? ⟨P, 0, none⟩ = some (.int .i64 (a : Nat)) := cell_of_blk KP3.out 0
                    have u1 : (wr.alloc (.cells #[.int .i64 3, .string (y.extract 1 y.size)] 52)).cell? ⟨P, 1, none⟩ = some (.int .i64 (N : Nat)) := cell_of_blk KP3.out 1
                    have u2 : (wr.alloc (.cells #[.int .i64 3, .string (y.extract 1 y.size)] 52)).cell? ⟨P, 2, none⟩ = some (.int .i64 (b : Nat)) := cell_of_blk KP3.out 2
                    have u3 : (wr.alloc (.cells #[.int .i64 3, .string (y.extract 1 y.size)] 52)).cell? ⟨P, 3, none⟩ = some (.int .i64 (M : Nat)) := cell_of_blk KP3.out 3
                    have u4 : (wr.alloc (.cells #[.int .i64 3, .string (y.extract 1 y.size)] 52)).cell? ⟨P, 4, none⟩ = some (.string hd) := cell_of_blk KP3.out 4
                    have u5 : (wr.alloc (.cells #[.int .i64 3, .string (y.extract 1 y.size)] 52)).cell? ⟨P, 5, none⟩ = some (.slice va XL vc) := cell_of_blk KP3.out 5
                    obtain ⟨X5, hX5⟩ : ∃ X5, X ++ [⟨3, (y.extract 1 y.size)⟩] = X5 := ⟨_, rfl⟩
                    have HX5 : Hid (X5 = (acc ++ [((3 : Int), x.drop 1)]).map Un.toR) := hid (by rw [← hX5, HX.out, List.map_append]; congr 1; exact congrArg (fun q => [(⟨3, q⟩ : Rw)]) (HXD.out))
                    have HL5 : Hid (X5.length = XL + 1) := hid (by rw [← hX5, List.length_append, HXL.out]; rfl)
                    have HW4 : Hid (OwnW ((wr.alloc (.cells #[.int .i64 3, .string (y.extract 1 y.size)] 52)).alloc (.cells #[.int .i64 3, .string (y.extract 1 y.size)] 52)) (w.heap.size + 2) (.slice va XL vc) X) := hid ((HW.out.alloc _).alloc _)
                    have HG4 : Hid (((wr.alloc (.cells #[.int .i64 3, .string (y.extract 1 y.size)] 52)).alloc (.cells #[.int .i64 3, .string (y.extract 1 y.size)] 52)).heap[wr.heap.size + 1]? = some (.cells #[.int .i64 3, .string (y.extract 1 y.size)] 52)) := hid (twoF wr (.cells #[.int .i64 3, .string (y.extract 1 y.size)] 52) (.cells #[.int .i64 3, .string (y.extract 1 y.size)] 52)).2.2
                    have HS4 : Hid (w.heap.size + 2 ≤ ((wr.alloc (.cells #[.int .i64 3, .string (y.extract 1 y.size)] 52)).alloc (.cells #[.int .i64 3, .string (y.extract 1 y.size)] 52)).heap.size) := hid (Nat.le_trans HZ.out (twoF wr (.cells #[.int .i64 3, .string (y.extract 1 y.size)] 52) (.cells #[.int .i64 3, .string (y.extract 1 y.size)] 52)).1.size)
                    have HB4 := hid (HB.out.trans ((twoF wr (.cells #[.int .i64 3, .string (y.extract 1 y.size)] 52) (.cells #[.int .i64 3, .string (y.extract 1 y.size)] 52)).1.mono HB.out.size))
                    have KP4 := hid (((twoF wr (.cells #[.int .i64 3, .string (y.extract 1 y.size)] 52) (.cells #[.int .i64 3, .string (y.extract 1 y.size)] 52)).1.block P (lt_of_heap KP.out)).trans KP.out)
                    have KG4 := hid (((twoF wr (.cells #[.int .i64 3, .string (y.extract 1 y.size)] 52) (.cells #[.int .i64 3, .string (y.extract 1 y.size)] 52)).1.block G (lt_of_heap KG.out)).trans KG.out)
                    have HHX := hid hX5
                    clear cc c92 he hdr hhd hxp hp10 hx hyx HXD hfull HM HF hX5 HA3 KP3 KG3 HB3
                    go_wp2_with (at_builtin; refine wpList_append_row rfl _ _ rfl (w.heap.size + 2) _ X rfl HW4.out (wr.heap.size + 1) 3 (y.extract 1 y.size) rfl HG4.out HFIT.out HS4.out ?_; intro v5 w5 hO5 hg5 hl5 hb5; rw [HHX.out] at hO5; have HO5 := hid hO5; have KP5 := hid ((hg5.block P (lt_of_heap KP4.out) (fun e => by have := own_ge HW4.out P e.symm; have := HPB.out; omega)).trans KP4.out); have KG5 := hid ((hg5.block G (lt_of_heap KG4.out) (fun e => by have := own_ge HW4.out G e.symm; have := HGB.out; omega)).trans KG4.out); have HB5 := hid (HB4.out.trans (hb5.mono (Nat.le_add_right _ _))); obtain ⟨va5, vc5, rfl⟩ := own_shape hO5; clear hO5 hg5 hl5 hb5; have f5 : w5.frozen? ⟨P, 5, none⟩ = false := frozR KP5.out 5; have c5 : w5.cell? ⟨P, 5, none⟩ = some (.slice va XL vc) := cell_of_blk KP5.out 5)
                    go_roundw
                    case rel => exact ⟨k + 1, n1, m2, X5.length, vc5, true, acc ++ [(3, x.drop 1)], X5, va5, rfl, by first | rfl | exact congrArg (Value.int .i64) (by omega), by first | rfl | exact congrArg (Value.int .i64) (by omega), rfl, by omega, by omega, by omega, by have := HL5.out; omega, hid rfl, HX5, hid (setR w5 P 5 _ _ (.slice va5 X5.length vc5) KP5.out), hid ((Below.heap_setCell _ _ _ _ (by show G ≠ P; exact fun e => HPG.out e.symm)).trans KG5.out), hid (ownsRow_setCell_below HO5.out (a := ⟨P, 5, none⟩) HPB.out _), hid (below_set HB5.out HPW.out), hid (fun _ => by simp), hid (fun q hq => by rcases List.mem_append.1 hq with h | h; exact HSZ.out q h; rw [List.mem_singleton.1 h]; exact HDL1.out), hid (HE.out.symm.trans HI.out)⟩
                    case measure => simp [intOf]; omega
                  · have n43 := cc
                    clear cc
                    have HM := hid (mark_other hhd n32 n10 n45 n43)
                    have HE : Hid (Un.rowsD (ls.drop k) (N - n1) (M - m1) mk acc k = .bad k) := hid (by rw [hdr]; exact rowsD_no he HF.out HM.out)
                    have t32 : ((y[0].toNat : Int) == 32) = false := ine (by omega)
                    have t10 : ((y[0].toNat : Int) == 10) = false := ine (by omega)
                    have t45 : ((y[0].toNat : Int) == 45) = false := ine (by omega)
                    have t43 : ((y[0].toNat : Int) == 43) = false := ine (by omega)
                    have HA3 := hid ((Below.refl wr.heap.size wr).alloc (Nat.le_refl _) (.cells #[.int .i64 0, .string (y.extract 1 y.size)] 52))
                    have KP3 := hid ((HA3.out.block P (lt_of_heap KP.out)).trans KP.out)
                    have KG3 := hid ((HA3.out.block G (lt_of_heap KG.out)).trans KG.out)
                    have HB3 := hid (HB.out.alloc HB.out.size (.cells #[.int .i64 0, .string (y.extract 1 y.size)] 52))
                    have u0 : (wr.alloc (.cells #[.int .i64 0, .string (y.extract 1 y.size)] 52)).cell? ⟨P, 0, none⟩ = some (.int .i64 (a : Nat)) := cell_of_blk KP3.out 0
                    have u1 : (wr.alloc (.cells #[.int .i64 0, .string (y.extract 1 y.size)] 52)).cell? ⟨P, 1, none⟩ = some (.int .i64 (N : Nat)) := cell_of_blk KP3.out 1
                    have u2 : (wr.alloc (.cells #[.int .i64 0, .string (y.extract 1 y.size)] 52)).cell? ⟨P, 2, none⟩ = some (.int .i64 (b : Nat)) := cell_of_blk KP3.out 2
                    have u3 : (wr.alloc (.cells #[.int .i64 0, .string (y.extract 1 y.size)] 52)).cell? ⟨P, 3, none⟩ = some (.int .i64 (M : Nat)) := cell_of_blk KP3.out 3
                    have u4 : (wr.alloc (.cells #[.int .i64 0, .string (y.extract 1 y.size)] 52)).cell? ⟨P, 4, none⟩ = some (.string hd) := cell_of_blk KP3.out 4
                    have u5 : (wr.alloc (.cells #[.int .i64 0, .string (y.extract 1 y.size)] 52)).cell? ⟨P, 5, none⟩ = some (.slice va XL vc) := cell_of_blk KP3.out 5
                    clear n32 n10 n45 n43 c92 he hdr hhd hxp hp10 hx hyx HXD hfull HM HF hn2 hm2
                    go_wp2_with (guard_target =~ wpList _ _ _ (_ :: _) _ _; refine wpList_stA 37 #[.int .i64 (a : Nat), .int .i64 (N : Nat), .int .i64 (b : Nat), .int .i64 (M : Nat), .string hd, .slice va XL vc] rfl rfl KG3.out sizeHk rfl rfl rfl rfl ?_; intro w8 hk8 hkp8; have y0 : w8.cell? ⟨G, 0, none⟩ = some (.int .i64 (a : Nat)) := cell_of_blk hk8 0; have y1 : w8.cell? ⟨G, 1, none⟩ = some (.int .i64 (N : Nat)) := cell_of_blk hk8 1; have y2 : w8.cell? ⟨G, 2, none⟩ = some (.int .i64 (b : Nat)) := cell_of_blk hk8 2; have y3 : w8.cell? ⟨G, 3, none⟩ = some (.int .i64 (M : Nat)) := cell_of_blk hk8 3; have y4 : w8.cell? ⟨G, 4, none⟩ = some (.string hd) := cell_of_blk hk8 4; have y5 : w8.cell? ⟨G, 5, none⟩ = some (.slice va XL vc) := cell_of_blk hk8 5; have HKP := hid hkp8; clear hk8 hkp8)
                    exact bodyPost_ret (v := .tuple #[.agg #[.int .i64 (a : Nat), .int .i64 (N : Nat), .int .i64 (b : Nat), .int .i64 (M : Nat), .string hd, .slice va XL vc], .int .i64 (k : Nat), .int .i64 111]) (by simp [results, Tryz.results35, go_sem, y0, y1, y2, y3, y4, y5]) rfl ⟨Kept.onto HB3.out HKP.out HGW.out (Nat.le_refl _), rwBad (by rw [← HI.out, HE.out])⟩
          · have q1 : ((n1 : Int) == (N : Int)) = false := ine (by omega)
            by_cases cc : y[0].toNat = 32
            · skip
              have HM := hid (mark_32 hhd cc)
              have g1 : ¬ ((N : Int) < (n2 : Int)) := by omega
              by_cases hmm : m1 = M
              · have g2 : (M : Int) < (m2 : Int) := by omega
                have HE : Hid (Un.rowsD (ls.drop k) (N - n1) (M - m1) mk acc k = .bad k) := hid (by rw [hdr]; exact rowsD_less he HF.out HM.out (less_m1 (by omega)))
                have t32 : ((y[0].toNat : Int) == 32) = true := by rw [cc]; rfl
                have HA3 := hid ((Below.refl wr.heap.size wr).alloc (Nat.le_refl _) (.cells #[.int .i64 1, .string (y.extract 1 y.size)] 52))
                have KP3 := hid ((HA3.out.block P (lt_of_heap KP.out)).trans KP.out)
                have KG3 := hid ((HA3.out.block G (lt_of_heap KG.out)).trans KG.out)
                have HB3 := hid (HB.out.alloc HB.out.size (.cells #[.int .i64 1, .string (y.extract 1 y.size)] 52))
                have u0 : (wr.alloc (.cells #[.int .i64 1, .string (y.extract 1 y.size)] 52)).cell? ⟨P, 0, none⟩ = some (.int .i64 (a : Nat)) := cell_of_blk KP3.out 0
                have u1 : (wr.alloc (.cells #[.int .i64 1, .string (y.extract 1 y.size)] 52)).cell? ⟨P, 1, none⟩ = some (.int .i64 (N : Nat)) := cell_of_blk KP3.out 1
                have u2 : (wr.alloc (.cells #[.int .i64 1, .string (y.extract 1 y.size)] 52)).cell? ⟨P, 2, none⟩ = some (.int .i64 (b : Nat)) := cell_of_blk KP3.out 2
                have u3 : (wr.alloc (.cells #[.int .i64 1, .string (y.extract 1 y.size)] 52)).cell? ⟨P, 3, none⟩ = some (.int .i64 (M : Nat)) := cell_of_blk KP3.out 3
                have u4 : (wr.alloc (.cells #[.int .i64 1, .string (y.extract 1 y.size)] 52)).cell? ⟨P, 4, none⟩ = some (.string hd) := cell_of_blk KP3.out 4
                have u5 : (wr.alloc (.cells #[.int .i64 1, .string (y.extract 1 y.size)] 52)).cell? ⟨P, 5, none⟩ = some (.slice va XL vc) := cell_of_blk KP3.out 5
                clear cc c92 he hdr hhd hxp hp10 hx hyx HXD hfull HM HF hn2 hm2
                go_wp2_with (guard_target =~ wpList _ _ _ (_ :: _) _ _; refine wpList_stA 37 #[.int .i64 (a : Nat), .int .i64 (N : Nat), .int .i64 (b : Nat), .int .i64 (M : Nat), .string hd, .slice va XL vc] rfl rfl KG3.out sizeHk rfl rfl rfl rfl ?_; intro w8 hk8 hkp8; have y0 : w8.cell? ⟨G, 0, none⟩ = some (.int .i64 (a : Nat)) := cell_of_blk hk8 0; have y1 : w8.cell? ⟨G, 1, none⟩ = some (.int .i64 (N : Nat)) := cell_of_blk hk8 1; have y2 : w8.cell? ⟨G, 2, none⟩ = some (.int .i64 (b : Nat)) := cell_of_blk hk8 2; have y3 : w8.cell? ⟨G, 3, none⟩ = some (.int .i64 (M : Nat)) := cell_of_blk hk8 3; have y4 : w8.cell? ⟨G, 4, none⟩ = some (.string hd) := cell_of_blk hk8 4; have y5 : w8.cell? ⟨G, 5, none⟩ = some (.slice va XL vc) := cell_of_blk hk8 5; have HKP := hid hkp8; clear hk8 hkp8)
                exact bodyPost_ret (v := .tuple #[.agg #[.int .i64 (a : Nat), .int .i64 (N : Nat), .int .i64 (b : Nat), .int .i64 (M : Nat), .string hd, .slice va XL vc], .int .i64 (k : Nat), .int .i64 111]) (by simp [results, Tryz.results35, go_sem, y0, y1, y2, y3, y4, y5]) rfl ⟨Kept.onto HB3.out HKP.out HGW.out (Nat.le_refl _), rwBad (by rw [← HI.out, HE.out])⟩
              · have g2 : ¬ ((M : Int) < (m2 : Int)) := by omega
                have HE : Hid (Un.rowsD (ls.drop k) (N - n1) (M - m1) mk acc k = Un.rowsD (ls.drop (k + 1)) (N - n2) (M - m2) true (acc ++ [(1, x.drop 1)]) (k + 1)) := hid (by rw [hdr]; exact rowsD_step he HF.out HM.out (less_1 (by omega) (by omega) (by omega) (by omega)))
                have t32 : ((y[0].toNat : Int) == 32) = true := by rw [cc]; rfl
                have HA3 := hid ((Below.refl wr.heap.size wr).alloc (Nat.le_refl _) (.cells #[.int .i64 1, .string (y.extract 1 y.size)] 52))
                have KP3 := hid ((HA3.out.block P (lt_of_heap KP.out)).trans KP.out)
                have KG3 := hid ((HA3.out.block G (lt_of_heap KG.out)).trans KG.out)
                have HB3 := hid (HB.out.alloc HB.out.size (.cells #[.int .i64 1, .string (y.extract 1 y.size)] 52))
                have u0 : (wr.alloc (.cells #[.int .i64 1, .string (y.extract 1 y.size)] 52)).cell? ⟨P, 0, none⟩ = some (.int .i64 (a : Nat)) := cell_of_blk KP3.out 0
                have u1 : (wr.alloc (.cells #[.int .i64 1, .string (y.extract 1 y.size)] 52)).cell? ⟨P, 1, none⟩ = some (.int .i64 (N : Nat)) := cell_of_blk KP3.out 1
                have u2 : (wr.alloc (.cells #[.int .i64 1, .string (y.extract 1 y.size)] 52)).cell? ⟨P, 2, none⟩ = some (.int .i64 (b : Nat)) := cell_of_blk KP3.out 2
                have u3 : (wr.alloc (.cells #[.int .i64 1, .string (y.extract 1 y.size)] 52)).cell? ⟨P, 3, none⟩ = some (.int .i64 (M : Nat)) := cell_of_blk KP3.out 3
                have u4 : (wr.alloc (.cells #[.int .i64 1, .string (y.extract 1 y.size)] 52)).cell? ⟨P, 4, none⟩ = some (.string hd) := cell_of_blk KP3.out 4
                have u5 : (wr.alloc (.cells #[.int .i64 1, .string (y.extract 1 y.size)] 52)).cell? ⟨P, 5, none⟩ = some (.slice va XL vc) := cell_of_blk KP3.out 5
                obtain ⟨X5, hX5⟩ : ∃ X5, X ++ [⟨1, (y.extract 1 y.size)⟩] = X5 := ⟨_, rfl⟩
                have HX5 : Hid (X5 = (acc ++ [((1 : Int), x.drop 1)]).map Un.toR) := hid (by rw [← hX5, HX.out, List.map_append]; congr 1; exact congrArg (fun q => [(⟨1, q⟩ : Rw)]) (HXD.out))
                have HL5 : Hid (X5.length = XL + 1) := hid (by rw [← hX5, List.length_append, HXL.out]; rfl)
                have HW4 : Hid (OwnW ((wr.alloc (.cells #[.int .i64 1, .string (y.extract 1 y.size)] 52)).alloc (.cells #[.int .i64 1, .string (y.extract 1 y.size)] 52)) (w.heap.size + 2) (.slice va XL vc) X) := hid ((HW.out.alloc _).alloc _)
                have HG4 : Hid (((wr.alloc (.cells #[.int .i64 1, .string (y.extract 1 y.size)] 52)).alloc (.cells #[.int .i64 1, .string (y.extract 1 y.size)] 52)).heap[wr.heap.size + 1]? = some (.cells #[.int .i64 1, .string (y.extract 1 y.size)] 52)) := hid (twoF wr (.cells #[.int .i64 1, .string (y.extract 1 y.size)] 52) (.cells #[.int .i64 1, .string (y.extract 1 y.size)] 52)).2.2
                have HS4 : Hid (w.heap.size + 2 ≤ ((wr.alloc (.cells #[.int .i64 1, .string (y.extract 1 y.size)] 52)).alloc (.cells #[.int .i64 1, .string (y.extract 1 y.size)] 52)).heap.size) := hid (Nat.le_trans HZ.out (twoF wr (.cells #[.int .i64 1, .string (y.extract 1 y.size)] 52) (.cells #[.int .i64 1, .string (y.extract 1 y.size)] 52)).1.size)
                have HB4 := hid (HB.out.trans ((twoF wr (.cells #[.int .i64 1, .string (y.extract 1 y.size)] 52) (.cells #[.int .i64 1, .string (y.extract 1 y.size)] 52)).1.mono HB.out.size))
                have KP4 := hid (((twoF wr (.cells #[.int .i64 1, .string (y.extract 1 y.size)] 52) (.cells #[.int .i64 1, .string (y.extract 1 y.size)] 52)).1.block P (lt_of_heap KP.out)).trans KP.out)
                have KG4 := hid (((twoF wr (.cells #[.int .i64 1, .string (y.extract 1 y.size)] 52) (.cells #[.int .i64 1, .string (y.extract 1 y.size)] 52)).1.block G (lt_of_heap KG.out)).trans KG.out)
                have HHX := hid hX5
                clear cc c92 he hdr hhd hxp hp10 hx hyx HXD hfull HM HF hX5 HA3 KP3 KG3 HB3
                go_wp2_with (at_builtin; refine wpList_append_row rfl _ _ rfl (w.heap.size + 2) _ X rfl HW4.out (wr.heap.size + 1) 1 (y.extract 1 y.size) rfl HG4.out HFIT.out HS4.out ?_; intro v5 w5 hO5 hg5 hl5 hb5; rw [HHX.out] at hO5; have HO5 := hid hO5; have KP5 := hid ((hg5.block P (lt_of_heap KP4.out) (fun e => by have := own_ge HW4.out P e.symm; have := HPB.out; omega)).trans KP4.out); have KG5 := hid ((hg5.block G (lt_of_heap KG4.out) (fun e => by have := own_ge HW4.out G e.symm; have := HGB.out; omega)).trans KG4.out); have HB5 := hid (HB4.out.trans (hb5.mono (Nat.le_add_right _ _))); obtain ⟨va5, vc5, rfl⟩ := own_shape hO5; clear hO5 hg5 hl5 hb5; have f5 : w5.frozen? ⟨P, 5, none⟩ = false := frozR KP5.out 5; have c5 : w5.cell? ⟨P, 5, none⟩ = some (.slice va XL vc) := cell_of_blk KP5.out 5)
                go_roundw
                case rel => exact ⟨k + 1, n2, m2, X5.length, vc5, true, acc ++ [(1, x.drop 1)], X5, va5, rfl, by first | rfl | exact congrArg (Value.int .i64) (by omega), by first | rfl | exact congrArg (Value.int .i64) (by omega), rfl, by omega, by omega, by omega, by have := HL5.out; omega, hid rfl, HX5, hid (setR w5 P 5 _ _ (.slice va5 X5.length vc5) KP5.out), hid ((Below.heap_setCell _ _ _ _ (by show G ≠ P; exact fun e => HPG.out e.symm)).trans KG5.out), hid (ownsRow_setCell_below HO5.out (a := ⟨P, 5, none⟩) HPB.out _), hid (below_set HB5.out HPW.out), hid (fun _ => by simp), hid (fun q hq => by rcases List.mem_append.1 hq with h | h; exact HSZ.out q h; rw [List.mem_singleton.1 h]; exact HDL1.out), hid (HE.out.symm.trans HI.out)⟩
                case measure => simp [intOf]; omega
            · have n32 := cc
              clear cc
              by_cases cc : y[0].toNat = 10
              · skip
                have HTEN : Hid ((⟨#[10]⟩ : ByteArray) = bB (x.drop 0)) := hid (by rw [is_ten hhd cc hxp hp10]; rfl)
                have HM := hid (mark_ten hhd cc hxp hp10)
                have g1 : ¬ ((N : Int) < (n2 : Int)) := by omega
                by_cases hmm : m1 = M
                · have g2 : (M : Int) < (m2 : Int) := by omega
                  have HE : Hid (Un.rowsD (ls.drop k) (N - n1) (M - m1) mk acc k = .bad k) := hid (by rw [hdr]; exact rowsD_less he HF.out HM.out (less_m1 (by omega)))
                  have t32 : ((y[0].toNat : Int) == 32) = false := ine (by omega)
                  have t10 : ((y[0].toNat : Int) == 10) = true := by rw [cc]; rfl
                  have HA3 := hid ((Below.refl wr.heap.size wr).alloc (Nat.le_refl _) (.cells #[.int .i64 1, .string ⟨#[10]⟩] 52))
                  have KP3 := hid ((HA3.out.block P (lt_of_heap KP.out)).trans KP.out)
                  have KG3 := hid ((HA3.out.block G (lt_of_heap KG.out)).trans KG.out)
                  have HB3 := hid (HB.out.alloc HB.out.size (.cells #[.int .i64 1, .string ⟨#[10]⟩] 52))
                  have u0 : (wr.alloc (.cells #[.int .i64 1, .string ⟨#[10]⟩] 52)).cell? ⟨P, 0, none⟩ = some (.int .i64 (a : Nat)) := cell_of_blk KP3.out 0
                  have u1 : (wr.alloc (.cells #[.int .i64 1, .string ⟨#[10]⟩] 52)).cell? ⟨P, 1, none⟩ = some (.int .i64 (N : Nat)) := cell_of_blk KP3.out 1
                  have u2 : (wr.alloc (.cells #[.int .i64 1, .string ⟨#[10]⟩] 52)).cell? ⟨P, 2, none⟩ = some (.int .i64 (b : Nat)) := cell_of_blk KP3.out 2
                  have u3 : (wr.alloc (.cells #[.int .i64 1, .string ⟨#[10]⟩] 52)).cell? ⟨P, 3, none⟩ = some (.int .i64 (M : Nat)) := cell_of_blk KP3.out 3
                  have u4 : (wr.alloc (.cells #[.int .i64 1, .string ⟨#[10]⟩] 52)).cell? ⟨P, 4, none⟩ = some (.string hd) := cell_of_blk KP3.out 4
                  have u5 : (wr.alloc (.cells #[.int .i64 1, .string ⟨#[10]⟩] 52)).cell? ⟨P, 5, none⟩ = some (.slice va XL vc) := cell_of_blk KP3.out 5
                  clear cc c92 he hdr hhd hxp hp10 hx hyx HXD hfull HM HF hn2 hm2
                  go_wp2_with (guard_target =~ wpList _ _ _ (_ :: _) _ _; refine wpList_stA 37 #[.int .i64 (a : Nat), .int .i64 (N : Nat), .int .i64 (b : Nat), .int .i64 (M : Nat), .string hd, .slice va XL vc] rfl rfl KG3.out sizeHk rfl rfl rfl rfl ?_; intro w8 hk8 hkp8; have y0 : w8.cell? ⟨G, 0, none⟩ = some (.int .i64 (a : Nat)) := cell_of_blk hk8 0; have y1 : w8.cell? ⟨G, 1, none⟩ = some (.int .i64 (N : Nat)) := cell_of_blk hk8 1; have y2 : w8.cell? ⟨G, 2, none⟩ = some (.int .i64 (b : Nat)) := cell_of_blk hk8 2; have y3 : w8.cell? ⟨G, 3, none⟩ = some (.int .i64 (M : Nat)) := cell_of_blk hk8 3; have y4 : w8.cell? ⟨G, 4, none⟩ = some (.string hd) := cell_of_blk hk8 4; have y5 : w8.cell? ⟨G, 5, none⟩ = some (.slice va XL vc) := cell_of_blk hk8 5; have HKP := hid hkp8; clear hk8 hkp8)
                  exact bodyPost_ret (v := .tuple #[.agg #[.int .i64 (a : Nat), .int .i64 (N : Nat), .int .i64 (b : Nat), .int .i64 (M : Nat), .string hd, .slice va XL vc], .int .i64 (k : Nat), .int .i64 111]) (by simp [results, Tryz.results35, go_sem, y0, y1, y2, y3, y4, y5]) rfl ⟨Kept.onto HB3.out HKP.out HGW.out (Nat.le_refl _), rwBad (by rw [← HI.out, HE.out])⟩
                · have g2 : ¬ ((M : Int) < (m2 : Int)) := by omega
                  have HE : Hid (Un.rowsD (ls.drop k) (N - n1) (M - m1) mk acc k = Un.rowsD (ls.drop (k + 1)) (N - n2) (M - m2) true (acc ++ [(1, x.drop 0)]) (k + 1)) := hid (by rw [hdr]; exact rowsD_step he HF.out HM.out (less_1 (by omega) (by omega) (by omega) (by omega)))
                  have t32 : ((y[0].toNat : Int) == 32) = false := ine (by omega)
                  have t10 : ((y[0].toNat : Int) == 10) = true := by rw [cc]; rfl
                  have HA3 := hid ((Below.refl wr.heap.size wr).alloc (Nat.le_refl _) (.cells #[.int .i64 1, .string ⟨#[10]⟩] 52))
                  have KP3 := hid ((HA3.out.block P (lt_of_heap KP.out)).trans KP.out)
                  have KG3 := hid ((HA3.out.block G (lt_of_heap KG.out)).trans KG.out)
                  have HB3 := hid (HB.out.alloc HB.out.size (.cells #[.int .i64 1, .string ⟨#[10]⟩] 52))
                  have u0 : (wr.alloc (.cells #[.int .i64 1, .string ⟨#[10]⟩] 52)).cell? ⟨P, 0, none⟩ = some (.int .i64 (a : Nat)) := cell_of_blk KP3.out 0
                  have u1 : (wr.alloc (.cells #[.int .i64 1, .string ⟨#[10]⟩] 52)).cell? ⟨P, 1, none⟩ = some (.int .i64 (N : Nat)) := cell_of_blk KP3.out 1
                  have u2 : (wr.alloc (.cells #[.int .i64 1, .string ⟨#[10]⟩] 52)).cell? ⟨P, 2, none⟩ = some (.int .i64 (b : Nat)) := cell_of_blk KP3.out 2
                  have u3 : (wr.alloc (.cells #[.int .i64 1, .string ⟨#[10]⟩] 52)).cell? ⟨P, 3, none⟩ = some (.int .i64 (M : Nat)) := cell_of_blk KP3.out 3
                  have u4 : (wr.alloc (.cells #[.int .i64 1, .string ⟨#[10]⟩] 52)).cell? ⟨P, 4, none⟩ = some (.string hd) := cell_of_blk KP3.out 4
                  have u5 : (wr.alloc (.cells #[.int .i64 1, .string ⟨#[10]⟩] 52)).cell? ⟨P, 5, none⟩ = some (.slice va XL vc) := cell_of_blk KP3.out 5
                  obtain ⟨X5, hX5⟩ : ∃ X5, X ++ [⟨1, ⟨#[10]⟩⟩] = X5 := ⟨_, rfl⟩
                  have HX5 : Hid (X5 = (acc ++ [((1 : Int), x.drop 0)]).map Un.toR) := hid (by rw [← hX5, HX.out, List.map_append]; congr 1; exact congrArg (fun q => [(⟨1, q⟩ : Rw)]) (HTEN.out))
                  have HL5 : Hid (X5.length = XL + 1) := hid (by rw [← hX5, List.length_append, HXL.out]; rfl)
                  have HW4 : Hid (OwnW ((wr.alloc (.cells #[.int .i64 1, .string ⟨#[10]⟩] 52)).alloc (.cells #[.int .i64 1, .string ⟨#[10]⟩] 52)) (w.heap.size + 2) (.slice va XL vc) X) := hid ((HW.out.alloc _).alloc _)
                  have HG4 : Hid (((wr.alloc (.cells #[.int .i64 1, .string ⟨#[10]⟩] 52)).alloc (.cells #[.int .i64 1, .string ⟨#[10]⟩] 52)).heap[wr.heap.size + 1]? = some (.cells #[.int .i64 1, .string ⟨#[10]⟩] 52)) := hid (twoF wr (.cells #[.int .i64 1, .string ⟨#[10]⟩] 52) (.cells #[.int .i64 1, .string ⟨#[10]⟩] 52)).2.2
                  have HS4 : Hid (w.heap.size + 2 ≤ ((wr.alloc (.cells #[.int .i64 1, .string ⟨#[10]⟩] 52)).alloc (.cells #[.int .i64 1, .string ⟨#[10]⟩] 52)).heap.size) := hid (Nat.le_trans HZ.out (twoF wr (.cells #[.int .i64 1, .string ⟨#[10]⟩] 52) (.cells #[.int .i64 1, .string ⟨#[10]⟩] 52)).1.size)
                  have HB4 := hid (HB.out.trans ((twoF wr (.cells #[.int .i64 1, .string ⟨#[10]⟩] 52) (.cells #[.int .i64 1, .string ⟨#[10]⟩] 52)).1.mono HB.out.size))
                  have KP4 := hid (((twoF wr (.cells #[.int .i64 1, .string ⟨#[10]⟩] 52) (.cells #[.int .i64 1, .string ⟨#[10]⟩] 52)).1.block P (lt_of_heap KP.out)).trans KP.out)
                  have KG4 := hid (((twoF wr (.cells #[.int .i64 1, .string ⟨#[10]⟩] 52) (.cells #[.int .i64 1, .string ⟨#[10]⟩] 52)).1.block G (lt_of_heap KG.out)).trans KG.out)
                  have HHX := hid hX5
                  clear cc c92 he hdr hhd hxp hp10 hx hyx HXD hfull HM HF hX5 HA3 KP3 KG3 HB3
                  go_wp2_with (at_builtin; refine wpList_append_row rfl _ _ rfl (w.heap.size + 2) _ X rfl HW4.out (wr.heap.size + 1) 1 ⟨#[10]⟩ rfl HG4.out HFIT.out HS4.out ?_; intro v5 w5 hO5 hg5 hl5 hb5; rw [HHX.out] at hO5; have HO5 := hid hO5; have KP5 := hid ((hg5.block P (lt_of_heap KP4.out) (fun e => by have := own_ge HW4.out P e.symm; have := HPB.out; omega)).trans KP4.out); have KG5 := hid ((hg5.block G (lt_of_heap KG4.out) (fun e => by have := own_ge HW4.out G e.symm; have := HGB.out; omega)).trans KG4.out); have HB5 := hid (HB4.out.trans (hb5.mono (Nat.le_add_right _ _))); obtain ⟨va5, vc5, rfl⟩ := own_shape hO5; clear hO5 hg5 hl5 hb5; have f5 : w5.frozen? ⟨P, 5, none⟩ = false := frozR KP5.out 5; have c5 : w5.cell? ⟨P, 5, none⟩ = some (.slice va XL vc) := cell_of_blk KP5.out 5)
                  go_roundw
                  case rel => exact ⟨k + 1, n2, m2, X5.length, vc5, true, acc ++ [(1, x.drop 0)], X5, va5, rfl, by first | rfl | exact congrArg (Value.int .i64) (by omega), by first | rfl | exact congrArg (Value.int .i64) (by omega), rfl, by omega, by omega, by omega, by have := HL5.out; omega, hid rfl, HX5, hid (setR w5 P 5 _ _ (.slice va5 X5.length vc5) KP5.out), hid ((Below.heap_setCell _ _ _ _ (by show G ≠ P; exact fun e => HPG.out e.symm)).trans KG5.out), hid (ownsRow_setCell_below HO5.out (a := ⟨P, 5, none⟩) HPB.out _), hid (below_set HB5.out HPW.out), hid (fun _ => by simp), hid (fun q hq => by rcases List.mem_append.1 hq with h | h; exact HSZ.out q h; rw [List.mem_singleton.1 h]; exact HDL0.out), hid (HE.out.symm.trans HI.out)⟩
                  case measure => simp [intOf]; omega
              · have n10 := cc
                clear cc
                by_cases cc : y[0].toNat = 45
                · skip
                  have HM := hid (mark_45 hhd cc)
                  have g1 : ¬ ((N : Int) < (n2 : Int)) := by omega
                  have g2 : ¬ ((M : Int) < (m1 : Int)) := by omega
                  have HE : Hid (Un.rowsD (ls.drop k) (N - n1) (M - m1) mk acc k = Un.rowsD (ls.drop (k + 1)) (N - n2) (M - m1) true (acc ++ [(2, x.drop 1)]) (k + 1)) := hid (by rw [hdr]; exact rowsD_step he HF.out HM.out (less_2 (by omega) (by omega) (by omega) (by omega)))
                  have t32 : ((y[0].toNat : Int) == 32) = false := ine (by omega)
                  have t10 : ((y[0].toNat : Int) == 10) = false := ine (by omega)
                  have t45 : ((y[0].toNat : Int) == 45) = true := by rw [cc]; rfl
                  have HA3 := hid ((Below.refl wr.heap.size wr).alloc (Nat.le_refl _) (.cells #[.int .i64 2, .string (y.extract 1 y.size)] 52))
                  have KP3 := hid ((HA3.out.block P (lt_of_heap KP.out)).trans KP.out)
                  have KG3 := hid ((HA3.out.block G (lt_of_heap KG.out)).trans KG.out)
                  have HB3 := hid (HB.out.alloc HB.out.size (.cells #[.int .i64 2, .string (y.extract 1 y.size)] 52))
                  have u0 : (wr.alloc (.cells #[.int .i64 2, .string (y.extract 1 y.size)] 52)).cell? ⟨P, 0, none⟩ = some (.int .i64 (a : Nat)) := cell_of_blk KP3.out 0
                  have u1 : (wr.alloc (.cells #[.int .i64 2, .string (y.extract 1 y.size)] 52)).cell? ⟨P, 1, none⟩ = some (.int .i64 (N : Nat)) := cell_of_blk KP3.out 1
                  have u2 : (wr.alloc (.cells #[.int .i64 2, .string (y.extract 1 y.size)] 52)).cell? ⟨P, 2, none⟩ = some (.int .i64 (b : Nat)) := cell_of_blk KP3.out 2
                  have u3 : (wr.alloc (.cells #[.int .i64 2, .string (y.extract 1 y.size)] 52)).cell? ⟨P, 3, none⟩ = some (.int .i64 (M : Nat)) := cell_of_blk KP3.out 3
                  have u4 : (wr.alloc (.cells #[.int .i64 2, .string (y.extract 1 y.size)] 52)).cell? ⟨P, 4, none⟩ = some (.string hd) := cell_of_blk KP3.out 4
                  have u5 : (wr.alloc (.cells #[.int .i64 2, .string (y.extract 1 y.size)] 52)).cell? ⟨P, 5, none⟩ = some (.slice va XL vc) := cell_of_blk KP3.out 5
                  obtain ⟨X5, hX5⟩ : ∃ X5, X ++ [⟨2, (y.extract 1 y.size)⟩] = X5 := ⟨_, rfl⟩
                  have HX5 : Hid (X5 = (acc ++ [((2 : Int), x.drop 1)]).map Un.toR) := hid (by rw [← hX5, HX.out, List.map_append]; congr 1; exact congrArg (fun q => [(⟨2, q⟩ : Rw)]) (HXD.out))
                  have HL5 : Hid (X5.length = XL + 1) := hid (by rw [← hX5, List.length_append, HXL.out]; rfl)
                  have HW4 : Hid (OwnW ((wr.alloc (.cells #[.int .i64 2, .string (y.extract 1 y.size)] 52)).alloc (.cells #[.int .i64 2, .string (y.extract 1 y.size)] 52)) (w.heap.size + 2) (.slice va XL vc) X) := hid ((HW.out.alloc _).alloc _)
                  have HG4 : Hid (((wr.alloc (.cells #[.int .i64 2, .string (y.extract 1 y.size)] 52)).alloc (.cells #[.int .i64 2, .string (y.extract 1 y.size)] 52)).heap[wr.heap.size + 1]? = some (.cells #[.int .i64 2, .string (y.extract 1 y.size)] 52)) := hid (twoF wr (.cells #[.int .i64 2, .string (y.extract 1 y.size)] 52) (.cells #[.int .i64 2, .string (y.extract 1 y.size)] 52)).2.2
                  have HS4 : Hid (w.heap.size + 2 ≤ ((wr.alloc (.cells #[.int .i64 2, .string (y.extract 1 y.size)] 52)).alloc (.cells #[.int .i64 2, .string (y.extract 1 y.size)] 52)).heap.size) := hid (Nat.le_trans HZ.out (twoF wr (.cells #[.int .i64 2, .string (y.extract 1 y.size)] 52) (.cells #[.int .i64 2, .string (y.extract 1 y.size)] 52)).1.size)
                  have HB4 := hid (HB.out.trans ((twoF wr (.cells #[.int .i64 2, .string (y.extract 1 y.size)] 52) (.cells #[.int .i64 2, .string (y.extract 1 y.size)] 52)).1.mono HB.out.size))
                  have KP4 := hid (((twoF wr (.cells #[.int .i64 2, .string (y.extract 1 y.size)] 52) (.cells #[.int .i64 2, .string (y.extract 1 y.size)] 52)).1.block P (lt_of_heap KP.out)).trans KP.out)
                  have KG4 := hid (((twoF wr (.cells #[.int .i64 2, .string (y.extract 1 y.size)] 52) (.cells #[.int .i64 2, .string (y.extract 1 y.size)] 52)).1.block G (lt_of_heap KG.out)).trans KG.out)
                  have HHX := hid hX5
                  clear cc c92 he hdr hhd hxp hp10 hx hyx HXD hfull HM HF hX5 HA3 KP3 KG3 HB3
                  go_wp2_with (at_builtin; refine wpList_append_row rfl _ _ rfl (w.heap.size + 2) _ X rfl HW4.out (wr.heap.size + 1) 2 (y.extract 1 y.size) rfl HG4.out HFIT.out HS4.out ?_; intro v5 w5 hO5 hg5 hl5 hb5; rw [HHX.out] at hO5; have HO5 := hid hO5; have KP5 := hid ((hg5.block P (lt_of_heap KP4.out) (fun e => by have := own_ge HW4.out P e.symm; have := HPB.out; omega)).trans KP4.out); have KG5 := hid ((hg5.block G (lt_of_heap KG4.out) (fun e => by have := own_ge HW4.out G e.symm; have := HGB.out; omega)).trans KG4.out); have HB5 := hid (HB4.out.trans (hb5.mono (Nat.le_add_right _ _))); obtain ⟨va5, vc5, rfl⟩ := own_shape hO5; clear hO5 hg5 hl5 hb5; have f5 : w5.frozen? ⟨P, 5, none⟩ = false := frozR KP5.out 5; have c5 : w5.cell? ⟨P, 5, none⟩ = some (.slice va XL vc) := cell_of_blk KP5.out 5)
                  go_roundw
                  case rel => exact ⟨k + 1, n2, m1, X5.length, vc5, true, acc ++ [(2, x.drop 1)], X5, va5, rfl, by first | rfl | exact congrArg (Value.int .i64) (by omega), by first | rfl | exact congrArg (Value.int .i64) (by omega), rfl, by omega, by omega, by omega, by have := HL5.out; omega, hid rfl, HX5, hid (setR w5 P 5 _ _ (.slice va5 X5.length vc5) KP5.out), hid ((Below.heap_setCell _ _ _ _ (by show G ≠ P; exact fun e => HPG.out e.symm)).trans KG5.out), hid (ownsRow_setCell_below HO5.out (a := ⟨P, 5, none⟩) HPB.out _), hid (below_set HB5.out HPW.out), hid (fun _ => by simp), hid (fun q hq => by rcases List.mem_append.1 hq with h | h; exact HSZ.out q h; rw [List.mem_singleton.1 h]; exact HDL1.out), hid (HE.out.symm.trans HI.out)⟩
                  case measure => simp [intOf]; omega
                · have n45 := cc
                  clear cc
                  by_cases cc : y[0].toNat = 43
                  · skip
                    have HM := hid (mark_43 hhd cc)
                    have g1 : ¬ ((N : Int) < (n1 : Int)) := by omega
                    by_cases hmm : m1 = M
                    · have g2 : (M : Int) < (m2 : Int) := by omega
                      have HE : Hid (Un.rowsD (ls.drop k) (N - n1) (M - m1) mk acc k = .bad k) := hid (by rw [hdr]; exact rowsD_less he HF.out HM.out (less_m3 (by omega)))
                      have t32 : ((y[0].toNat : Int) == 32) = false := ine (by omega)
                      have t10 : ((y[0].toNat : Int) == 10) = false := ine (by omega)
                      have t45 : ((y[0].toNat : Int) == 45) = false := ine (by omega)
                      have t43 : ((y[0].toNat : Int) == 43) = true := by rw [cc]; rfl
                      have HA3 := hid ((Below.refl wr.heap.size wr).alloc (Nat.le_refl _) (.cells #[.int .i64 3, .string (y.extract 1 y.size)] 52))
                      have KP3 := hid ((HA3.out.block P (lt_of_heap KP.out)).trans KP.out)
                      have KG3 := hid ((HA3.out.block G (lt_of_heap KG.out)).trans KG.out)
                      have HB3 := hid (HB.out.alloc HB.out.size (.cells #[.int .i64 3, .string (y.extract 1 y.size)] 52))
                      have u0 : (wr.alloc (.cells #[.int .i64 3, .string (y.extract 1 y.size)] 52)).cell? ⟨P, 0, none⟩ = some (.int .i64 (a : Nat)) := cell_of_blk KP3.out 0
                      have u1 : (wr.alloc (.cells #[.int .i64 3, .string (y.extract 1 y.size)] 52)).cell? ⟨P, 1, none⟩ = some (.int .i64 (N : Nat)) := cell_of_blk KP3.out 1
                      have u2 : (wr.alloc (.cells #[.int .i64 3, .string (y.extract 1 y.size)] 52)).cell? ⟨P, 2, none⟩ = some (.int .i64 (b : Nat)) := cell_of_blk KP3.out 2
                      have u3 : (wr.alloc (.cells #[.int .i64 3, .string (y.extract 1 y.size)] 52)).cell? ⟨P, 3, none⟩ = some (.int .i64 (M : Nat)) := cell_of_blk KP3.out 3
                      have u4 : (wr.alloc (.cells #[.int .i64 3, .string (y.extract 1 y.size)] 52)).cell? ⟨P, 4, none⟩ = some (.string hd) := cell_of_blk KP3.out 4
                      have u5 : (wr.alloc (.cells #[.int .i64 3, .string (y.extract 1 y.size)] 52)).cell? ⟨P, 5, none⟩ = some (.slice va XL vc) := cell_of_blk KP3.out 5
                      clear cc c92 he hdr hhd hxp hp10 hx hyx HXD hfull HM HF hn2 hm2
                      go_wp2_with (guard_target =~ wpList _ _ _ (_ :: _) _ _; refine wpList_stA 37 #[.int .i64 (a : Nat), .int .i64 (N : Nat), .int .i64 (b : Nat), .int .i64 (M : Nat), .string hd, .slice va XL vc] rfl rfl KG3.out sizeHk rfl rfl rfl rfl ?_; intro w8 hk8 hkp8; have y0 : w8.cell? ⟨G, 0, none⟩ = some (.int .i64 (a : Nat)) := cell_of_blk hk8 0; have y1 : w8.cell? ⟨G, 1, none⟩ = some (.int .i64 (N : Nat)) := cell_of_blk hk8 1; have y2 : w8.cell? ⟨G, 2, none⟩ = some (.int .i64 (b : Nat)) := cell_of_blk hk8 2; have y3 : w8.cell? ⟨G, 3, none⟩ = some (.int .i64 (M : Nat)) := cell_of_blk hk8 3; have y4 : w8.cell? ⟨G, 4, none⟩ = some (.string hd) := cell_of_blk hk8 4; have y5 : w8.cell? ⟨G, 5, none⟩ = some (.slice va XL vc) := cell_of_blk hk8 5; have HKP := hid hkp8; clear hk8 hkp8)
                      exact bodyPost_ret (v := .tuple #[.agg #[.int .i64 (a : Nat), .int .i64 (N : Nat), .int .i64 (b : Nat), .int .i64 (M : Nat), .string hd, .slice va XL vc], .int .i64 (k : Nat), .int .i64 111]) (by simp [results, Tryz.results35, go_sem, y0, y1, y2, y3, y4, y5]) rfl ⟨Kept.onto HB3.out HKP.out HGW.out (Nat.le_refl _), rwBad (by rw [← HI.out, HE.out])⟩
                    · have g2 : ¬ ((M : Int) < (m2 : Int)) := by omega
                      have HE : Hid (Un.rowsD (ls.drop k) (N - n1) (M - m1) mk acc k = Un.rowsD (ls.drop (k + 1)) (N - n1) (M - m2) true (acc ++ [(3, x.drop 1)]) (k + 1)) := hid (by rw [hdr]; exact rowsD_step he HF.out HM.out (less_3 (by omega) (by omega) (by omega) (by omega)))
                      have t32 : ((y[0].toNat : Int) == 32) = false := ine (by omega)
                      have t10 : ((y[0].toNat : Int) == 10) = false := ine (by omega)
                      have t45 : ((y[0].toNat : Int) == 45) = false := ine (by omega)
                      have t43 : ((y[0].toNat : Int) == 43) = true := by rw [cc]; rfl
                      have HA3 := hid ((Below.refl wr.heap.size wr).alloc (Nat.le_refl _) (.cells #[.int .i64 3, .string (y.extract 1 y.size)] 52))
                      have KP3 := hid ((HA3.out.block P (lt_of_heap KP.out)).trans KP.out)
                      have KG3 := hid ((HA3.out.block G (lt_of_heap KG.out)).trans KG.out)
                      have HB3 := hid (HB.out.alloc HB.out.size (.cells #[.int .i64 3, .string (y.extract 1 y.size)] 52))
                      have u0 : (wr.alloc (.cells #[.int .i64 3, .string (y.extract 1 y.size)] 52)).cell? ⟨P, 0, none⟩ = some (.int .i64 (a : Nat)) := cell_of_blk KP3.out 0
                      have u1 : (wr.alloc (.cells #[.int .i64 3, .string (y.extract 1 y.size)] 52)).cell? ⟨P, 1, none⟩ = some (.int .i64 (N : Nat)) := cell_of_blk KP3.out 1
                      have u2 : (wr.alloc (.cells #[.int .i64 3, .string (y.extract 1 y.size)] 52)).cell? ⟨P, 2, none⟩ = some (.int .i64 (b : Nat)) := cell_of_blk KP3.out 2
                      have u3 : (wr.alloc (.cells #[.int .i64 3, .string (y.extract 1 y.size)] 52)).cell? ⟨P, 3, none⟩ = some (.int .i64 (M : Nat)) := cell_of_blk KP3.out 3
                      have u4 : (wr.alloc (.cells #[.int .i64 3, .string (y.extract 1 y.size)] 52)).cell? ⟨P, 4, none⟩ = some (.string hd) := cell_of_blk KP3.out 4
                      have u5 : (wr.alloc (.cells #[.int .i64 3, .string (y.extract 1 y.size)] 52)).cell? ⟨P, 5, none⟩ = some (.slice va XL vc) := cell_of_blk KP3.out 5
                      obtain ⟨X5, hX5⟩ : ∃ X5, X ++ [⟨3, (y.extract 1 y.size)⟩] = X5 := ⟨_, rfl⟩
                      have HX5 : Hid (X5 = (acc ++ [((3 : Int), x.drop 1)]).map Un.toR) := hid (by rw [← hX5, HX.out, List.map_append]; congr 1; exact congrArg (fun q => [(⟨3, q⟩ : Rw)]) (HXD.out))
                      have HL5 : Hid (X5.length = XL + 1) := hid (by rw [← hX5, List.length_append, HXL.out]; rfl)
                      have HW4 : Hid (OwnW ((wr.alloc (.cells #[.int .i64 3, .string (y.extract 1 y.size)] 52)).alloc (.cells #[.int .i64 3, .string (y.extract 1 y.size)] 52)) (w.heap.size + 2) (.slice va XL vc) X) := hid ((HW.out.alloc _).alloc _)
                      have HG4 : Hid (((wr.alloc (.cells #[.int .i64 3, .string (y.extract 1 y.size)] 52)).alloc (.cells #[.int .i64 3, .string (y.extract 1 y.size)] 52)).heap[wr.heap.size + 1]? = some (.cells #[.int .i64 3, .string (y.extract 1 y.size)] 52)) := hid (twoF wr (.cells #[.int .i64 3, .string (y.extract 1 y.size)] 52) (.cells #[.int .i64 3, .string (y.extract 1 y.size)] 52)).2.2
                      have HS4 : Hid (w.heap.size + 2 ≤ ((wr.alloc (.cells #[.int .i64 3, .string (y.extract 1 y.size)] 52)).alloc (.cells #[.int .i64 3, .string (y.extract 1 y.size)] 52)).heap.size) := hid (Nat.le_trans HZ.out (twoF wr (.cells #[.int .i64 3, .string (y.extract 1 y.size)] 52) (.cells #[.int .i64 3, .string (y.extract 1 y.size)] 52)).1.size)
                      have HB4 := hid (HB.out.trans ((twoF wr (.cells #[.int .i64 3, .string (y.extract 1 y.size)] 52) (.cells #[.int .i64 3, .string (y.extract 1 y.size)] 52)).1.mono HB.out.size))
                      have KP4 := hid (((twoF wr (.cells #[.int .i64 3, .string (y.extract 1 y.size)] 52) (.cells #[.int .i64 3, .string (y.extract 1 y.size)] 52)).1.block P (lt_of_heap KP.out)).trans KP.out)
                      have KG4 := hid (((twoF wr (.cells #[.int .i64 3, .string (y.extract 1 y.size)] 52) (.cells #[.int .i64 3, .string (y.extract 1 y.size)] 52)).1.block G (lt_of_heap KG.out)).trans KG.out)
                      have HHX := hid hX5
                      clear cc c92 he hdr hhd hxp hp10 hx hyx HXD hfull HM HF hX5 HA3 KP3 KG3 HB3
                      go_wp2_with (at_builtin; refine wpList_append_row rfl _ _ rfl (w.heap.size + 2) _ X rfl HW4.out (wr.heap.size + 1) 3 (y.extract 1 y.size) rfl HG4.out HFIT.out HS4.out ?_; intro v5 w5 hO5 hg5 hl5 hb5; rw [HHX.out] at hO5; have HO5 := hid hO5; have KP5 := hid ((hg5.block P (lt_of_heap KP4.out) (fun e => by have := own_ge HW4.out P e.symm; have := HPB.out; omega)).trans KP4.out); have KG5 := hid ((hg5.block G (lt_of_heap KG4.out) (fun e => by have := own_ge HW4.out G e.symm; have := HGB.out; omega)).trans KG4.out); have HB5 := hid (HB4.out.trans (hb5.mono (Nat.le_add_right _ _))); obtain ⟨va5, vc5, rfl⟩ := own_shape hO5; clear hO5 hg5 hl5 hb5; have f5 : w5.frozen? ⟨P, 5, none⟩ = false := frozR KP5.out 5; have c5 : w5.cell? ⟨P, 5, none⟩ = some (.slice va XL vc) := cell_of_blk KP5.out 5)
                      go_roundw
                      case rel => exact ⟨k + 1, n1, m2, X5.length, vc5, true, acc ++ [(3, x.drop 1)], X5, va5, rfl, by first | rfl | exact congrArg (Value.int .i64) (by omega), by first | rfl | exact congrArg (Value.int .i64) (by omega), rfl, by omega, by omega, by omega, by have := HL5.out; omega, hid rfl, HX5, hid (setR w5 P 5 _ _ (.slice va5 X5.length vc5) KP5.out), hid ((Below.heap_setCell _ _ _ _ (by show G ≠ P; exact fun e => HPG.out e.symm)).trans KG5.out), hid (ownsRow_setCell_below HO5.out (a := ⟨P, 5, none⟩) HPB.out _), hid (below_set HB5.out HPW.out), hid (fun _ => by simp), hid (fun q hq => by rcases List.mem_append.1 hq with h | h; exact HSZ.out q h; rw [List.mem_singleton.1 h]; exact HDL1.out), hid (HE.out.symm.trans HI.out)⟩
                      case measure => simp [intOf]; omega
                  · have n43 := cc
                    clear cc
                    have HM := hid (mark_other hhd n32 n10 n45 n43)
                    have HE : Hid (Un.rowsD (ls.drop k) (N - n1) (M - m1) mk acc k = .bad k) := hid (by rw [hdr]; exact rowsD_no he HF.out HM.out)
                    have t32 : ((y[0].toNat : Int) == 32) = false := ine (by omega)
                    have t10 : ((y[0].toNat : Int) == 10) = false := ine (by omega)
                    have t45 : ((y[0].toNat : Int) == 45) = false := ine (by omega)
                    have t43 : ((y[0].toNat : Int) == 43) = false := ine (by omega)
                    have HA3 := hid ((Below.refl wr.heap.size wr).alloc (Nat.le_refl _) (.cells #[.int .i64 0, .string (y.extract 1 y.size)] 52))
                    have KP3 := hid ((HA3.out.block P (lt_of_heap KP.out)).trans KP.out)
                    have KG3 := hid ((HA3.out.block G (lt_of_heap KG.out)).trans KG.out)
                    have HB3 := hid (HB.out.alloc HB.out.size (.cells #[.int .i64 0, .string (y.extract 1 y.size)] 52))
                    have u0 : (wr.alloc (.cells #[.int .i64 0, .string (y.extract 1 y.size)] 52)).cell? ⟨P, 0, none⟩ = some (.int .i64 (a : Nat)) := cell_of_blk KP3.out 0
                    have u1 : (wr.alloc (.cells #[.int .i64 0, .string (y.extract 1 y.size)] 52)).cell? ⟨P, 1, none⟩ = some (.int .i64 (N : Nat)) := cell_of_blk KP3.out 1
                    have u2 : (wr.alloc (.cells #[.int .i64 0, .string (y.extract 1 y.size)] 52)).cell? ⟨P, 2, none⟩ = some (.int .i64 (b : Nat)) := cell_of_blk KP3.out 2
                    have u3 : (wr.alloc (.cells #[.int .i64 0, .string (y.extract 1 y.size)] 52)).cell? ⟨P, 3, none⟩ = some (.int .i64 (M : Nat)) := cell_of_blk KP3.out 3
                    have u4 : (wr.alloc (.cells #[.int .i64 0, .string (y.extract 1 y.size)] 52)).cell? ⟨P, 4, none⟩ = some (.string hd) := cell_of_blk KP3.out 4
                    have u5 : (wr.alloc (.cells #[.int .i64 0, .string (y.extract 1 y.size)] 52)).cell? ⟨P, 5, none⟩ = some (.slice va XL vc) := cell_of_blk KP3.out 5
                    clear n32 n10 n45 n43 c92 he hdr hhd hxp hp10 hx hyx HXD hfull HM HF hn2 hm2
                    go_wp2_with (guard_target =~ wpList _ _ _ (_ :: _) _ _; refine wpList_stA 37 #[.int .i64 (a : Nat), .int .i64 (N : Nat), .int .i64 (b : Nat), .int .i64 (M : Nat), .string hd, .slice va XL vc] rfl rfl KG3.out sizeHk rfl rfl rfl rfl ?_; intro w8 hk8 hkp8; have y0 : w8.cell? ⟨G, 0, none⟩ = some (.int .i64 (a : Nat)) := cell_of_blk hk8 0; have y1 : w8.cell? ⟨G, 1, none⟩ = some (.int .i64 (N : Nat)) := cell_of_blk hk8 1; have y2 : w8.cell? ⟨G, 2, none⟩ = some (.int .i64 (b : Nat)) := cell_of_blk hk8 2; have y3 : w8.cell? ⟨G, 3, none⟩ = some (.int .i64 (M : Nat)) := cell_of_blk hk8 3; have y4 : w8.cell? ⟨G, 4, none⟩ = some (.string hd) := cell_of_blk hk8 4; have y5 : w8.cell? ⟨G, 5, none⟩ = some (.slice va XL vc) := cell_of_blk hk8 5; have HKP := hid hkp8; clear hk8 hkp8)
                    exact bodyPost_ret (v := .tuple #[.agg #[.int .i64 (a : Nat), .int .i64 (N : Nat), .int .i64 (b : Nat), .int .i64 (M : Nat), .string hd, .slice va XL vc], .int .i64 (k : Nat), .int .i64 111]) (by simp [results, Tryz.results35, go_sem, y0, y1, y2, y3, y4, y5]) rfl ⟨Kept.onto HB3.out HKP.out HGW.out (Nat.le_refl _), rwBad (by rw [← HI.out, HE.out])⟩
    · have hke : k = LL := by omega
      have i1 : ¬ ((k : Int) < (LL : Int)) := by omega
      have i4 : ((k : Int) == (LL : Int)) = true := beq_iff_eq.2 (by omega)
      have hdr : ls.drop k = [] := List.drop_eq_nil_of_le (by have := HLL.out; omega)
      have z0 : wr.cell? ⟨P, 0, none⟩ = some (.int .i64 (a : Nat)) := cell_of_blk KP.out 0
      have z1 : wr.cell? ⟨P, 1, none⟩ = some (.int .i64 (N : Nat)) := cell_of_blk KP.out 1
      have z2 : wr.cell? ⟨P, 2, none⟩ = some (.int .i64 (b : Nat)) := cell_of_blk KP.out 2
      have z3 : wr.cell? ⟨P, 3, none⟩ = some (.int .i64 (M : Nat)) := cell_of_blk KP.out 3
      have z4 : wr.cell? ⟨P, 4, none⟩ = some (.string hd) := cell_of_blk KP.out 4
      have z5 : wr.cell? ⟨P, 5, none⟩ = some (.slice va XL vc) := cell_of_blk KP.out 5
      by_cases hfull : n1 = N ∧ m1 = M
      · obtain ⟨rfl, rfl⟩ := hfull
        have HE : Hid (Un.rowsD (ls.drop k) (n1 - n1) (m1 - m1) mk acc k = .ok acc (ls.drop k) k) := hid (by rw [hdr, Nat.sub_self, Nat.sub_self]; exact rowsD_full0)
        clear hdr hke
        go_wp2_with (guard_target =~ wpList _ _ _ (_ :: _) _ _; refine wpList_stA 37 #[.int .i64 (a : Nat), .int .i64 (n1 : Nat), .int .i64 (b : Nat), .int .i64 (m1 : Nat), .string hd, .slice va XL vc] rfl rfl KG.out sizeHk rfl rfl rfl rfl ?_; intro w8 hk8 hkp8; have y0 : w8.cell? ⟨G, 0, none⟩ = some (.int .i64 (a : Nat)) := cell_of_blk hk8 0; have y1 : w8.cell? ⟨G, 1, none⟩ = some (.int .i64 (n1 : Nat)) := cell_of_blk hk8 1; have y2 : w8.cell? ⟨G, 2, none⟩ = some (.int .i64 (b : Nat)) := cell_of_blk hk8 2; have y3 : w8.cell? ⟨G, 3, none⟩ = some (.int .i64 (m1 : Nat)) := cell_of_blk hk8 3; have y4 : w8.cell? ⟨G, 4, none⟩ = some (.string hd) := cell_of_blk hk8 4; have y5 : w8.cell? ⟨G, 5, none⟩ = some (.slice va XL vc) := cell_of_blk hk8 5; have HKP := hid hkp8; clear hk8 hkp8)
        exact bodyPost_ret (v := .tuple #[.agg #[.int .i64 (a : Nat), .int .i64 (n1 : Nat), .int .i64 (b : Nat), .int .i64 (m1 : Nat), .string hd, .slice va XL vc], .int .i64 (k : Nat), .int .i64 0]) (by simp [results, Tryz.results35, go_sem, y0, y1, y2, y3, y4, y5]) rfl ⟨Kept.onto HB.out HKP.out HGW.out (Nat.le_refl _), rwOk (by rw [← HI.out, HE.out]) (by rw [← HX.out]; exact own_setG HW.out HKP.out HGB.out) (by rw [← HLL.out]; exact hk)⟩
      · have HE : Hid (Un.rowsD (ls.drop k) (N - n1) (M - m1) mk acc k = .bad k) := hid (by rw [hdr]; exact rowsD_out (fun h => hfull (by omega)))
        clear hdr hke
        by_cases hn : n1 = N
        · have q1 : ((n1 : Int) == (N : Int)) = true := beq_iff_eq.2 (by omega)
          have q2 : ((m1 : Int) == (M : Int)) = false := ine (by omega)
          clear hfull hn
          go_wp2_with (guard_target =~ wpList _ _ _ (_ :: _) _ _; refine wpList_stA 37 #[.int .i64 (a : Nat), .int .i64 (N : Nat), .int .i64 (b : Nat), .int .i64 (M : Nat), .string hd, .slice va XL vc] rfl rfl KG.out sizeHk rfl rfl rfl rfl ?_; intro w8 hk8 hkp8; have y0 : w8.cell? ⟨G, 0, none⟩ = some (.int .i64 (a : Nat)) := cell_of_blk hk8 0; have y1 : w8.cell? ⟨G, 1, none⟩ = some (.int .i64 (N : Nat)) := cell_of_blk hk8 1; have y2 : w8.cell? ⟨G, 2, none⟩ = some (.int .i64 (b : Nat)) := cell_of_blk hk8 2; have y3 : w8.cell? ⟨G, 3, none⟩ = some (.int .i64 (M : Nat)) := cell_of_blk hk8 3; have y4 : w8.cell? ⟨G, 4, none⟩ = some (.string hd) := cell_of_blk hk8 4; have y5 : w8.cell? ⟨G, 5, none⟩ = some (.slice va XL vc) := cell_of_blk hk8 5; have HKP := hid hkp8; clear hk8 hkp8)
          exact bodyPost_ret (v := .tuple #[.agg #[.int .i64 (a : Nat), .int .i64 (N : Nat), .int .i64 (b : Nat), .int .i64 (M : Nat), .string hd, .slice va XL vc], .int .i64 (k : Nat), .int .i64 111]) (by simp [results, Tryz.results35, go_sem, y0, y1, y2, y3, y4, y5]) rfl ⟨Kept.onto HB.out HKP.out HGW.out (Nat.le_refl _), rwBad (by rw [← HI.out, HE.out])⟩
        · have q1 : ((n1 : Int) == (N : Int)) = false := ine (by omega)
          clear hfull hn
          go_wp2_with (guard_target =~ wpList _ _ _ (_ :: _) _ _; refine wpList_stA 37 #[.int .i64 (a : Nat), .int .i64 (N : Nat), .int .i64 (b : Nat), .int .i64 (M : Nat), .string hd, .slice va XL vc] rfl rfl KG.out sizeHk rfl rfl rfl rfl ?_; intro w8 hk8 hkp8; have y0 : w8.cell? ⟨G, 0, none⟩ = some (.int .i64 (a : Nat)) := cell_of_blk hk8 0; have y1 : w8.cell? ⟨G, 1, none⟩ = some (.int .i64 (N : Nat)) := cell_of_blk hk8 1; have y2 : w8.cell? ⟨G, 2, none⟩ = some (.int .i64 (b : Nat)) := cell_of_blk hk8 2; have y3 : w8.cell? ⟨G, 3, none⟩ = some (.int .i64 (M : Nat)) := cell_of_blk hk8 3; have y4 : w8.cell? ⟨G, 4, none⟩ = some (.string hd) := cell_of_blk hk8 4; have y5 : w8.cell? ⟨G, 5, none⟩ = some (.slice va XL vc) := cell_of_blk hk8 5; have HKP := hid hkp8; clear hk8 hkp8)
          exact bodyPost_ret (v := .tuple #[.agg #[.int .i64 (a : Nat), .int .i64 (N : Nat), .int .i64 (b : Nat), .int .i64 (M : Nat), .string hd, .slice va XL vc], .int .i64 (k : Nat), .int .i64 111]) (by simp [results, Tryz.results35, go_sem, y0, y1, y2, y3, y4, y5]) rfl ⟨Kept.onto HB.out HKP.out HGW.out (Nat.le_refl _), rwBad (by rw [← HI.out, HE.out])⟩
end Go.Proofs.YtobocdbehjcpjaaGreatDoor
/-
  Unified diffs, plain: hunks one behind the other, and the whole, as the document reads them: by a line's place in the list of lines.
-/
namespace Go.Proofs.YtobocdbehjcpjaaGreatDoor.Un
open Hu (Rw Hk)

def Rd.up (d : Nat) : Rd → Rd
  | .bad c => .bad (c + d)
  | .ok rows ls c => .ok rows ls (c + d)
theorem rowsD_up (d : Nat) : ∀ (ls : List Bs) (n m : Nat) (mk : Bool) (acc : List (Int × Bs)) (c : Nat), rowsD ls n m mk acc (c + d) = (rowsD ls n m mk acc c).up d
  | [], n, m, mk, acc, c => by
    rw [rowsD, rowsD]
    split <;> rfl
  | x :: ls, n, m, mk, acc, c => by
    rw [rowsD, rowsD]
    split
    · split
      · rw [show c + d + 1 = (c + 1) + d by omega]; exact rowsD_up d ls n m false (bareLast acc) (c + 1)
      · rfl
    · split
      · rfl
      · split
        · rfl
        · split
          · rfl
          · rw [show c + d + 1 = (c + 1) + d by omega]; exact rowsD_up d ls _ _ true _ (c + 1)
theorem behind_nil (d : Rd) : d.behind [] = d := by cases d <;> rfl
theorem rowsP_D (ls : List Bs) (n m c : Nat) : rowsP ls n m (c + 1) = (rowsD ls n m false [] c).up 1 := by
  rw [← rowsD_up, rows_eq, behind_nil]
/-- one hunk, as the document reads it -/
theorem hunksD_no {ls : List Bs} {k f : Nat} {acc : List Hk} (h : ls.drop k = []) : hunksF (f + 1) (ls.drop k) (k + 1) acc = .fin (k + 1) acc := by rw [h]; rfl
theorem hunksD_end {ls : List Bs} {k f : Nat} {x : Bs} {acc : List Hk} (h : ls[k]? = some x) (hb : begs x = false) : hunksF (f + 1) (ls.drop k) (k + 1) acc = .fin (k + 1) acc := by
  rw [dropAt h, hunksF, if_neg (by rw [hb]; exact Bool.false_ne_true)]
theorem hunksD_head {ls : List Bs} {k f : Nat} {x : Bs} {acc : List Hk} (h : ls[k]? = some x) (hb : begs x = true) (hp : placeD (bare x) = none) : hunksF (f + 1) (ls.drop k) (k + 1) acc = .bad (k + 1) 100 := by
  rw [dropAt h, hunksF, if_pos hb, place_eq, hp]
theorem hunksD_rows {ls : List Bs} {k f c : Nat} {x : Bs} {acc : List Hk} {p : Plc} (h : ls[k]? = some x) (hb : begs x = true) (hp : placeD (bare x) = some p) (hr : rowsD (ls.drop (k + 1)) p.n p.m false [] (k + 1) = .bad c) : hunksF (f + 1) (ls.drop k) (k + 1) acc = .bad (c + 1) 111 := by
  rw [dropAt h, hunksF, if_pos hb, place_eq, hp]
  simp only
  rw [rowsP_D, hr]
  rfl
theorem hunksD_ok {ls ls' : List Bs} {k f c : Nat} {x : Bs} {acc : List Hk} {p : Plc} {rows : List (Int × Bs)} (h : ls[k]? = some x) (hb : begs x = true) (hp : placeD (bare x) = some p) (hr : rowsD (ls.drop (k + 1)) p.n p.m false [] (k + 1) = .ok rows ls' c) :
    hunksF (f + 1) (ls.drop k) (k + 1) acc = if Hu.vld (mkHk p rows) then (if okO acc (mkHk p rows) then hunksF f (ls.drop c) (c + 1) (acc ++ [mkHk p rows]) else .bad (k + 1) 112) else .bad (k + 1) 100 := by
  have e : rowsP (ls.drop (k + 1)) p.n p.m (k + 1 + 1) = .ok rows ls' (c + 1) := by rw [rowsP_D, hr]; rfl
  have h2 := rowsP_drop _ _ _ _ _ _ _ _ (Nat.le_refl _) e
  have e2 : ls' = ls.drop c := by rw [h2.2, List.drop_drop]; congr 1; omega
  rw [dropAt h, hunksF, if_pos hb, place_eq, hp]
  simp only
  rw [e]
  simp only
  rw [e2]
theorem rowsD_lt {ls ls' : List Bs} {n m k c : Nat} {rows : List (Int × Bs)} (hr : rowsD (ls.drop k) n m false [] k = .ok rows ls' c) : k ≤ c := by
  have e : rowsP (ls.drop k) n m (k + 1) = .ok rows ls' (c + 1) := by rw [rowsP_D, hr]; rfl
  have := (rowsP_drop _ _ _ _ _ _ _ _ (Nat.le_refl _) e).1
  omega
/-- a header's line -/
theorem lns_0 (s : Bs) : (lns s)[0]? = if s = [] then none else some (nx s) := by
  by_cases e : s = []
  · subst e; rfl
  · rw [if_neg e, lns_cons e]; rfl
theorem lns_1 (s : Bs) : (lns s)[1]? = if adv s = [] then none else some (nx (adv s)) := by
  rw [← lns_0, lns_adv]
  cases lns s with
  | nil => rfl
  | cons x l => rfl
def hdrL (mark : Bs) (o : Option Bs) : Option (Bs × Bs) := match o with
  | none => none
  | some x => hdrD mark x
theorem hdrP_nil {mark : Bs} (h : mark ≠ []) : hdrP mark [] = none := by
  unfold hdrP
  cases mark with
  | nil => exact absurd rfl h
  | cons c t => rfl
theorem hdr_L {mark : Bs} (hk : (10 : UInt8) ∉ mark) (hm : mark ≠ []) (s : Bs) : hdrP mark (nx s) = hdrL mark (lns s)[0]? := by
  rw [lns_0]
  by_cases e : s = []
  · rw [if_pos e, e]; exact hdrP_nil hm
  · rw [if_neg e]; exact hdr_eq hk (nx_line e)
theorem hdr_L1 {mark : Bs} (hk : (10 : UInt8) ∉ mark) (hm : mark ≠ []) (s : Bs) : hdrP mark (nx (adv s)) = hdrL mark (lns s)[1]? := by
  rw [lns_1, ← lns_0]
  exact hdr_L hk hm (adv s)
/-- the whole, by the list of lines -/
theorem parse_D (s : Bs) (h : s.length ≤ 4194304) : parse s = match hdrL mkOld (lns s)[0]? with
  | none => .bad 1 110
  | some o => match hdrL mkNew (lns s)[1]? with
    | none => .bad 2 110
    | some q => match hunksF (s.length + 1) ((lns s).drop 2) (2 + 1) [] with
      | .bad c e => .bad c e
      | .ok hs c => .ok o q hs (s.drop (min ((lns s).take (c - 1)).flatten.length s.length)) := by
  unfold parse
  rw [if_neg (by omega), hdr_L (by decide) (by decide), hdr_L1 (by decide) (by decide), lns_advN]
  cases hdrL mkOld (lns s)[0]? with
  | none => rfl
  | some o =>
    simp only
    cases hdrL mkNew (lns s)[1]? with
    | none => rfl
    | some q =>
      simp only
      cases hunksF (s.length + 1) ((lns s).drop 2) (2 + 1) [] with
      | bad c e => rfl
      | ok hs c => simp only; rw [left_eq]
theorem lns_le (s : Bs) : (lns s).length ≤ s.length := lns_len _ s (Nat.le_refl _)
theorem lns_ok {s x : Bs} (h : x ∈ lns s) : (∃ p, x = p ++ [10] ∧ (10 : UInt8) ∉ p) ∧ x.length ≤ s.length + 1 := lns_line _ s (Nat.le_refl _) x h
theorem flat_le : ∀ (n : Nat) (s : Bs), s.length ≤ n → (lns s).flatten.length ≤ s.length + 1
  | 0, s, h => by
    have : s = [] := List.length_eq_zero_iff.1 (by omega)
    subst this; exact Nat.zero_le _
  | n + 1, s, h => by
    by_cases e : s = []
    · subst e; exact Nat.zero_le _
    · rw [lns_cons e, List.flatten_cons, List.length_append]
      have h1 := adv_lt e
      by_cases e2 : adv s = []
      · have : lns (s.drop (Go.Proofs.YtobocdbehjcpjaaGreatDoor.Pl.fl s)) = [] := by show lns (adv s) = []; rw [e2]; rfl
        rw [this]
        have := nx_size s
        simp; omega
      · have h2 := flat_le n (adv s) (by omega)
        have h3 : (lns (s.drop (Go.Proofs.YtobocdbehjcpjaaGreatDoor.Pl.fl s))).flatten.length ≤ (adv s).length + 1 := h2
        have h4 : (nx s).length ≤ Go.Proofs.YtobocdbehjcpjaaGreatDoor.Pl.fl s := by
          have := nx_len s
          have h5 : Go.Proofs.YtobocdbehjcpjaaGreatDoor.Pl.fl s < s.length := by
            unfold adv at e2
            rcases Nat.lt_or_ge (Go.Proofs.YtobocdbehjcpjaaGreatDoor.Pl.fl s) s.length with h' | h'
            · exact h'
            · exact absurd (List.drop_of_length_le h') e2
          omega
        have h5 : (adv s).length = s.length - Go.Proofs.YtobocdbehjcpjaaGreatDoor.Pl.fl s := by unfold adv; rw [List.length_drop]
        have h6 := Go.Proofs.YtobocdbehjcpjaaGreatDoor.Pl.fl_le s
        omega
theorem flat_take (s : Bs) (k : Nat) : ((lns s).take k).flatten.length ≤ s.length + 1 := by
  have h1 := flat_le _ s (Nat.le_refl _)
  have h2 : ((lns s).take k).flatten.length ≤ (lns s).flatten.length := by
    have := congrArg (fun l : List Bs => l.flatten.length) (List.take_append_drop k (lns s))
    simp only [List.flatten_append, List.length_append] at this
    omega
  omega
theorem rowsD_badLe : ∀ (ls : List Bs) (n m : Nat) (mk : Bool) (acc : List (Int × Bs)) (c c' : Nat), rowsD ls n m mk acc c = .bad c' → c' ≤ c + ls.length
  | [], n, m, mk, acc, c, c', h => by
    rw [rowsD] at h
    split at h
    · cases h
    · cases h; exact Nat.le_refl _
  | x :: ls, n, m, mk, acc, c, c', h => by
    rw [rowsD] at h
    rw [List.length_cons]
    split at h
    · split at h
      · have := rowsD_badLe ls n m false (bareLast acc) (c + 1) c' h; omega
      · cases h; omega
    · split at h
      · cases h
      · split at h
        · cases h; omega
        · split at h
          · cases h; omega
          · have := rowsD_badLe ls _ _ true _ (c + 1) c' h; omega
theorem pre_begs (x : Bs) : (pre mkB x).isSome = begs x := by
  unfold pre begs
  split
  · rename_i h; rw [h]; rfl
  · rename_i h; rw [Bool.not_eq_true] at h; rw [h]; rfl
end Go.Proofs.YtobocdbehjcpjaaGreatDoor.Un
