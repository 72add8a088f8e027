/-
  The walk of the document's Split, and of its Count: for every text whose lines' headers fit into memory.
-/
import Derived.Test.YtghdlfpjbmohbaaSplit
namespace Go.Proofs.Ytghdlfpjbmohbaa
open Go.RowKit

theorem ref_hit (l : List UInt8) (fr k : Nat) (hk : l[k]? = some 10) (hfr : fr ≤ k) (hno : (10 : UInt8) ∉ (l.take k).drop fr) :
    Pl.cut (l.drop fr) = [(l.drop fr).take (k + 1 - fr)] ++ Pl.cut (l.drop (k + 1)) := by
  have hlt : k < l.length := by
    rcases Nat.lt_or_ge k l.length with h | h
    · exact h
    · rw [List.getElem?_eq_none h] at hk; cases hk
  have e1 : l.drop k = 10 :: l.drop (k + 1) := by
    rw [List.drop_eq_getElem_cons hlt]
    rw [List.getElem?_eq_getElem hlt] at hk
    rw [Option.some.inj hk]
  have e2 : l.drop fr = (l.take k).drop fr ++ 10 :: l.drop (k + 1) := by
    rw [← e1]
    have : l = l.take k ++ l.drop k := (List.take_append_drop k l).symm
    conv => lhs; rw [this]
    rw [List.drop_append_of_le_length (by rw [List.length_take]; omega)]
  have el : ((l.take k).drop fr).length = k - fr := by rw [List.length_drop, List.length_take]; omega
  have e3 : (l.drop fr).take (k + 1 - fr) = (l.take k).drop fr ++ [10] := by
    rw [e2]
    have : k + 1 - fr = ((l.take k).drop fr ++ [10]).length := by rw [List.length_append, el]; simp; omega
    rw [this, show (l.take k).drop fr ++ 10 :: l.drop (k + 1) = ((l.take k).drop fr ++ [10]) ++ l.drop (k + 1) by simp, List.take_left]
  rw [e3, e2, Pl.cut_first _ _ hno]
  rfl
theorem ref_miss (l : List UInt8) (fr k : Nat) (c : UInt8) (hk : l[k]? = some c) (hc : c ≠ 10) (hfr : fr ≤ k) (hno : (10 : UInt8) ∉ (l.take k).drop fr) : (10 : UInt8) ∉ (l.take (k + 1)).drop fr := by
  have hlt : k < l.length := by
    rcases Nat.lt_or_ge k l.length with h | h
    · exact h
    · rw [List.getElem?_eq_none h] at hk; cases hk
  rw [List.take_add_one, hk, List.drop_append_of_le_length (by rw [List.length_take]; omega)]
  intro h
  rcases List.mem_append.1 h with h | h
  · exact hno h
  · simp at h; exact hc h.symm

theorem own_ge {w : World} {base n : Nat} {e : TypeId} {size : Nat} {v : Value} {xs : List Value} (h : w.ownsRow base e size v n xs) : ∀ k, v.ownBlock = some k → base ≤ k := by
  intro k hk
  rcases h.2 with ⟨hv, _⟩ | ⟨g, cap, cur, hv, hg, _⟩
  · subst hv; cases hk
  · subst hv; cases hk; exact hg
theorem SV_snoc (done : List (List UInt8)) (a : ByteArray) : SV (done ++ [a.data.toList]) = SV done ++ [.string a] := by rw [SV_append, SV_one]

set_option maxHeartbeats 2000000 in
theorem refSplit_any (s : ByteArray) (w : World) (hs : s.size < 4611686018427387904) (hn : Pl.num s.data.toList * 16 ≤ 140737488355328) :
    Calls Try.prog 11 #[.string s] w fun e w' => ∃ v, e = .returned v ∧
      w'.ownsRow w.heap.size 9 1 v (Pl.cut s.data.toList).length (SV (Pl.cut s.data.toList)) ∧ Below w.heap.size w w' := by
  obtain ⟨i0, hi, hz0, hz1, hz2⟩ := info_parts Try.info9
  rw [Pl.num_eq] at hn
  have HN := hid hn
  clear hn
  go_enter Try.func11, Try.ntmps11
  go_wp2
  go_loopw [3, 4, 5] (fun v f i wr => ∃ (k fr : Nat) (done : List (List UInt8)), k ≤ s.size ∧ fr ≤ k ∧ i = .int .i64 k ∧ f = .int .i64 fr ∧
      wr.ownsRow w.heap.size 9 1 v done.length (SV done) ∧ Pl.cut s.data.toList = done ++ Pl.cut (s.data.toList.drop fr) ∧ (10 : UInt8) ∉ (s.data.toList.take k).drop fr ∧ Below w.heap.size w wr) (fun _ _ i _ => s.size - (intOf i).toNat)
  case atStart => exact ⟨0, 0, [], Nat.zero_le _, Nat.le_refl _, rfl, rfl, World.ownsRow_nil _ _ _ _, rfl, by simp, Below.refl _ _⟩
  case round =>
    obtain ⟨k, fr, done, hk, hfr, rfl, rfl, hown, hcut, hno, hb⟩ := hrel
    have HC := hid hcut
    have HO := hid hno
    clear hcut hno
    by_cases hlt : k < s.size
    · have hat := hid (byte_at s k hlt)
      cases he : ((s[k].toNat : Int) == 10) with
      | true =>
        have e2 := (ten_iff _).1 (beq_iff_eq.1 he)
        have hp := hid (ref_hit s.data.toList fr k (by rw [hat.out, e2]) hfr HO.out)
        have hfit : (done.length + 1) * 16 ≤ 140737488355328 := by
          have := HN.out
          rw [HC.out, hp.out, List.length_append, List.length_append, List.length_singleton] at this
          omega
        clear e2
        go_wp2_with (at_builtin; refine wpList_append_own _ rfl _ _ 23 rfl w.heap.size 9 i0 (.string ⟨#[]⟩) 1 16 Try.underlying23 hi hz0 hz1 hz2 rfl (by decide) _ _ _ rfl (hown.alloc _) ⟨wr.heap.size, 0, none⟩ 1 1 [.string (s.extract fr (k + 1))] rfl rfl ?c1 ?c2 ?c3 hfit ?c5 ?_)
        case c1 =>
          intro j u hj
          match j, hj with
          | 0, hj => simp at hj; subst hj; simp [Addr.add]
        case c2 => intro u hu; simp at hu; subst hu; rfl
        case c3 => unfold maxLen; omega
        case c5 => have := hb.size; simp; omega
        intro v' w3 hown3 hgrow3 _
        have hb3 : Below w.heap.size w w3 := (hb.alloc (hb.size) _).grown hgrow3 (by have := hb.size; simp; omega) (own_ge hown)
        have hown4 : w3.ownsRow w.heap.size 9 1 v' (done ++ [(s.extract fr (k + 1)).data.toList]).length (SV (done ++ [(s.extract fr (k + 1)).data.toList])) := by
          rw [SV_snoc, List.length_append]; exact hown3
        have hcut' : Pl.cut s.data.toList = (done ++ [(s.extract fr (k + 1)).data.toList]) ++ Pl.cut (s.data.toList.drop (k + 1)) := by
          rw [HC.out, hp.out, Lib.extract_data, List.append_assoc]
        have HC2 := hid hcut'
        clear hown3 hgrow3 hown hb hcut'
        go_wp2
        go_roundw
        case rel => exact ⟨k + 1, k + 1, _, by omega, Nat.le_refl _, by go_num, by go_num, hown4, HC2.out, by rw [List.drop_eq_nil_of_le (by rw [List.length_take]; omega)]; simp, hb3⟩
        case measure => simp [intOf]; omega
      | false =>
        have e2 : s[k] ≠ 10 := fun x => (beq_eq_false_iff_ne.1 he) ((ten_iff _).2 x)
        have hm := hid (ref_miss s.data.toList fr k _ hat.out e2 hfr HO.out)
        clear e2
        go_wp2
        go_roundw
        case rel => exact ⟨k + 1, fr, done, by omega, by omega, by go_num, rfl, hown, HC.out, hm.out, hb⟩
        case measure => simp [intOf]; omega
    · have hks : k = s.size := by omega
      subst hks
      have hall : (10 : UInt8) ∉ s.data.toList.drop fr := by
        have := HO.out
        rw [← size_data, List.take_length] at this
        exact this
      by_cases hf : fr < s.size
      · have hlast : Pl.cut (s.data.toList.drop fr) = [(s.extract fr s.size).data.toList] := by
          have e : (s.extract fr s.size).data.toList = s.data.toList.drop fr := by
            rw [Lib.extract_data, List.take_of_length_le (by rw [List.length_drop, size_data]; omega)]
          rw [e]
          refine Pl.cut_last _ hall ?_
          intro e0
          have := congrArg List.length e0
          rw [List.length_drop, size_data, List.length_nil] at this
          omega
        have hfit : (done.length + 1) * 16 ≤ 140737488355328 := by
          have := HN.out
          rw [HC.out, hlast, List.length_append, List.length_singleton] at this
          exact this
        have hcut' : Pl.cut s.data.toList = done ++ [(s.extract fr s.size).data.toList] := by rw [HC.out, hlast]
        have HC2 := hid hcut'
        clear hall hlast hcut'
        go_wp2_with (at_builtin; refine wpList_append_own _ rfl _ _ 23 rfl w.heap.size 9 i0 (.string ⟨#[]⟩) 1 16 Try.underlying23 hi hz0 hz1 hz2 rfl (by decide) _ _ _ rfl (hown.alloc _) ⟨wr.heap.size, 0, none⟩ 1 1 [.string (s.extract fr s.size)] rfl rfl ?d1 ?d2 ?d3 hfit ?d5 ?_)
        case d1 =>
          intro j u hj
          match j, hj with
          | 0, hj => simp at hj; subst hj; simp [Addr.add]
        case d2 => intro u hu; simp at hu; subst hu; rfl
        case d3 => unfold maxLen; omega
        case d5 => have := hb.size; simp; omega
        intro v' w3 hown3 hgrow3 _
        have hb3 : Below w.heap.size w w3 := (hb.alloc (hb.size) _).grown hgrow3 (by have := hb.size; simp; omega) (own_ge hown)
        have hown4 : w3.ownsRow w.heap.size 9 1 v' (Pl.cut s.data.toList).length (SV (Pl.cut s.data.toList)) := by
          rw [HC2.out, SV_snoc, List.length_append]; exact hown3
        clear hown3 hgrow3 hown hb
        go_wp2
        go_ret
        exact ⟨v', rfl, hown4, hb3⟩
      · have hnil : s.data.toList.drop fr = [] := List.drop_eq_nil_of_le (by rw [size_data]; omega)
        have hcut' : Pl.cut s.data.toList = done := by rw [HC.out, hnil, Pl.cut_nil, List.append_nil]
        have HC2 := hid hcut'
        clear hall hnil hcut'
        go_wp2
        go_ret
        exact ⟨_, rfl, by rw [HC2.out]; exact hown, hb⟩
end Go.Proofs.Ytghdlfpjbmohbaa
