/-
  The walks of the document's Pieces and Parts.
-/
import Derived.Test.YtmlgggnjghkojabDoorR1
namespace Go.Proofs.YtmlgggnjghkojabDoor
open Go.RowKit

theorem Tryd.infoStr : (Tryd.prog.info? 9).map (fun i => (i.zero, i.size, i.bytes)) = some (some (.string ⟨#[]⟩), 1, 16) := by kernel_rfl

theorem pieces_hit (l : List UInt8) (fr k : Nat) (hk : l[k]? = some 47) (hfr : fr ≤ k) (hno : (47 : UInt8) ∉ (l.take k).drop fr) :
    Pp.pieces (l.drop fr) = (l.drop fr).take (k - fr) :: Pp.pieces (l.drop (k + 1)) := by
  have hlt : k < l.length := by
    rcases Nat.lt_or_ge k l.length with h | h
    · exact h
    · rw [List.getElem?_eq_none h] at hk; cases hk
  have e1 : l.drop k = 47 :: l.drop (k + 1) := by
    rw [List.drop_eq_getElem_cons hlt]
    rw [List.getElem?_eq_getElem hlt] at hk
    rw [Option.some.inj hk]
  have e2 : l.drop fr = (l.take k).drop fr ++ 47 :: l.drop (k + 1) := by
    rw [← e1]
    have : l = l.take k ++ l.drop k := (List.take_append_drop k l).symm
    conv => lhs; rw [this]
    rw [List.drop_append_of_le_length (by rw [List.length_take]; omega)]
  have el : ((l.take k).drop fr).length = k - fr := by rw [List.length_drop, List.length_take]; omega
  have e3 : (l.drop fr).take (k - fr) = (l.take k).drop fr := by
    rw [e2, ← el, List.take_left]
  rw [e3, e2, Pp.pieces_first _ _ hno]
theorem pieces_miss (l : List UInt8) (fr k : Nat) (c : UInt8) (hk : l[k]? = some c) (hc : c ≠ 47) (hfr : fr ≤ k) (hno : (47 : UInt8) ∉ (l.take k).drop fr) : (47 : UInt8) ∉ (l.take (k + 1)).drop fr := by
  have hlt : k < l.length := by
    rcases Nat.lt_or_ge k l.length with h | h
    · exact h
    · rw [List.getElem?_eq_none h] at hk; cases hk
  rw [List.take_add_one, hk, List.drop_append_of_le_length (by rw [List.length_take]; omega)]
  intro h
  rcases List.mem_append.1 h with h | h
  · exact hno h
  · simp at h; exact hc h.symm

set_option maxHeartbeats 2000000 in
set_option maxRecDepth 100000 in
theorem refPieces_any (s : ByteArray) (L : List (List UInt8)) (hL : Pp.pieces s.data.toList = L) (w : World) (hs : s.size ≤ 4294967296) :
    Calls Tryd.prog 20 #[.string s] w fun e w' => ∃ v, e = .returned v ∧ OwnS w' w.heap.size v L ∧ Below w.heap.size w w' := by
  obtain ⟨i0, hi, hz0, hz1, hz2⟩ := info_parts Tryd.infoStr
  have HP := hid hL
  have hlen : L.length ≤ s.size + 1 := by
    have := Pp.pieces_length s.data.toList
    rw [hL, size_data] at this
    exact this
  clear hL
  go_enter Tryd.func20, Tryd.ntmps20
  go_wp2
  go_loopw [3, 4, 5] (fun v f i wr => ∃ (k fr : Nat) (done : List (List UInt8)), k ≤ s.size + 1 ∧ fr ≤ k ∧ i = .int .i64 k ∧ f = .int .i64 fr ∧ OwnS wr w.heap.size v done ∧
      Hid ((k ≤ s.size ∧ L = done ++ Pp.pieces (s.data.toList.drop fr) ∧ (47 : UInt8) ∉ (s.data.toList.take k).drop fr) ∨ (k = s.size + 1 ∧ L = done)) ∧ Below w.heap.size w wr) (fun _ _ i _ => s.size + 1 - (intOf i).toNat)
  case atStart => exact ⟨0, 0, [], Nat.zero_le _, Nat.le_refl _, rfl, rfl, OwnS.nil _ _, hid (.inl ⟨Nat.zero_le _, HP.out.symm, by simp⟩), Below.refl _ _⟩
  case round =>
    obtain ⟨k, fr, done, hk, hfr, rfl, rfl, hown, HC, hb⟩ := hrel
    have HW := hid hb.size
    by_cases hle : k ≤ s.size
    · have HC1 : Hid (L = done ++ Pp.pieces (s.data.toList.drop fr) ∧ (47 : UInt8) ∉ (s.data.toList.take k).drop fr) := hid (by
        rcases HC.out with ⟨_, h1, h2⟩ | ⟨h1, _⟩
        · exact ⟨h1, h2⟩
        · omega)
      clear HC
      by_cases hcut : k = s.size ∨ ∃ h : k < s.size, s[k] = 47
      · have HN : Hid (Pp.pieces (s.data.toList.drop fr) = (s.extract fr k).data.toList :: (if k = s.size then [] else Pp.pieces (s.data.toList.drop (k + 1)))) := hid (by
          rw [Lib.extract_data]
          rcases hcut with rfl | ⟨h, h47⟩
          · rw [if_pos rfl]
            have h2 := HC1.out.2
            rw [take_all s _ (Nat.le_refl _)] at h2
            rw [Pp.pieces_none _ h2, List.take_of_length_le (by rw [List.length_drop, size_data]; exact Nat.le_refl _)]
          · rw [if_neg (by omega)]
            exact pieces_hit s.data.toList fr k (by rw [at_data s k h, h47]) hfr HC1.out.2)
        have hfit : (done.length + 1) * 16 ≤ 140737488355328 := by
          have h1 := HC1.out.1
          rw [HN.out] at h1
          have h2 := congrArg List.length h1
          rw [List.length_append, List.length_cons] at h2
          omega
        have HC2 : Hid ((k + 1 ≤ s.size ∧ L = (done ++ [(s.extract fr k).data.toList]) ++ Pp.pieces (s.data.toList.drop (k + 1)) ∧ (47 : UInt8) ∉ (s.data.toList.take (k + 1)).drop (k + 1)) ∨ (k + 1 = s.size + 1 ∧ L = done ++ [(s.extract fr k).data.toList])) := hid (by
          have h1 := HC1.out.1
          rw [HN.out] at h1
          rcases hcut with rfl | ⟨h, _⟩
          · rw [if_pos rfl] at h1
            exact .inr ⟨rfl, h1⟩
          · rw [if_neg (by omega)] at h1
            refine .inl ⟨by omega, ?_, ?_⟩
            · rw [h1, List.append_assoc]; rfl
            · rw [List.drop_eq_nil_of_le (by rw [List.length_take]; omega)]; simp)
        have htest : ((k : Int) == (s.size : Int)) = true ∨ (((k : Int) == (s.size : Int)) = false ∧ ∃ h : k < s.size, ((s[k].toNat : Int) == 47) = true) := by
          rcases hcut with rfl | ⟨h, h47⟩
          · exact .inl (beq_iff_eq.2 rfl)
          · exact .inr ⟨beq_eq_false_iff_ne.2 (by omega), h, beq_iff_eq.2 ((slash_iff _).2 h47)⟩
        clear hcut HN HC1
        rcases htest with t1 | ⟨t1, hlt, t2⟩
        all_goals
          go_wp2_with (at_builtin; refine wpList_append_own _ rfl _ _ 31 rfl w.heap.size 9 i0 (.string ⟨#[]⟩) 1 16 Tryd.underlying31 hi hz0 hz1 hz2 rfl (by decide) _ _ _ rfl (World.ownsRow.alloc hown _) ⟨wr.heap.size, 0, none⟩ 1 1 [.string (s.extract fr k)] rfl rfl ?c1 ?c2 ?c3 hfit ?c5 ?_)
          case c1 =>
            intro j u hj
            match j, hj with
            | 0, hj => simp at hj; subst hj; simp [Addr.add]
          case c2 => intro u hu; simp at hu; subst hu; rfl
          case c3 => unfold maxLen; omega
          case c5 => have := HW.out; simp; omega
          intro v' w3 hown3 hgrow3 _
          have hb3 : Below w.heap.size w w3 := (hb.alloc (hb.size) _).grown hgrow3 (by have := HW.out; simp; omega) hown.ge
          have hown4 : OwnS w3 w.heap.size v' (done ++ [(s.extract fr k).data.toList]) := by
            show w3.ownsRow _ _ _ _ _ _
            rw [SV_snoc, List.length_append]; exact hown3
          clear hown3 hgrow3 hown hb
          go_wp2
          go_roundw
          case rel => exact ⟨k + 1, k + 1, _, by omega, Nat.le_refl _, by go_num, by go_num, hown4, HC2, hb3⟩
          case measure => simp [intOf]; omega
      · have hlt : k < s.size := by
          rcases Nat.lt_or_ge k s.size with h | h
          · exact h
          · exact absurd (.inl (by omega)) hcut
        have hne : s[k] ≠ 47 := fun e => hcut (.inr ⟨hlt, e⟩)
        have t1 : ((k : Int) == (s.size : Int)) = false := beq_eq_false_iff_ne.2 (by omega)
        have t2 : ((s[k].toNat : Int) == 47) = false := beq_eq_false_iff_ne.2 fun x => hne ((slash_iff _).1 x)
        have HC2 : Hid ((k + 1 ≤ s.size ∧ L = done ++ Pp.pieces (s.data.toList.drop fr) ∧ (47 : UInt8) ∉ (s.data.toList.take (k + 1)).drop fr) ∨ (k + 1 = s.size + 1 ∧ L = done)) :=
          hid (.inl ⟨by omega, HC1.out.1, pieces_miss s.data.toList fr k _ (at_data s k hlt) hne hfr HC1.out.2⟩)
        clear hcut hne HC1
        go_wp2
        go_roundw
        case rel => exact ⟨k + 1, fr, done, by omega, by omega, by go_num, rfl, hown, HC2, hb⟩
        case measure => simp [intOf]; omega
    · have HL : Hid (L = done) := hid (by
        rcases HC.out with ⟨h1, _⟩ | ⟨_, h1⟩
        · omega
        · exact h1)
      clear HC
      go_wp2
      go_ret
      exact ⟨_, rfl, by rw [HL.out]; exact hown, hb⟩

set_option maxHeartbeats 2000000 in
set_option maxRecDepth 100000 in
theorem refParts_any (p : ByteArray) (w : World) :
    Calls Tryd.prog 16 #[.string p] w fun e w' => ∃ v, e = .returned (.tuple #[v, .int .i64 (Pp.parts p.data.toList).2]) ∧ OwnS w' w.heap.size v (Pp.parts p.data.toList).1 ∧ Below w.heap.size w w' := by
  by_cases h1 : 4096 < p.size
  · have HP := hid (parts_long (p := p.data.toList) (by rw [size_data]; exact h1))
    go_enter Tryd.func16, Tryd.ntmps16
    go_wp2
    go_ret2
    rw [HP.out]
    exact ⟨_, rfl, OwnS.nil _ _, Below.refl _ _⟩
  · by_cases h2 : p.size = 0
    · have HP := hid (parts_nil (nil_data p h2))
      have t2 := empty_yes p h2
      clear h2
      go_enter Tryd.func16, Tryd.ntmps16
      go_wp2
      go_ret2
      rw [HP.out]
      exact ⟨_, rfl, OwnS.nil _ _, Below.refl _ _⟩
    · have t2 := empty_no p h2
      have H1 : Hid (¬ 4096 < p.data.toList.length) := hid (by rw [size_data]; exact h1)
      have H2 : Hid (p.data.toList ≠ []) := hid (fun e => h2 (data_nil p e))
      have hpl := Pp.pieces_length p.data.toList
      have hpn := Pp.pieces_ne p.data.toList
      rw [size_data] at hpl
      obtain ⟨L, hL⟩ : ∃ L, Pp.pieces p.data.toList = L := ⟨_, rfl⟩
      rw [hL] at hpl hpn
      have HL := hid hL
      clear h2 hL
      go_enter Tryd.func16, Tryd.ntmps16
      go_wp2_with fail
      refine (refPieces_any p L HL.out _ (by omega)).mono ?_
      rintro e w1 ⟨v, rfl, hown, hb1⟩
      have HO := hid hown
      rcases rd_own hown with ⟨h0, _⟩ | ⟨b, o, c, rfl, hc, hlt, hcells⟩
      · exact absurd (BL_inj (r := []) h0) hpn
      have HX := hid hcells
      rw [BL_length]
      rw [BL_length] at HO
      clear hown hcells hpn hc
      go_wp2
      go_loop [5] (fun i => ∃ k : Nat, k ≤ L.length ∧ i = .int .i64 k ∧ Hid (((DL (BL L)).take k).any Pp.bad = false)) (fun i => L.length - (intOf i).toNat)
      case atStart => exact ⟨0, Nat.zero_le _, rfl, (rfl : ((DL (BL L)).take 0).any Pp.bad = false)⟩
      case round =>
        obtain ⟨k, hk, rfl, HT⟩ := hrel
        by_cases hkl : k < L.length
        · obtain ⟨x, hx⟩ : ∃ x, (BL L)[k]? = some x := ⟨_, List.getElem?_eq_getElem (by rw [BL_length]; exact hkl)⟩
          have cx := HX.out k x hx
          have Hx := hid hx
          clear hx
          by_cases hz : Pp.nameN x.data.toList = 0
          · have HS := hid (names_snoc Hx.out hz HT.out)
            have HZ := hid hz
            clear hz
            go_wp2_with fail
            refine (refName_any x _).mono ?_
            rintro e w2 ⟨rfl, rfl⟩
            rw [HZ.out]
            go_wp2
            go_round
            case rel => exact ⟨k + 1, by omega, by go_num, HS⟩
            case measure => simp [intOf]; omega
          · have HJ : Hid (Pp.parts p.data.toList = ([], 30)) := hid (by
              have h1 := names_hit Hx.out hz
              rw [DL_BL] at h1
              have h2 : Pp.nameN x.data.toList = 30 := by
                unfold Pp.nameN at hz ⊢
                cases hb : Pp.bad x.data.toList with
                | true => rfl
                | false => rw [hb] at hz; exact absurd rfl hz
              rw [parts_bad H1.out H2.out (by rw [HL.out, h1]; exact hz), HL.out, h1, h2])
            have hne : ((Pp.nameN x.data.toList : Int) != 0) = true := by rw [bne_iff_ne]; omega
            clear hz
            go_wp2_with fail
            refine (refName_any x _).mono ?_
            rintro e w2 ⟨rfl, rfl⟩
            go_wp2
            go_ret2
            rw [HJ.out]
            exact ⟨_, rfl, OwnS.nil _ _, hb1⟩
        · have HZ : Hid (Pp.namesN L = 0) := hid (by
            have := names_last (xs := BL L) (k := k) (by rw [BL_length]; omega) HT.out
            rwa [DL_BL] at this)
          clear HT
          by_cases h4 : 64 < L.length
          · have HJ := hid (parts_deep H1.out H2.out (by rw [HL.out]; exact HZ.out) (by rw [HL.out]; exact h4))
            go_wp2
            go_ret2
            rw [HJ.out]
            exact ⟨_, rfl, OwnS.nil _ _, hb1⟩
          · have HJ := hid (parts_good H1.out H2.out (by rw [HL.out]; exact HZ.out) (by rw [HL.out]; exact h4))
            go_wp2
            go_ret2
            rw [HJ.out]
            exact ⟨_, rfl, by rw [HL.out]; exact HO.out, hb1⟩
end Go.Proofs.YtmlgggnjghkojabDoor
