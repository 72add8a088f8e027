/-
  The walks of the document's Safe and Below.
-/
import Derived.Test.YtmlgggnjghkojaaGreatDoorP7
import Derived.Test.YtmlgggnjghkojaaGreatDoorR4
namespace Go.Proofs.YtmlgggnjghkojaaGreatDoor
open Go.RowKit

theorem list_eq_iff (s : ByteArray) (l : List UInt8) (h : s.data.toList = l) : s.toList = l := (ByteArray.toList_eq s).trans h
theorem head_cases (s : ByteArray) : ((Pp.pieces s.data.toList).headD [] = []) ↔ (s.size = 0 ∨ ∃ h : 0 < s.size, s[0] = 47) := by
  rw [Pp.head_nil]
  constructor
  · rintro (h | h)
    · exact .inl (data_nil s h)
    · rcases Nat.eq_zero_or_pos s.size with k | k
      · exact .inl k
      · refine .inr ⟨k, ?_⟩
        have e := drop_head s 0 k
        rw [List.drop_zero] at e
        rw [e] at h
        exact Option.some.inj h
  · rintro (h | ⟨h, h47⟩)
    · exact .inl (nil_data s h)
    · refine .inr ?_
      have e := drop_head s 0 h
      rw [List.drop_zero] at e
      rw [e, h47]; rfl
theorem filter_snoc {L : List (List UInt8)} {k : Nat} {x : List UInt8} (hx : L[k]? = some x) : (L.take (k + 1)).filter (fun x => !Pp.nowhere x) = (L.take k).filter (fun x => !Pp.nowhere x) ++ (if Pp.nowhere x then [] else [x]) := by
  rw [List.take_add_one, hx, List.filter_append]
  congr 1
  cases h : Pp.nowhere x <;> simp [h]

set_option maxHeartbeats 4000000 in
set_option maxRecDepth 100000 in
theorem refSafe_any (s : ByteArray) (w : World) (hs : s.size ≤ 4294967296) :
    Calls Tryz.prog 17 #[.string s] w fun e w' => e = .returned (.tuple #[.string ⟨(Pp.safe s.data.toList).1.toArray⟩, .int .i64 (Pp.safe s.data.toList).2]) ∧ Below w.heap.size w w' := by
  obtain ⟨i0, hi, hz0, hz1, hz2⟩ := info_parts Tryz.infoStr
  have hpl := Pp.pieces_length s.data.toList
  have hpn := Pp.pieces_ne s.data.toList
  rw [size_data] at hpl
  obtain ⟨L, hL⟩ : ∃ L, Pp.pieces s.data.toList = L := ⟨_, rfl⟩
  have hhd := head_cases s
  rw [hL] at hpl hpn hhd
  have HL := hid hL
  clear hL
  by_cases h0 : s.size = 0
  · have HS := hid (safe_head HL.out (hhd.2 (.inl h0)))
    have t := empty_yes s h0
    clear h0 hhd
    go_enter Tryz.func17, Tryz.ntmps17
    go_wp2
    go_ret2
    exact ⟨by rw [HS.out]; rfl, Below.refl _ _⟩
  · have t := empty_no s h0
    have hpos : 0 < s.size := by omega
    by_cases h47 : s[0] = 47
    · have HS := hid (safe_head HL.out (hhd.2 (.inr ⟨hpos, h47⟩)))
      have e1 : ((s[0].toNat : Int) == 47) = true := beq_iff_eq.2 ((slash_iff _).2 h47)
      clear h0 hhd h47
      go_enter Tryz.func17, Tryz.ntmps17
      go_wp2
      go_ret2
      exact ⟨by rw [HS.out]; rfl, Below.refl _ _⟩
    · have e1 : ((s[0].toNat : Int) == 47) = false := beq_eq_false_iff_ne.2 fun x => h47 ((slash_iff _).1 x)
      have HN1 : Hid (L.headD [] ≠ []) := hid (fun e => by
        rcases hhd.1 e with h | ⟨_, h⟩
        · exact h0 h
        · exact h47 h)
      clear h0 hhd h47
      go_enter Tryz.func17, Tryz.ntmps17
      go_wp2_with fail
      refine (refPieces_any s L HL.out _ hs).mono ?_
      rintro e w1 ⟨v, rfl, hown, hb1⟩
      rcases rd_own hown with ⟨h0, _⟩ | ⟨b, o, c, rfl, hc, hlt, hcells⟩
      · exact absurd (BL_inj (r := []) h0) hpn
      have HX := hid hcells
      rw [BL_length]
      clear hown hcells hpn hc
      go_wp2
      go_loopw [5, 6] (fun v i wr => ∃ k : Nat, k ≤ L.length ∧ i = .int .i64 k ∧ OwnS wr w1.heap.size v ((L.take k).filter fun x => !Pp.nowhere x) ∧ Below w1.heap.size w1 wr ∧ Hid ([46, 46] ∉ L.take k)) (fun _ i _ => L.length - (intOf i).toNat)
      case atStart => exact ⟨0, Nat.zero_le _, rfl, OwnS.nil _ _, Below.refl _ _, hid (by simp)⟩
      case round =>
        obtain ⟨k, hk, rfl, hown, hB, HU⟩ := hrel
        have HW := hid hB.size
        by_cases hkl : k < L.length
        · obtain ⟨x, hx⟩ : ∃ x, L[k]? = some x := ⟨_, List.getElem?_eq_getElem hkl⟩
          obtain ⟨X, hX⟩ : ∃ X : ByteArray, X = ⟨x.toArray⟩ := ⟨_, rfl⟩
          have hXd : X.data.toList = x := by rw [hX]
          have hbx : (BL L)[k]? = some X := by unfold BL; rw [List.getElem?_map, hx, hX]; rfl
          have cx : wr.cell? ⟨b, o + k, none⟩ = some (.string X) := (hB.cell (p := ⟨b, o + k, none⟩) hlt).trans (HX.out k X hbx)
          have ed := (ByteArray.toList_eq X).trans hXd
          have Hx := hid hx
          by_cases hup : x = [46, 46]
          · have HS := hid (safe_up HL.out (by rw [← hup]; exact List.mem_of_getElem? hx))
            have d2 : X.toList = [46, 46] := ed.trans hup
            have b2 : (X.toList == [46, 46]) = true := beq_iff_eq.2 d2
            clear hup ed hXd hX hbx hx
            go_wp2
            go_ret2
            exact ⟨by rw [HS.out]; rfl, hb1.trans (hB.mono hb1.size)⟩
          · have d2 : ¬ X.toList = [46, 46] := fun e => hup (ed.symm.trans e)
            have b2 : (X.toList == [46, 46]) = false := beq_eq_false_iff_ne.2 d2
            have HU2 : Hid ([46, 46] ∉ L.take (k + 1)) := hid (by
              rw [List.take_add_one, hx]
              intro e
              rcases List.mem_append.1 e with e | e
              · exact HU.out e
              · simp at e; exact hup e.symm)
            have hfs := filter_snoc hx
            by_cases hw : Pp.nowhere x = true
            · have HF : Hid ((L.take (k + 1)).filter (fun x => !Pp.nowhere x) = (L.take k).filter fun x => !Pp.nowhere x) := hid (by rw [hfs, hw]; simp)
              have hnw : X.size = 0 ∨ X.toList = [46] := by
                unfold Pp.nowhere at hw
                rw [Bool.or_eq_true, beq_iff_eq, beq_iff_eq] at hw
                rcases hw with h | h
                · exact .inl (data_nil X (hXd.trans h))
                · exact .inr (ed.trans h)
              clear hup ed hXd hX hbx hx hfs hw
              rcases hnw with h | d1
              · have t3 := empty_yes X h
                clear h
                go_wp2
                go_roundw
                case rel => exact ⟨k + 1, by omega, by go_num, by rw [HF.out]; exact hown, hB, HU2⟩
                case measure => simp [intOf]; omega
              · have t3 : X.toList.isEmpty = false := by rw [d1]; rfl
                have b1 : (X.toList == [46]) = true := beq_iff_eq.2 d1
                go_wp2
                go_roundw
                case rel => exact ⟨k + 1, by omega, by go_num, by rw [HF.out]; exact hown, hB, HU2⟩
                case measure => simp [intOf]; omega
            · have hw' : Pp.nowhere x = false := by simpa using hw
              have HF : Hid ((L.take (k + 1)).filter (fun x => !Pp.nowhere x) = ((L.take k).filter fun x => !Pp.nowhere x) ++ [X.data.toList]) := hid (by rw [hfs, hw', hXd]; simp)
              have hn2 : X.size ≠ 0 ∧ ¬ X.toList = [46] := by
                unfold Pp.nowhere at hw'
                rw [Bool.or_eq_false_iff, beq_eq_false_iff_ne, beq_eq_false_iff_ne] at hw'
                exact ⟨fun h => hw'.1 (hXd.symm.trans (nil_data X h)), fun h => hw'.2 (ed.symm.trans h)⟩
              have t3 := empty_no X hn2.1
              have d1 := hn2.2
              have b1 : (X.toList == [46]) = false := beq_eq_false_iff_ne.2 d1
              have hfl : ((L.take k).filter fun x => !Pp.nowhere x).length ≤ k := Nat.le_trans (List.length_filter_le _ _) (by rw [List.length_take]; omega)
              obtain ⟨F, hF⟩ : ∃ F, ((L.take k).filter fun x => !Pp.nowhere x) = F := ⟨_, rfl⟩
              rw [hF] at hfl hown HF
              have hfit : (F.length + 1) * 16 ≤ 140737488355328 := by omega
              clear hup ed hXd hX hbx hx hfs hw hw' hn2 hF
              go_wp2_with (at_builtin; refine wpList_append_own _ rfl _ _ 22 rfl w1.heap.size 9 i0 (.string ⟨#[]⟩) 1 16 Tryz.underlying22 hi hz0 hz1 hz2 rfl (by decide) _ _ _ rfl (World.ownsRow.alloc hown _) ⟨wr.heap.size, 0, none⟩ 1 1 [.string X] rfl rfl ?c1 ?c2 ?c3 hfit ?c5 ?_)
              case c1 =>
                intro j u hj
                match j, hj with
                | 0, hj => simp at hj; subst hj; simp [Addr.add]
              case c2 => intro u hu; simp at hu; subst hu; rfl
              case c3 => unfold maxLen; omega
              case c5 => have := HW.out; simp; omega
              intro v' w3 hown3 hgrow3 _
              have hb3 : Below w1.heap.size w1 w3 := (hB.alloc (hB.size) _).grown hgrow3 (by have := HW.out; simp; omega) hown.ge
              have hown4 : OwnS w3 w1.heap.size v' (F ++ [X.data.toList]) := by
                show w3.ownsRow _ _ _ _ _ _
                rw [SV_snoc, List.length_append]; exact hown3
              clear hown3 hgrow3 hown hB
              go_wp2
              go_roundw
              case rel => exact ⟨k + 1, by omega, by go_num, by rw [HF.out]; exact hown4, hb3, HU2⟩
              case measure => simp [intOf]; omega
        · have HU3 : Hid ([46, 46] ∉ L) := hid (by
            have := HU.out
            rwa [List.take_of_length_le (by omega)] at this)
          rw [List.take_of_length_le (by omega)] at hown
          have hfl : (L.filter fun x => !Pp.nowhere x).length ≤ L.length := List.length_filter_le _ _
          obtain ⟨F, hF⟩ : ∃ F, (L.filter fun x => !Pp.nowhere x) = F := ⟨_, rfl⟩
          rw [hF] at hown hfl
          have HF := hid hF
          have HR := hid (rd_own hown)
          obtain ⟨a, c', rfl⟩ := hown.shape
          have hB2 := hb1.trans (hB.mono hb1.size)
          clear HU hown hF
          by_cases hf0 : F.length = 0
          · have HS := hid (safe_none HL.out HN1.out HU3.out (HF.out.trans (List.length_eq_zero_iff.1 hf0)))
            have t2 : ((F.length : Int) == 0) = true := beq_iff_eq.2 (by omega)
            clear hf0
            go_wp2
            go_ret2
            exact ⟨by rw [HS.out]; rfl, hB2⟩
          · have HS := hid (safe_some HL.out HN1.out HU3.out (fun e => hf0 (by rw [← HF.out, e]; rfl)))
            have t2 : ((F.length : Int) == 0) = false := beq_eq_false_iff_ne.2 (by omega)
            have hbn : (BL F).length ≤ 140737488355328 := by rw [BL_length]; omega
            clear hf0
            go_wp2_with fail
            refine (refJoin_rd HR.out hbn).mono ?_
            rintro e w4 ⟨rfl, rfl⟩
            rw [DL_BL]
            go_wp2
            go_ret2
            exact ⟨by rw [HS.out, HF.out]; rfl, hB2⟩

/-! ### Below -/
theorem rbelow_same (d : List UInt8) : Pp.below d d = true := by
  unfold Pp.below
  cases d with
  | nil => rfl
  | cons c r => simp
theorem rbelow_unlike {d p : ByteArray} (h0 : d.size ≠ 0) (h : p.data.toList.take d.size ≠ d.data.toList) : Pp.below d.data.toList p.data.toList = false := by
  refine below_no (fun e => h0 (data_nil d e)) ?_
  unfold Lib.hasPrefix
  cases hp : d.data.toList.isPrefixOf p.data.toList with
  | false => rfl
  | true =>
    obtain ⟨r, hr⟩ := List.isPrefixOf_iff_prefix.1 hp
    refine absurd ?_ h
    rw [← hr, ← size_data, List.take_left]
theorem rbelow_short {d p : ByteArray} (h0 : d.size ≠ 0) (h : p.data.toList ≠ d.data.toList) (hs : ¬ d.size < p.size) : Pp.below d.data.toList p.data.toList = false := by
  refine rbelow_unlike h0 fun e => h ?_
  rwa [List.take_of_length_le (by rw [size_data]; omega)] at e
theorem rbelow_last {d p : ByteArray} (h0 : d.size ≠ 0) (hs : d.size < p.size) (h : p.data.toList.take d.size = d.data.toList) : Pp.below d.data.toList p.data.toList = (p[d.size] == 47) := by
  have hp : Lib.hasPrefix p.data.toList d.data.toList = true := by
    unfold Lib.hasPrefix
    refine List.isPrefixOf_iff_prefix.2 ⟨p.data.toList.drop d.size, ?_⟩
    conv => lhs; rw [← h]
    exact List.take_append_drop _ _
  rw [below_yes (fun e => h0 (data_nil d e)) hp]
  unfold Lib.trimPrefix
  rw [if_pos hp, size_data, drop_head p d.size hs]
  unfold Lib.hasPrefix
  simp [List.isPrefixOf]
  rw [Bool.eq_iff_iff, beq_iff_eq, beq_iff_eq]
  exact eq_comm

set_option maxHeartbeats 1000000 in
theorem refBelow_any (d p : ByteArray) (w : World) :
    Calls Tryz.prog 19 #[.string d, .string p] w fun e w' => e = .returned (.bool (Pp.below d.data.toList p.data.toList)) ∧ Below w.heap.size w w' := by
  by_cases h0 : d.size = 0
  · have HB := hid (below_nil (p := p.data.toList) (nil_data d h0))
    have t := empty_yes d h0
    clear h0
    go_enter Tryz.func19, Tryz.ntmps19
    go_wp2
    go_ret
    exact ⟨by rw [HB.out]; rfl, Below.refl _ _⟩
  · have t := empty_no d h0
    have hbe := bytes_eq p d
    by_cases he : p.data.toList = d.data.toList
    · have HB : Hid (Pp.below d.data.toList p.data.toList = true) := hid (by rw [he]; exact rbelow_same _)
      rw [decide_eq_true he] at hbe
      clear he h0
      go_enter Tryz.func19, Tryz.ntmps19
      go_wp2
      go_ret
      exact ⟨by rw [HB.out]; rfl, Below.refl _ _⟩
    · rw [decide_eq_false he] at hbe
      by_cases hs : d.size < p.size
      · have hde : decide ((d.size : Int) < (p.size : Int)) = true := decide_eq_true (by omega)
        have hxe := bytes_eq (p.extract 0 d.size) d
        rw [Lib.extract_from_zero] at hxe
        by_cases ht : p.data.toList.take d.size = d.data.toList
        · have HB := hid (rbelow_last h0 hs ht)
          rw [decide_eq_true ht] at hxe
          clear he h0 ht
          by_cases h47 : p[d.size] = 47
          · have HF : Hid (Pp.below d.data.toList p.data.toList = true) := hid (by rw [HB.out, h47]; rfl)
            have e1 : ((p[d.size].toNat : Int) == 47) = true := beq_iff_eq.2 ((slash_iff _).2 h47)
            clear h47 HB
            go_enter Tryz.func19, Tryz.ntmps19
            go_wp2
            go_ret
            exact ⟨by rw [HF.out]; rfl, Below.refl _ _⟩
          · have HF : Hid (Pp.below d.data.toList p.data.toList = false) := hid (by rw [HB.out]; exact beq_eq_false_iff_ne.2 h47)
            have e1 : ((p[d.size].toNat : Int) == 47) = false := beq_eq_false_iff_ne.2 fun x => h47 ((slash_iff _).1 x)
            clear h47 HB
            go_enter Tryz.func19, Tryz.ntmps19
            go_wp2
            go_ret
            exact ⟨by rw [HF.out]; rfl, Below.refl _ _⟩
        · have HF := hid (rbelow_unlike h0 ht)
          rw [decide_eq_false ht] at hxe
          clear he h0 ht
          go_enter Tryz.func19, Tryz.ntmps19
          go_wp2
          go_ret
          exact ⟨by rw [HF.out]; rfl, Below.refl _ _⟩
      · have HF := hid (rbelow_short h0 he hs)
        have hde : decide ((d.size : Int) < (p.size : Int)) = false := decide_eq_false (by omega)
        clear he h0
        go_enter Tryz.func19, Tryz.ntmps19
        go_wp2
        go_ret
        exact ⟨by rw [HF.out]; rfl, Below.refl _ _⟩
end Go.Proofs.YtmlgggnjghkojaaGreatDoor
