/-
  The walk of the document's Go.
-/
import Derived.Test.YtmlgggnjghkojabDoorR6
import Derived.Test.YtmlgggnjghkojabDoorAp2
namespace Go.Proofs.YtmlgggnjghkojabDoor
open Go.RowKit

theorem head_slash (r : ByteArray) : (r.data.toList.head? = some 47) ↔ ∃ h : 0 < r.size, r[0] = 47 := by
  constructor
  · intro h
    rcases Nat.eq_zero_or_pos r.size with k | k
    · rw [nil_data r k] at h; cases h
    · refine ⟨k, ?_⟩
      have e := drop_head r 0 k
      rw [List.drop_zero] at e
      rw [e] at h
      exact Option.some.inj h
  · rintro ⟨h, h47⟩
    have e := drop_head r 0 h
    rw [List.drop_zero] at e
    rw [e, h47]; rfl

set_option maxHeartbeats 8000000 in
set_option maxRecDepth 100000 in
theorem refGo_any (f r : ByteArray) (w : World) :
    Calls Tryd.prog 8 #[.string f, .string r] w fun e w' => e = .returned (.tuple #[.string ⟨(Pp.go f.data.toList r.data.toList).1.toArray⟩, .int .i64 (Pp.go f.data.toList r.data.toList).2]) ∧ Below w.heap.size w w' := by
  obtain ⟨A, hA⟩ : ∃ A, (Pp.parts f.data.toList).1 = A := ⟨_, rfl⟩
  obtain ⟨E, hE⟩ : ∃ E, (Pp.parts f.data.toList).2 = E := ⟨_, rfl⟩
  have HA := hid hA
  have HE := hid hE
  have hAl : E = 0 → A.length ≤ 64 := fun h => by rw [← hA]; exact (Pp.parts_ok (hE.trans h)).2.1
  clear hA hE
  go_enter Tryd.func8, Tryd.ntmps8
  go_wp2_with fail
  refine (refParts_any f _).mono ?_
  rintro e w1 ⟨v, rfl, hown, hb1⟩
  rw [HE.out]
  rw [HA.out] at hown
  by_cases hz : E = 0
  · subst hz
    have hAl' := hAl rfl
    have HO := hid hown
    clear hAl hown
    by_cases hrl : 4096 < r.size
    · have HG := hid (go_long (r := r.data.toList) HE.out (by rw [size_data]; exact hrl))
      go_wp2
      go_ret2
      exact ⟨by rw [HG.out]; rfl, hb1⟩
    · have H2 : Hid (¬ 4096 < r.data.toList.length) := hid (by rw [size_data]; exact hrl)
      by_cases hrt : ∃ h : 0 < r.size, r[0] = 47
      · have HG := hid (go_root HE.out H2.out ((head_slash r).2 hrt))
        obtain ⟨hp, h47⟩ := hrt
        have t0 := empty_no r (by omega)
        have e1 : ((r[0].toNat : Int) == 47) = true := beq_iff_eq.2 ((slash_iff _).2 h47)
        clear h47
        go_wp2
        go_ret2
        exact ⟨by rw [HG.out]; rfl, hb1⟩
      · have H3 : Hid (r.data.toList.head? ≠ some 47) := hid (fun e => hrt ((head_slash r).1 e))
        have hpl := Pp.pieces_length r.data.toList
        have hpn := Pp.pieces_ne r.data.toList
        rw [size_data] at hpl
        obtain ⟨L, hL⟩ : ∃ L, Pp.pieces r.data.toList = L := ⟨_, rfl⟩
        rw [hL] at hpl hpn
        have HL := hid hL
        have htest : r.toList.isEmpty = true ∨ (r.toList.isEmpty = false ∧ ∃ h : 0 < r.size, ((r[0].toNat : Int) == 47) = false) := by
          rcases Nat.eq_zero_or_pos r.size with h | h
          · exact .inl (empty_yes r h)
          · exact .inr ⟨empty_no r (by omega), h, beq_eq_false_iff_ne.2 fun x => hrt ⟨h, (slash_iff _).1 x⟩⟩
        clear hL hrt
        have hfit : A.length * 16 ≤ 140737488355328 := by omega
        rcases htest with t0 | ⟨t0, hp0, t1⟩
        all_goals
          go_wp2_with (at_builtin; refine wpList_append_copy rfl _ _ rfl w.heap.size _ A rfl rfl HO.out hfit ?_)
          intro v2 w2 hown2 hb2
          have hB2 := hb1.trans (hb2.mono hb1.size)
          have HO2 := hid (hown2.mono hb1.size)
          clear hown2 hb2
          go_wp2_with fail
          refine (refPieces_any r L HL.out _ (by omega)).mono ?_
          rintro e w3 ⟨v3, rfl, hown3, hb3⟩
          have HO3 := hid (HO2.out.stays hb3)
          have hB3 := hB2.trans (hb3.mono hB2.size)
          obtain ⟨a3, c3, rfl⟩ := hown3.shape
          have hr3 := rd_own hown3
          rw [← BL_length L] at hr3
          obtain ⟨g3, o3, rfl, hc3⟩ := rd_block hr3 (by rw [BL_length]; exact List.length_pos_iff.2 hpn)
          have hlt3 : g3 < w3.heap.size := by
            obtain ⟨x, hx⟩ : ∃ x, (BL L)[0]? = some x := ⟨_, List.getElem?_eq_getElem (by rw [BL_length]; exact List.length_pos_iff.2 hpn)⟩
            have h := hc3 0 x hx
            rcases Nat.lt_or_ge g3 w3.heap.size with k | k
            · exact k
            · have hn : w3.heap[g3]? = none := Array.getElem?_eq_none k
              simp [World.cell?, hn] at h
          have HX := hid hc3
          clear hown3 hb3 hr3 hc3 HO2 hB2
          go_wp2
          go_loopw [8, 10, 11] (fun u i _ wr => ∃ (k : Nat) (a : List (List UInt8)), k ≤ L.length ∧ i = .int .i64 k ∧ OwnS wr w.heap.size u a ∧ a.length ≤ 64 + k ∧ Below w3.heap.size w3 wr ∧ Hid (Pp.walk A L = Pp.walk a (L.drop k))) (fun _ i _ _ => L.length - (intOf i).toNat)
          case atStart => exact ⟨0, A, Nat.zero_le _, rfl, HO3.out, by omega, Below.refl _ _, (rfl : Pp.walk A L = _)⟩
          case round =>
            obtain ⟨k, a, hk, rfl, hownr, hal, hBr, HK⟩ := hrel
            have hzr := hBr.size
            have hBw := hB3.trans (hBr.mono hB3.size)
            have HOR := hid hownr
            obtain ⟨ar, cr, rfl⟩ := hownr.shape
            clear hownr
            by_cases hkl : k < L.length
            · obtain ⟨x, hx⟩ : ∃ x, L[k]? = some x := ⟨_, List.getElem?_eq_getElem hkl⟩
              obtain ⟨X, hX⟩ : ∃ X : ByteArray, X = ⟨x.toArray⟩ := ⟨_, rfl⟩
              have hXd : X.data.toList = x := by rw [hX]
              have hbx : (BL L)[k]? = some X := by unfold BL; rw [List.getElem?_map, hx, hX]; rfl
              have cx : wr.cell? ⟨g3, o3 + k, none⟩ = some (.string X) := (hBr.cell (p := ⟨g3, o3 + k, none⟩) hlt3).trans (HX.out k X hbx)
              have ed := ByteArray.toList_eq X
              have HD : Hid (Pp.walk A L = if (stepP a X.data.toList).2 = 0 then Pp.walk (stepP a X.data.toList).1 (L.drop (k + 1)) else ([], (stepP a X.data.toList).2)) := hid (by
                rw [HK.out, List.drop_eq_getElem_cons hkl, walk_step, hXd]
                rw [List.getElem?_eq_getElem hkl] at hx
                rw [Option.some.inj hx])
              clear hX hXd hbx hx HK
              have fail_ : ∀ e4 : Nat, e4 ≠ 0 → (stepP a X.data.toList).2 = e4 → Pp.go f.data.toList r.data.toList = ([], e4) := fun e4 hz he => by
                have hd := HD.out
                rw [he, if_neg hz] at hd
                have h4 : Pp.walk (Pp.parts f.data.toList).1 (Pp.pieces r.data.toList) = ([], e4) := by rw [HA.out, HL.out]; exact hd
                rw [go_bad HE.out H2.out H3.out (by rw [h4]; exact hz), h4]
              have HFL := hid fail_
              have pass_ : ∀ a4, stepP a X.data.toList = (a4, 0) → Hid (Pp.walk A L = Pp.walk a4 (L.drop (k + 1))) := fun a4 he => hid (by
                have hd := HD.out
                rw [he] at hd
                exact hd)
              have HPS := hid pass_
              clear fail_ pass_ HD
              by_cases hw : Pp.nowhere X.data.toList = true
              · have HK2 := HPS.out a (by unfold stepP; rw [hw]; rfl)
                have hnw : X.size = 0 ∨ X.toList = [46] := by
                  unfold Pp.nowhere at hw
                  rw [Bool.or_eq_true, beq_iff_eq, beq_iff_eq] at hw
                  rcases hw with h | h
                  · exact .inl (data_nil X h)
                  · exact .inr (ed.trans h)
                clear hw ed
                rcases hnw with h | d1
                · have t3 := empty_yes X h
                  clear h
                  go_wp2
                  go_roundw
                  case rel => exact ⟨k + 1, a, by omega, by go_num, HOR.out, by omega, hBr, HK2⟩
                  case measure => simp [intOf]; omega
                · have t3 : X.toList.isEmpty = false := by rw [d1]; rfl
                  have b1 : (X.toList == [46]) = true := beq_iff_eq.2 d1
                  go_wp2
                  go_roundw
                  case rel => exact ⟨k + 1, a, by omega, by go_num, HOR.out, by omega, hBr, HK2⟩
                  case measure => simp [intOf]; omega
              · have hw' : Pp.nowhere X.data.toList = false := by simpa using hw
                have hn2 : X.size ≠ 0 ∧ ¬ X.toList = [46] := by
                  have hw2 := hw'
                  unfold Pp.nowhere at hw2
                  rw [Bool.or_eq_false_iff, beq_eq_false_iff_ne, beq_eq_false_iff_ne] at hw2
                  exact ⟨fun h => hw2.1 (nil_data X h), fun h => hw2.2 (ed.symm.trans h)⟩
                have t3 := empty_no X hn2.1
                have d1 := hn2.2
                have b1 : (X.toList == [46]) = false := beq_eq_false_iff_ne.2 d1
                by_cases hup : X.data.toList = [46, 46]
                · have d2 : X.toList = [46, 46] := ed.trans hup
                  have b2 : (X.toList == [46, 46]) = true := beq_iff_eq.2 d2
                  by_cases h0 : a.length = 0
                  · have HG := hid (HFL.out 31 (by decide) (by unfold stepP; rw [hw', if_neg (by simp), if_pos hup, if_pos (List.length_eq_zero_iff.1 h0)]))
                    have t4 : ((a.length : Int) == 0) = true := beq_iff_eq.2 (by omega)
                    clear hw hw' hn2 hup h0 ed
                    go_wp2
                    go_ret2
                    exact ⟨by rw [HG.out]; rfl, hBw⟩
                  · have hne : a ≠ [] := fun e => h0 (by rw [e]; rfl)
                    have HK2 := HPS.out a.dropLast (by unfold stepP; rw [hw', if_neg (by simp), if_pos hup, if_neg hne])
                    have t4 : ((a.length : Int) == 0) = false := beq_eq_false_iff_ne.2 (by omega)
                    have HP := hid (HOR.out.pop hne)
                    have hcap : a.length ≤ cr := by
                      rcases HOR.out.2 with ⟨hv, hn⟩ | ⟨g, cap, cur, hv, _, _, hc, _⟩
                      · omega
                      · obtain ⟨_, _, rfl⟩ := Value.slice.inj hv; exact hc
                    have hdl : a.dropLast.length = a.length - 1 := List.length_dropLast
                    clear hw hw' hn2 hup hne ed
                    go_wp2
                    go_roundw
                    case rel => exact ⟨k + 1, a.dropLast, by omega, by go_num, HP.out, by omega, hBr, HK2⟩
                    case measure => simp [intOf]; omega
                · have d2 : ¬ X.toList = [46, 46] := fun e => hup (ed.symm.trans e)
                  have b2 : (X.toList == [46, 46]) = false := beq_eq_false_iff_ne.2 d2
                  by_cases hb : Pp.nameN X.data.toList = 0
                  · have HK2 := HPS.out (a ++ [X.data.toList]) (by unfold stepP; rw [hw', if_neg (by simp), if_neg hup, hb])
                    have HN := hid hb
                    have hfa : a.length * 16 ≤ 140737488355328 := by omega
                    have hfb : (a.length + 1) * 16 ≤ 140737488355328 := by omega
                    clear hw hw' hn2 hup hb ed
                    go_wp2_with fail
                    refine (refName_any X _).mono ?_
                    rintro e w4 ⟨rfl, rfl⟩
                    rw [HN.out]
                    go_wp2_with (at_builtin; refine wpList_append_copy rfl _ _ rfl w.heap.size _ a rfl rfl HOR.out hfa ?_)
                    intro v5 w5 hown5 hb5
                    have cx5 := (hb5.cell (p := ⟨g3, o3 + k, none⟩) (Nat.lt_of_lt_of_le hlt3 hzr)).trans cx
                    go_wp2_with (at_builtin; refine wpList_append_str rfl _ _ rfl w4.heap.size _ a rfl (World.ownsRow.alloc hown5 _) ⟨w5.heap.size, 0, none⟩ 1 X rfl ?c1 hfb ?c5 ?_)
                    case c1 => simp [Addr.add]
                    case c5 => have := hb5.size; simp; omega
                    intro v6 w6 hown6 hgrow6 _
                    have hb6 : Below w4.heap.size w4 w6 := (hb5.alloc hb5.size _).grown hgrow6 (by have := hb5.size; simp; omega) hown5.ge
                    have HO6 := hid (hown6.mono (base' := w.heap.size) (Nat.le_trans hB3.size hzr))
                    have hBr6 := hBr.trans (hb6.mono hzr)
                    clear hown6 hgrow6 hown5 hb5
                    go_wp2
                    go_roundw
                    case rel => exact ⟨k + 1, a ++ [X.data.toList], by omega, by go_num, HO6.out, by rw [List.length_append, List.length_singleton]; omega, hBr6, HK2⟩
                    case measure => simp [intOf]; omega
                  · have h30 : Pp.nameN X.data.toList = 30 := by
                      unfold Pp.nameN at hb ⊢
                      cases hbb : Pp.bad X.data.toList with
                      | true => rfl
                      | false => rw [hbb] at hb; exact absurd rfl hb
                    have HG := hid (HFL.out 30 (by decide) (by unfold stepP; rw [hw', if_neg (by simp), if_neg hup, h30]))
                    have HN := hid h30
                    clear hw hw' hn2 hup hb ed h30
                    go_wp2_with fail
                    refine (refName_any X _).mono ?_
                    rintro e w4 ⟨rfl, rfl⟩
                    rw [HN.out]
                    go_wp2
                    go_ret2
                    exact ⟨by rw [HG.out]; rfl, hBw⟩
            · have hwk : Pp.walk A L = (a, 0) := by rw [HK.out, List.drop_of_length_le (by omega)]; rfl
              have HG : Hid (Pp.go f.data.toList r.data.toList = Pp.join a) := hid (by
                have h4 : Pp.walk (Pp.parts f.data.toList).1 (Pp.pieces r.data.toList) = (a, 0) := by rw [HA.out, HL.out]; exact hwk
                rw [go_good HE.out H2.out H3.out (by rw [h4]), h4])
              have HRD := hid (rd_own HOR.out)
              have hbn : (BL a).length ≤ 140737488355328 := by rw [BL_length]; omega
              clear hwk HK
              go_wp2_with fail
              refine (refJoin_rd HRD.out hbn).mono ?_
              rintro e w4 ⟨rfl, rfl⟩
              rw [DL_BL]
              go_wp2
              go_ret2
              exact ⟨by rw [HG.out]; rfl, hBw⟩
  · have HG := hid (go_from (r := r.data.toList) (by rw [HE.out]; exact hz))
    have hne : ((E : Int) != 0) = true := by rw [bne_iff_ne]; omega
    clear hown hAl hz
    go_wp2
    go_ret2
    exact ⟨by rw [HG.out, HE.out]; rfl, hb1⟩
end Go.Proofs.YtmlgggnjghkojabDoor
