/-
  The walk of Go of the program.
-/
import Derived.Test.YtmlgggnjghkojabDoorP8
namespace Go.Proofs.YtmlgggnjghkojabDoor
open Go.RowKit

/-- the walk over the pieces, one step behind the other -/
theorem walk_step (a : List (List UInt8)) (x : List UInt8) (r : List (List UInt8)) : Pp.walk a (x :: r) = if (stepP a x).2 = 0 then Pp.walk (stepP a x).1 r else ([], (stepP a x).2) := by
  rw [Pp.walk]
  unfold stepP
  cases hw : Pp.nowhere x with
  | true => simp
  | false =>
    simp only [Bool.false_eq_true, if_false]
    by_cases hu : x = [46, 46]
    · rw [if_pos hu, if_pos hu]
      by_cases ha : a = []
      · rw [if_pos ha, if_pos ha]; rfl
      · rw [if_neg ha, if_neg ha]; rfl
    · rw [if_neg hu, if_neg hu]
      cases hb : Pp.bad x with
      | true => rw [name_bad hb]; rfl
      | false => rw [name_good hb]; rfl
theorem step_len (a : List (List UInt8)) (x : List UInt8) : (stepP a x).1.length ≤ a.length + 1 := by
  unfold stepP
  split
  · simp
  · split
    · split
      · simp
      · simp; omega
    · simp
theorem go_from {f r : List UInt8} (h : (Pp.parts f).2 ≠ 0) : Pp.go f r = ([], (Pp.parts f).2) := by unfold Pp.go; rw [if_pos h]
theorem go_long {f r : List UInt8} (h : (Pp.parts f).2 = 0) (h2 : 4096 < r.length) : Pp.go f r = ([], 2) := by unfold Pp.go; rw [if_neg (by rw [h]; simp), if_pos h2]
theorem go_root {f r : List UInt8} (h : (Pp.parts f).2 = 0) (h2 : ¬ 4096 < r.length) (h3 : r.head? = some 47) : Pp.go f r = ([], 31) := by unfold Pp.go; rw [if_neg (by rw [h]; simp), if_neg h2, if_pos h3]
theorem go_bad {f r : List UInt8} (h : (Pp.parts f).2 = 0) (h2 : ¬ 4096 < r.length) (h3 : r.head? ≠ some 47) (h4 : (Pp.walk (Pp.parts f).1 (Pp.pieces r)).2 ≠ 0) : Pp.go f r = ([], (Pp.walk (Pp.parts f).1 (Pp.pieces r)).2) := by
  unfold Pp.go; rw [if_neg (by rw [h]; simp), if_neg h2, if_neg h3, if_pos h4]
theorem go_good {f r : List UInt8} (h : (Pp.parts f).2 = 0) (h2 : ¬ 4096 < r.length) (h3 : r.head? ≠ some 47) (h4 : (Pp.walk (Pp.parts f).1 (Pp.pieces r)).2 = 0) : Pp.go f r = Pp.join (Pp.walk (Pp.parts f).1 (Pp.pieces r)).1 := by
  unfold Pp.go; rw [if_neg (by rw [h]; simp), if_neg h2, if_neg h3, if_neg (by rw [h4]; simp)]
theorem prefix_slash (l : List UInt8) : Lib.hasPrefix l (ByteArray.mk #[47]).data.toList = decide (l.head? = some 47) := by
  cases l with
  | nil => rfl
  | cons c r =>
    show (47 == c && List.isPrefixOf [] r) = _
    rw [Bool.eq_iff_iff, Bool.and_eq_true, beq_iff_eq, decide_eq_true_eq]
    simp
    exact eq_comm

set_option maxHeartbeats 4000000 in
set_option maxRecDepth 100000 in
theorem go_any (f r : ByteArray) (w : World) (hm : MaxVar w) :
    Calls Tryd.prog 7 #[.string f, .string r] w fun e w' => e = .returned (.tuple #[.string ⟨(Pp.go f.data.toList r.data.toList).1.toArray⟩, errV (Pp.go f.data.toList r.data.toList).2]) ∧ Below w.heap.size w w' := by
  have HM := hid hm
  clear hm
  obtain ⟨A, hA⟩ : ∃ A, (Pp.parts f.data.toList).1 = A := ⟨_, rfl⟩
  obtain ⟨E, hE⟩ : ∃ E, (Pp.parts f.data.toList).2 = E := ⟨_, rfl⟩
  have HA := hid hA
  have HE := hid hE
  have hAl : E = 0 → A.length ≤ 64 := fun h => by rw [← hA]; exact (Pp.parts_ok (hE.trans h)).2.1
  clear hA hE
  go_enter Tryd.func7, Tryd.ntmps7
  go_wp2_with fail
  refine (parts_any f _ HM.out).mono ?_
  rintro e w1 ⟨v, rfl, hown, hb1⟩
  rw [HE.out]
  rw [HA.out] at hown
  have HM1 := hid (HM.out.below hb1)
  clear HM
  by_cases hz : E = 0
  · subst hz
    have hAl' := hAl rfl
    rw [errV_zero]
    clear hAl
    by_cases hrl : 4096 < r.size
    · have HG := hid (go_long (r := r.data.toList) HE.out (by rw [size_data]; exact hrl))
      clear hown
      go_wp2
      go_ret2
      exact ⟨by rw [HG.out]; rfl, hb1⟩
    · have H2 : Hid (¬ 4096 < r.data.toList.length) := hid (by rw [size_data]; exact hrl)
      by_cases hrt : r.data.toList.head? = some 47
      · have HG := hid (go_root HE.out H2.out hrt)
        have HP : Hid (Lib.hasPrefix r.data.toList (ByteArray.mk #[47]).data.toList = true) := hid (by rw [prefix_slash]; exact decide_eq_true hrt)
        clear hrt hown
        go_wp2_with fail
        refine (Tryd.strings_HasPrefix r ⟨#[47]⟩ _).mono ?_
        rintro e w2 ⟨rfl, rfl⟩
        rw [HP.out]
        go_wp2
        go_ret2
        exact ⟨by rw [HG.out]; rfl, hb1⟩
      · have H3 := hid hrt
        have HP : Hid (Lib.hasPrefix r.data.toList (ByteArray.mk #[47]).data.toList = false) := hid (by rw [prefix_slash]; exact decide_eq_false hrt)
        have hpl := Pp.pieces_length r.data.toList
        rw [size_data] at hpl
        obtain ⟨L, hL⟩ : ∃ L, Pp.pieces r.data.toList = L := ⟨_, rfl⟩
        rw [hL] at hpl
        have HL := hid hL
        have HO := hid hown
        clear hrt hL hown
        go_wp2_with fail
        refine (Tryd.strings_HasPrefix r ⟨#[47]⟩ _).mono ?_
        rintro e w2 ⟨rfl, rfl⟩
        rw [HP.out]
        go_wp2_with fail
        refine (split_any r L HL.out _ (by omega) HM1.out).mono ?_
        rintro e w3 ⟨_, rfl, rfl, hown3, hb3, _⟩
        have HX : Hid (∀ (j : Nat) x, (BL L)[j]? = some x → w3.cell? ⟨w2.heap.size, 0 + j, none⟩ = some (.string x)) := hid (by
          rcases rd_own hown3 with ⟨h0, _⟩ | ⟨b, o, c, hv, _, _, hc⟩
          · intro j x hj; rw [h0] at hj; cases hj
          · obtain ⟨ha, _, _⟩ := Value.slice.inj hv
            cases ha
            exact hc)
        have hlt3 : w2.heap.size < w3.heap.size := by
          rcases hown3.2 with ⟨hv, _⟩ | ⟨g, cap, cur, hv, _, hh, _⟩
          · cases hv
          · obtain ⟨ha, _, _⟩ := Value.slice.inj hv
            cases ha
            exact lt_of_heap hh
        have HO3 := hid (HO.out.stays hb3)
        have hB3 := hb1.trans (hb3.mono hb1.size)
        have hvb : v.ownBlock ≠ some w2.heap.size := fun h => by
          have := (World.ownsRow.lt HO.out _ h).2
          omega
        go_wp2
        go_loopw [6, 7, 9, 28] (fun u er _ i wr => ∃ (k : Nat) (a : List (List UInt8)), k ≤ L.length ∧ i = .int .i64 k ∧ er = .nilIface ∧ OwnS wr w.heap.size u a ∧ a.length ≤ 64 + k ∧ u.ownBlock ≠ some w2.heap.size ∧ Below w.heap.size w wr ∧ w3.heap.size ≤ wr.heap.size ∧
            wr.heap[w2.heap.size]? = w3.heap[w2.heap.size]? ∧ Hid (Pp.walk A L = Pp.walk a (L.drop k))) (fun _ _ _ i _ => L.length - (intOf i).toNat)
        case atStart => exact ⟨0, A, Nat.zero_le _, rfl, rfl, HO3.out, by omega, hvb, hB3, Nat.le_refl _, rfl, (rfl : Pp.walk A L = _)⟩
        case round =>
          obtain ⟨k, a, hk, rfl, rfl, hownr, hal, hub, hBr, hzr, hhr, HK⟩ := hrel
          have hzw := hBr.size
          by_cases hkl : k < L.length
          · obtain ⟨x, hx⟩ : ∃ x, L[k]? = some x := ⟨_, List.getElem?_eq_getElem hkl⟩
            obtain ⟨X, hX⟩ : ∃ X : ByteArray, X = ⟨x.toArray⟩ := ⟨_, rfl⟩
            have hXd : X.data.toList = x := by rw [hX]
            have hbx : (BL L)[k]? = some X := by unfold BL; rw [List.getElem?_map, hx, hX]; rfl
            have cx : wr.cell? ⟨w2.heap.size, 0 + k, none⟩ = some (.string X) := (World.cell?_of_block (w := w3) (a := ⟨w2.heap.size, 0 + k, none⟩) hhr).trans (HX.out k X hbx)
            rw [Nat.zero_add] at cx
            have HD : Hid (Pp.walk A L = if (stepP a X.data.toList).2 = 0 then Pp.walk (stepP a X.data.toList).1 (L.drop (k + 1)) else ([], (stepP a X.data.toList).2)) := hid (by
              rw [HK.out, List.drop_eq_getElem_cons hkl, walk_step, hXd]
              rw [List.getElem?_eq_getElem hkl] at hx
              rw [Option.some.inj hx])
            have HSL := hid (step_len a X.data.toList)
            have HOR := hid hownr
            have HHR := hid hhr
            have HUB := hid hub
            clear hX hXd hbx hx hownr hhr hub HK
            go_wp2_with fail
            refine (step_any w.heap.size _ a X _ hzw HOR.out (by omega) w2.heap.size (by omega) HUB.out).mono ?_
            rintro e w4 ⟨v4, rfl, hown4, hb4, hv4, hh4⟩
            have hB4 := hBr.trans hb4
            have hz4 := hb4.size
            obtain ⟨a4, ha4⟩ : ∃ a4, (stepP a X.data.toList).1 = a4 := ⟨_, rfl⟩
            obtain ⟨e4, he4⟩ : ∃ e4, (stepP a X.data.toList).2 = e4 := ⟨_, rfl⟩
            have hsl := HSL.out
            have hd := HD.out
            rw [ha4] at hown4 hsl hd
            rw [he4] at hd
            rw [he4]
            have HO4 := hid hown4
            have HH4 := hid (hh4.trans HHR.out)
            clear ha4 he4 hown4 hh4 HSL HD
            by_cases hz : e4 = 0
            · subst hz
              have HK2 : Hid (Pp.walk A L = Pp.walk a4 (L.drop (k + 1))) := hid hd
              rw [errV_zero]
              clear hd
              go_wp2
              go_roundw
              case rel => exact ⟨k + 1, a4, by omega, by go_num, rfl, HO4.out, by omega, hv4, hB4, by omega, HH4.out, HK2⟩
              case measure => simp [intOf]; omega
            · rw [if_neg hz] at hd
              have HG : Hid (Pp.go f.data.toList r.data.toList = ([], e4)) := hid (by
                have h4 : Pp.walk (Pp.parts f.data.toList).1 (Pp.pieces r.data.toList) = ([], e4) := by rw [HA.out, HL.out]; exact hd
                rw [go_bad HE.out H2.out H3.out (by rw [h4]; exact hz), h4])
              have HV := hid (errV_pos hz)
              rw [HV.out]
              clear hd hz
              go_wp2
              go_ret2
              exact ⟨by rw [HG.out, HV.out]; rfl, hB4⟩
          · have hwk : Pp.walk A L = (a, 0) := by rw [HK.out, List.drop_of_length_le (by omega)]; rfl
            have HG : Hid (Pp.go f.data.toList r.data.toList = Pp.join a) := hid (by
              have h4 : Pp.walk (Pp.parts f.data.toList).1 (Pp.pieces r.data.toList) = (a, 0) := by rw [HA.out, HL.out]; exact hwk
              rw [go_good HE.out H2.out H3.out (by rw [h4]), h4])
            have HRD := hid (rd_own hownr)
            have hbn : (BL a).length ≤ 140737488355328 := by rw [BL_length]; omega
            clear hwk hownr HK
            go_wp2_with fail
            refine (join_rd HRD.out hbn).mono ?_
            rintro e w4 ⟨rfl, hb4⟩
            rw [DL_BL]
            go_wp2
            go_ret2
            exact ⟨by rw [HG.out]; rfl, hBr.trans (hb4.mono hzw)⟩
  · have HG := hid (go_from (r := r.data.toList) (by rw [HE.out]; exact hz))
    have HV := hid (errV_pos hz)
    rw [HV.out]
    clear hown hAl hz
    go_wp2
    go_ret2
    exact ⟨by rw [HG.out, HE.out, HV.out]; rfl, hb1⟩
end Go.Proofs.YtmlgggnjghkojabDoor
