/-
  The walks of common, step and Go of the program.
-/
import Derived.Test.YtmlgggnjghkojabDoorP3
import Derived.Test.YtmlgggnjghkojabDoorAp
namespace Go.Proofs.YtmlgggnjghkojabDoor
open Go.RowKit

set_option maxHeartbeats 400000 in
theorem nowhere_any (s : ByteArray) (w : World) :
    Calls Tryd.prog 31 #[.string s] w fun e w' => e = .returned (.bool (Pp.nowhere s.data.toList)) ∧ w' = w := by
  have ed := ByteArray.toList_eq s
  by_cases h0 : s.size = 0
  · have t := empty_yes s h0
    have HN : Hid (Pp.nowhere s.data.toList = true) := hid (by rw [nil_data s h0]; rfl)
    clear h0 ed
    go_enter Tryd.func31, Tryd.ntmps31
    go_wp2
    go_ret
    exact ⟨by rw [HN.out]; rfl, rfl⟩
  · have t := empty_no s h0
    have HN : Hid (Pp.nowhere s.data.toList = (s.toList == [46])) := hid (by
      unfold Pp.nowhere
      rw [beq_eq_false_iff_ne.2 (fun e => h0 (data_nil s e)), ed]; rfl)
    clear h0 ed
    go_enter Tryd.func31, Tryd.ntmps31
    go_wp2
    all_goals (go_ret; exact ⟨by rw [HN.out]; rfl, rfl⟩)

/-- one step: the list that comes, and the error's number -/
def stepP (a : List (List UInt8)) (x : List UInt8) : List (List UInt8) × Nat :=
  if Pp.nowhere x then (a, 0) else if x = [46, 46] then (if a = [] then ([], 31) else (a.dropLast, 0)) else (a ++ [x], Pp.nameN x)

theorem OwnS.pop {w : World} {base : Nat} {l : List (List UInt8)} {a : Option Addr} {c : Nat} (h : OwnS w base (.slice a l.length c) l) (hl : l ≠ []) : OwnS w base (.slice a (l.length - 1) c) l.dropLast := by
  have hlen : l.dropLast.length = l.length - 1 := List.length_dropLast
  have hpos : 0 < l.length := List.length_pos_iff.2 hl
  refine ⟨by rw [SV_length, Nat.mul_one], ?_⟩
  rcases h.2 with ⟨hv, hn⟩ | ⟨g, cap, cur, hv, hg, hh, hc, hm, hsz, htk⟩
  · omega
  · obtain ⟨rfl, _, rfl⟩ := Value.slice.inj hv
    refine .inr ⟨g, c, cur, by rw [hlen], hg, hh, by omega, hm, hsz, ?_⟩
    have e : SV l.dropLast = (SV l).take (l.length - 1) := by
      unfold SV
      rw [List.dropLast_eq_take, List.map_take]
    rw [e, ← htk, List.take_take]
    congr 1
    omega

theorem nil_block {pb : Nat} : (Value.slice none 0 0).ownBlock ≠ some pb := by intro h; cases h
theorem len_block {ad : Option Addr} {n m c pb : Nat} (h : (Value.slice ad n c).ownBlock ≠ some pb) : (Value.slice ad m c).ownBlock ≠ some pb := by cases ad <;> exact h

set_option maxHeartbeats 2000000 in
set_option maxRecDepth 100000 in
theorem step_any (B : Nat) (v : Value) (a : List (List UInt8)) (x : ByteArray) (w : World) (hB : B ≤ w.heap.size) (hown : OwnS w B v a) (ha : a.length ≤ 8000000000000) (pb : Nat) (hpb : pb < w.heap.size) (hvb : v.ownBlock ≠ some pb) :
    Calls Tryd.prog 19 #[v, .string x] w fun e w' => ∃ v', e = .returned (.tuple #[v', errV (stepP a x.data.toList).2]) ∧ OwnS w' B v' (stepP a x.data.toList).1 ∧ Below B w w' ∧ v'.ownBlock ≠ some pb ∧ w'.heap[pb]? = w.heap[pb]? := by
  have ed := ByteArray.toList_eq x
  cases hw : Pp.nowhere x.data.toList with
  | true =>
    have HS : Hid (stepP a x.data.toList = (a, 0)) := hid (by unfold stepP; rw [hw]; rfl)
    have HW := hid hw
    clear hw ed
    go_enter Tryd.func19, Tryd.ntmps19
    go_wp2_with fail
    refine (nowhere_any x _).mono ?_
    rintro e w1 ⟨rfl, rfl⟩
    rw [HW.out]
    go_wp2
    go_ret2
    rw [HS.out]
    exact ⟨_, rfl, hown, Below.refl _ _, hvb, rfl⟩
  | false =>
    have HW := hid hw
    by_cases hup : x.data.toList = [46, 46]
    · have d2 : x.toList = [46, 46] := ed.trans hup
      have b2 : (x.toList == [46, 46]) = true := beq_iff_eq.2 d2
      obtain ⟨ad, c, rfl⟩ := hown.shape
      have HO := hid hown
      clear hown
      by_cases h0 : a.length = 0
      · have HS : Hid (stepP a x.data.toList = ([], 31)) := hid (by
          unfold stepP; rw [hw, if_neg (by simp), if_pos hup, if_pos (List.length_eq_zero_iff.1 h0)])
        have t0 : ((a.length : Int) == 0) = true := beq_iff_eq.2 (by omega)
        clear hw ed hup h0
        go_enter Tryd.func19, Tryd.ntmps19
        go_wp2_with fail
        refine (nowhere_any x _).mono ?_
        rintro e w1 ⟨rfl, rfl⟩
        rw [HW.out]
        go_wp2
        go_ret2
        rw [HS.out]
        exact ⟨_, rfl, OwnS.nil _ _, Below.refl _ _, nil_block, rfl⟩
      · have hne : a ≠ [] := fun e => h0 (by rw [e]; rfl)
        have HS : Hid (stepP a x.data.toList = (a.dropLast, 0)) := hid (by
          unfold stepP; rw [hw, if_neg (by simp), if_pos hup, if_neg hne])
        have t0 : ((a.length : Int) == 0) = false := beq_eq_false_iff_ne.2 (by omega)
        have HP := hid (HO.out.pop hne)
        have hcap : a.length ≤ c := by
          rcases HO.out.2 with ⟨hv, hn⟩ | ⟨g, cap, cur, hv, _, _, hc, _⟩
          · omega
          · obtain ⟨_, _, rfl⟩ := Value.slice.inj hv; exact hc
        clear hw ed hup hne
        go_enter Tryd.func19, Tryd.ntmps19
        go_wp2_with fail
        refine (nowhere_any x _).mono ?_
        rintro e w1 ⟨rfl, rfl⟩
        rw [HW.out]
        go_wp2
        go_ret2
        rw [HS.out]
        exact ⟨_, rfl, HP.out, Below.refl _ _, len_block hvb, rfl⟩
    · have d2 : ¬ x.toList = [46, 46] := fun e => hup (ed.symm.trans e)
      have b2 : (x.toList == [46, 46]) = false := beq_eq_false_iff_ne.2 d2
      have HS : Hid (stepP a x.data.toList = (a ++ [x.data.toList], Pp.nameN x.data.toList)) := hid (by
        unfold stepP; rw [hw, if_neg (by simp), if_neg hup])
      have hfit : (a.length + 1) * 16 ≤ 140737488355328 := by omega
      clear hw ed hup
      go_enter Tryd.func19, Tryd.ntmps19
      go_wp2_with fail
      refine (nowhere_any x _).mono ?_
      rintro e w1 ⟨rfl, rfl⟩
      rw [HW.out]
      go_wp2_with (at_builtin; refine wpList_append_str rfl _ _ rfl B _ a rfl (World.ownsRow.alloc hown _) ⟨w1.heap.size, 0, none⟩ 1 x rfl ?c1 hfit ?c5 ?_)
      case c1 => simp [Addr.add]
      case c5 => simp; omega
      intro v' w3 hown4 hgrow3 hblk
      have hb3 : Below B w1 w3 := ((Below.refl B w1).alloc hB _).grown hgrow3 (by simp; omega) hown.ge
      have hv3 : v'.ownBlock ≠ some pb := fun h => by
        rcases hblk pb h with h | h
        · exact hvb h
        · first | omega | (simp at h; omega)
      have hh3 : w3.heap[pb]? = w1.heap[pb]? := by
        rw [hgrow3.block pb (by simp; omega) (fun h => hvb h.symm)]
        exact Below.heap_alloc _ _ _ hpb
      have hz3 : w1.heap.size ≤ w3.heap.size := by have := hgrow3.size; simp at this; omega
      have HO4 := hid hown4
      clear hgrow3 hown hown4 hblk
      go_wp2_with fail
      refine (name_any x _).mono ?_
      rintro e w4 ⟨rfl, hb4⟩
      have HB4 := hid (hb3.trans (hb4.mono (Nat.le_trans hB hb3.size)))
      have HO5 := hid (HO4.out.stays hb4)
      go_wp2
      go_ret2
      rw [HS.out]
      exact ⟨_, rfl, HO5.out, HB4.out, hv3, (hb4.block pb (by omega)).trans hh3⟩
end Go.Proofs.YtmlgggnjghkojabDoor
