/-
  The walks of the document's lines and trimmed.
-/
import Derived.Test.YtfjhjhjdneihbaaGreatDoorI1
namespace Go.Proofs.YtfjhjhjdneihbaaGreatDoor
open Go.RowKit

theorem drop_hit (l : List UInt8) (fr k : Nat) (c : UInt8) (hk : l[k]? = some c) (hfr : fr ≤ k) : l.drop fr = (l.drop fr).take (k - fr) ++ c :: l.drop (k + 1) := by
  have h1 : l.drop k = c :: l.drop (k + 1) := by
    have hl : k < l.length := (List.getElem?_eq_some_iff.1 hk).1
    rw [List.drop_eq_getElem_cons hl]
    rw [List.getElem?_eq_getElem hl] at hk
    rw [Option.some.inj hk]
  conv => lhs; rw [← List.take_append_drop (k - fr) (l.drop fr)]
  rw [List.drop_drop, show fr + (k - fr) = k by omega, h1]
theorem nl_iff (c : UInt8) : ((c.toNat : Int) = 10) ↔ c = 10 := by
  constructor
  · intro h; exact UInt8.toNat_inj.1 (by simpa using (show c.toNat = 10 by omega))
  · rintro rfl; rfl
theorem nl_miss (l : List UInt8) (fr k : Nat) (c : UInt8) (hk : l[k]? = some c) (hc : c ≠ 10) (hfr : fr ≤ k) (hno : (10 : UInt8) ∉ (l.drop fr).take (k - fr)) : (10 : UInt8) ∉ (l.drop fr).take (k + 1 - fr) := by
  have e : (l.drop fr).take (k + 1 - fr) = (l.drop fr).take (k - fr) ++ [c] := by
    rw [show k + 1 - fr = (k - fr) + 1 by omega, List.take_add_one, List.getElem?_drop, show fr + (k - fr) = k by omega, hk]
    rfl
  rw [e]
  intro h
  rcases List.mem_append.1 h with h | h
  · exact hno h
  · exact hc (List.mem_singleton.1 h).symm
theorem lns_len : ∀ (f : Nat) (l : List UInt8), (lnF f l).length ≤ l.length
  | 0, l => Nat.zero_le _
  | f + 1, l => by
    unfold lnF
    by_cases e : l = []
    · rw [if_pos e]; exact Nat.zero_le _
    · have h1 := cut_rest l e
      have h2 := lns_len f (Lib.cut l [10]).2.1
      rw [if_neg e, List.length_cons]
      omega

set_option maxHeartbeats 2000000 in
theorem refLines_any (s : ByteArray) (L : List (List UInt8)) (hL : lns s.data.toList = L) (w : World) (hs : s.size ≤ 4294967296) :
    Calls Tryz.prog 14 #[.string s] w fun e w' => ∃ v, e = .returned v ∧ OwnS w' w.heap.size v L ∧ Below w.heap.size w w' := by
  have HP := hid hL
  have hlen : L.length ≤ s.size := by
    have := lns_len s.data.toList.length s.data.toList
    rw [← hL, ← size_data]; exact this
  clear hL
  go_enter Tryz.func14, Tryz.ntmps14
  go_wp2
  go_loopw [3, 4, 5] (fun v f i wr => ∃ (k fr : Nat) (done : List (List UInt8)), k ≤ s.size ∧ fr ≤ k ∧ i = .int .i64 k ∧ f = .int .i64 fr ∧ Hid (OwnS wr w.heap.size v done) ∧
      Hid (L = done ++ lns (s.data.toList.drop fr)) ∧ Hid ((10 : UInt8) ∉ (s.data.toList.drop fr).take (k - fr)) ∧ Hid (Below w.heap.size w wr)) (fun _ _ i _ => s.size - (intOf i).toNat)
  case atStart => exact ⟨0, 0, [], Nat.zero_le _, Nat.le_refl _, rfl, rfl, hid (OwnS.nil _ _), hid HP.out.symm, hid (by simp), hid (Below.refl _ _)⟩
  case round =>
    obtain ⟨k, fr, done, hk, hfr, rfl, rfl, HO, HL, HN, HB⟩ := hrel
    have HBE : Hid (∀ x, Below wr.heap.size wr (wr.alloc (.cells #[.string x] 9))) := hid (fun x => (Below.refl _ _).alloc (Nat.le_refl _) _)
    have hdl : done.length ≤ s.size := by
      have := congrArg List.length HL.out
      rw [List.length_append] at this
      omega
    by_cases hlt : k < s.size
    · have HAT := hid (at_data s k hlt)
      by_cases h10 : s[k] = 10
      · have t2 : ((s[k].toNat : Int) == 10) = true := beq_iff_eq.2 ((nl_iff _).2 h10)
        have HD : Hid (s.data.toList.drop fr = (s.extract fr k).data.toList ++ 10 :: s.data.toList.drop (k + 1)) := hid (by rw [Lib.extract_data]; exact drop_hit _ _ _ _ (by rw [HAT.out, h10]) hfr)
        have HL2 : Hid (L = (done ++ [(s.extract fr k).data.toList]) ++ lns (s.data.toList.drop (k + 1))) := hid (by
          rw [HL.out, HD.out, lns_hit _ _ (by rw [Lib.extract_data]; exact HN.out), List.append_assoc]; rfl)
        have HN2 : Hid ((10 : UInt8) ∉ (s.data.toList.drop (k + 1)).take (k + 1 - (k + 1))) := hid (by simp)
        clear HL HN HD h10 HAT
        go_wp2_with (at_builtin; refine wpList_append_str rfl _ _ rfl w.heap.size _ done rfl (HO.out.stays (HBE.out _)) ⟨wr.heap.size, 0, none⟩ 1 (s.extract fr k) rfl (by rw [Go.WideShapes.add_plain]; exact cell_of_blk (heap_alloc_new wr _) 0) (by omega) (Nat.le_trans HB.out.size (HBE.out _).size) ?_; intro v1 w1 hO1 hg1 _; have HO1 := hid hO1; have HB1 := hid ((HB.out.trans ((HBE.out (s.extract fr k)).mono HB.out.size)).grown hg1 (Nat.le_trans HB.out.size (HBE.out (s.extract fr k)).size) HO.out.ge); clear hO1 hg1)
        go_roundw
        case rel => exact ⟨k + 1, k + 1, _, by omega, Nat.le_refl _, by go_num, by go_num, HO1, HL2, HN2, HB1⟩
        case measure => simp [intOf]; omega
      · have t2 : ((s[k].toNat : Int) == 10) = false := beq_eq_false_iff_ne.2 (fun e => h10 ((nl_iff _).1 e))
        have HN2 := hid (nl_miss _ _ _ _ HAT.out h10 hfr HN.out)
        clear HN h10 HAT
        go_wp2
        go_roundw
        case rel => exact ⟨k + 1, fr, done, by omega, by omega, by go_num, rfl, HO, HL, HN2, HB⟩
        case measure => simp [intOf]; omega
    · obtain rfl : k = s.size := by omega
      by_cases hf : fr < s.size
      · have HL2 : Hid (L = done ++ [(s.extract fr s.size).data.toList]) := hid (by
          have e : (s.extract fr s.size).data.toList = s.data.toList.drop fr := by
            rw [Lib.extract_data, List.take_of_length_le (by rw [List.length_drop, size_data]; exact Nat.le_refl _)]
          have hn := HN.out
          rw [List.take_of_length_le (by rw [List.length_drop, size_data]; exact Nat.le_refl _)] at hn
          rw [e, HL.out, lns_last _ hn (fun h => by have := congrArg List.length h; rw [List.length_drop, size_data] at this; simp at this; omega)])
        have j1 : (fr : Int) < (s.size : Int) := by omega
        clear HL HN
        go_wp2_with (at_builtin; refine wpList_append_str rfl _ _ rfl w.heap.size _ done rfl (HO.out.stays (HBE.out _)) ⟨wr.heap.size, 0, none⟩ 1 (s.extract fr s.size) rfl (by rw [Go.WideShapes.add_plain]; exact cell_of_blk (heap_alloc_new wr _) 0) (by omega) (Nat.le_trans HB.out.size (HBE.out _).size) ?_; intro v1 w1 hO1 hg1 _; have HO1 := hid hO1; have HB1 := hid ((HB.out.trans ((HBE.out (s.extract fr s.size)).mono HB.out.size)).grown hg1 (Nat.le_trans HB.out.size (HBE.out (s.extract fr s.size)).size) HO.out.ge); clear hO1 hg1)
        go_ret
        exact ⟨_, rfl, by rw [HL2.out]; exact HO1.out, HB1.out⟩
      · have HL2 : Hid (L = done) := hid (by
          rw [HL.out, List.drop_of_length_le (by rw [size_data]; omega), lns_nil, List.append_nil])
        have j1 : ¬ (fr : Int) < (s.size : Int) := by omega
        clear HL HN
        go_wp2
        go_ret
        exact ⟨_, rfl, by rw [HL2.out]; exact HO.out, HB.out⟩
end Go.Proofs.YtfjhjhjdneihbaaGreatDoor
