/-
  The walks of the document's last, Base, Dir and Strip.
-/
import Derived.Test.YtmlgggnjghkojaaGreatDoorP5
import Derived.Test.YtmlgggnjghkojaaGreatDoorR1
namespace Go.Proofs.YtmlgggnjghkojaaGreatDoor
open Go.RowKit

theorem data_bang (s : ByteArray) (j : Nat) (h : j < s.size) : s.data[j]! = s[j] := by rw [getElem!_pos s.data j h]; rfl

set_option maxHeartbeats 1000000 in
theorem refLast_any (s : ByteArray) (w : World) (hs : s.size < 4611686018427387904) :
    Calls Tryz.prog 26 #[.string s] w fun e w' => e = .returned (.int .i64 (Lib.lastIndexByte s 47)) ∧ w' = w := by
  go_enter Tryz.func26, Tryz.ntmps26
  go_wp2
  go_loop [3] (fun i => ∃ k : Nat, k ≤ s.size ∧ i = .int .i64 ((k : Int) - 1) ∧ Hid (Lib.lastIndexByte s 47 = Lib.lastIdx s 47 k)) (fun i => (intOf i + 1).toNat)
  case atStart => exact ⟨s.size, Nat.le_refl _, rfl, (rfl : Lib.lastIndexByte s 47 = _)⟩
  case round =>
    obtain ⟨k, hk, rfl, HL⟩ := hrel
    cases k with
    | zero =>
      have HF : Hid (Lib.lastIndexByte s 47 = -1) := hid HL.out
      clear HL
      go_wp2
      go_ret
      exact ⟨by rw [HF.out]; rfl, rfl⟩
    | succ k =>
      have hk1 : ((k + 1 : Nat) : Int) - 1 = (k : Int) := by omega
      rw [hk1]
      have hlt : k < s.size := by omega
      by_cases hc : s[k] = 47
      · have e1 : ((s[k].toNat : Int) == 47) = true := beq_iff_eq.2 ((slash_iff _).2 hc)
        have HF : Hid (Lib.lastIndexByte s 47 = (k : Int)) := hid (by rw [HL.out]; exact Lib.lastIdx_hit s 47 k (by rw [data_bang s k hlt]; exact (slash_iff _).2 hc))
        clear HL hc hk1
        go_wp2
        go_ret
        exact ⟨by rw [HF.out]; rfl, rfl⟩
      · have e1 : ((s[k].toNat : Int) == 47) = false := beq_eq_false_iff_ne.2 fun x => hc ((slash_iff _).1 x)
        have HF : Hid (Lib.lastIndexByte s 47 = Lib.lastIdx s 47 k) := hid (by rw [HL.out]; exact Lib.lastIdx_miss s 47 k (by rw [data_bang s k hlt]; exact fun x => hc ((slash_iff _).1 x)))
        clear HL hc hk1
        go_wp2
        go_round
        case rel => exact ⟨k, by omega, by go_num, HF⟩
        case measure => simp [intOf]

set_option maxHeartbeats 1000000 in
theorem refBase_any (s : ByteArray) (w : World) (hs : s.size < 4611686018427387904) :
    Calls Tryz.prog 14 #[.string s] w fun e w' => e = .returned (.string ⟨(Pp.base s.data.toList).toArray⟩) ∧ w' = w := by
  rcases last_cases s with ⟨h1, h2⟩ | ⟨i, h1, h2, h3, h4⟩
  · have HB := hid (Pp.base_none _ h2)
    have HL := hid h1
    clear h1 h2
    go_enter Tryz.func14, Tryz.ntmps14
    go_wp2_with fail
    refine (refLast_any s _ hs).mono ?_
    rintro e w1 ⟨rfl, rfl⟩
    rw [HL.out]
    go_wp2
    go_ret
    exact ⟨by rw [HB.out]; simp, rfl⟩
  · have HB : Hid (Pp.base s.data.toList = s.data.toList.drop (i + 1)) := hid (by
      have e := Pp.base_last (s.data.toList.take i) (s.data.toList.drop (i + 1)) h4
      rwa [← h3] at e)
    have HL := hid h1
    clear h1 h3 h4
    go_enter Tryz.func14, Tryz.ntmps14
    go_wp2_with fail
    refine (refLast_any s _ hs).mono ?_
    rintro e w1 ⟨rfl, rfl⟩
    rw [HL.out]
    go_wp2
    go_ret
    exact ⟨by rw [HB.out, ← ext_drop']; rfl, rfl⟩

set_option maxHeartbeats 1000000 in
theorem refDir_any (s : ByteArray) (w : World) (hs : s.size < 4611686018427387904) :
    Calls Tryz.prog 12 #[.string s] w fun e w' => e = .returned (.string ⟨(Pp.dir s.data.toList).toArray⟩) ∧ w' = w := by
  rcases last_cases s with ⟨h1, h2⟩ | ⟨i, h1, h2, h3, h4⟩
  · have HB := hid (Pp.dir_none _ h2)
    have HL := hid h1
    clear h1 h2
    go_enter Tryz.func12, Tryz.ntmps12
    go_wp2_with fail
    refine (refLast_any s _ hs).mono ?_
    rintro e w1 ⟨rfl, rfl⟩
    rw [HL.out]
    go_wp2
    go_ret
    exact ⟨by rw [HB.out]; rfl, rfl⟩
  · have HB : Hid (Pp.dir s.data.toList = s.data.toList.take i) := hid (by
      have e := Pp.dir_last (s.data.toList.take i) (s.data.toList.drop (i + 1)) h4
      rwa [← h3] at e)
    have HL := hid h1
    clear h1 h3 h4
    go_enter Tryz.func12, Tryz.ntmps12
    go_wp2_with fail
    refine (refLast_any s _ hs).mono ?_
    rintro e w1 ⟨rfl, rfl⟩
    rw [HL.out]
    go_wp2
    go_ret
    exact ⟨by rw [HB.out, ← ext_take']; rfl, rfl⟩

end Go.Proofs.YtmlgggnjghkojaaGreatDoor
