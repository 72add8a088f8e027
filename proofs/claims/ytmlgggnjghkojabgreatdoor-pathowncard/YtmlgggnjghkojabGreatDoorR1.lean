/-
  The walks of the document's Name and Join.
-/
import Derived.Test.YtmlgggnjghkojabGreatDoorP3
namespace Go.Proofs.YtmlgggnjghkojabGreatDoor
open Go.RowKit

theorem rname_hit {s : ByteArray} {k : Nat} (h : k < s.size) (hb : s[k] = 47 ∨ s[k] = 0) : Pp.nameN s.data.toList = 30 := by
  refine name_bad ?_
  unfold Pp.bad
  rw [Bool.or_eq_true]
  refine .inr (List.any_eq_true.2 ⟨s[k], List.mem_of_getElem? (at_data s k h), ?_⟩)
  rcases hb with e | e <;> rw [e] <;> decide
theorem rname_snoc {s : ByteArray} {k : Nat} (h : k < s.size) (h1 : s[k] ≠ 47) (h2 : s[k] ≠ 0) (ha : ((s.data.toList.take k).any fun c => c == 47 || c == 0) = false) : ((s.data.toList.take (k + 1)).any fun c => c == 47 || c == 0) = false := by
  rw [take_snoc s k h, List.any_append, ha]
  simp [h1, h2]

set_option maxHeartbeats 1000000 in
theorem refName_any (s : ByteArray) (w : World) :
    Calls Tryz.prog 11 #[.string s] w fun e w' => e = .returned (.int .i64 (Pp.nameN s.data.toList)) ∧ w' = w := by
  have ed := ByteArray.toList_eq s
  by_cases h0 : s.size = 0
  · have HB := hid (name_bad (bad_size (.inl h0)))
    have t0 := empty_yes s h0
    clear h0 ed
    go_enter Tryz.func11, Tryz.ntmps11
    go_wp2
    go_ret
    exact ⟨by rw [HB.out]; rfl, rfl⟩
  · have t0 := empty_no s h0
    by_cases h2 : s.data.toList = [46]
    · have HB := hid (name_bad (bad_dots (.inl h2)))
      have d1 : s.toList = [46] := ed.trans h2
      clear h2 ed
      go_enter Tryz.func11, Tryz.ntmps11
      go_wp2
      go_ret
      exact ⟨by rw [HB.out]; rfl, rfl⟩
    · have d1 : ¬ s.toList = [46] := fun x => h2 (ed.symm.trans x)
      by_cases h3 : s.data.toList = [46, 46]
      · have HB := hid (name_bad (bad_dots (.inr h3)))
        have d2 : s.toList = [46, 46] := ed.trans h3
        clear h2 h3 ed d1
        have d1 : ¬ s.toList = [46] := by rw [d2]; decide
        go_enter Tryz.func11, Tryz.ntmps11
        go_wp2
        go_ret
        exact ⟨by rw [HB.out]; rfl, rfl⟩
      · have d2 : ¬ s.toList = [46, 46] := fun x => h3 (ed.symm.trans x)
        have b1 : (s.toList == [46]) = false := beq_eq_false_iff_ne.2 d1
        have b2 : (s.toList == [46, 46]) = false := beq_eq_false_iff_ne.2 d2
        by_cases h1 : 255 < s.size
        · have HB := hid (name_bad (bad_size (.inr h1)))
          clear h2 h3 h0 ed
          go_enter Tryz.func11, Tryz.ntmps11
          go_wp2
          go_ret
          exact ⟨by rw [HB.out]; rfl, rfl⟩
        · have HB := hid (bad_rest h0 h1 h2 h3)
          clear h2 h3 h0 ed
          go_enter Tryz.func11, Tryz.ntmps11
          go_wp2
          go_loop [3] (fun i => ∃ k : Nat, k ≤ s.size ∧ i = .int .i64 k ∧ Hid (((s.data.toList.take k).any fun c => c == 47 || c == 0) = false)) (fun i => s.size - (intOf i).toNat)
          case atStart => exact ⟨0, Nat.zero_le _, rfl, (rfl : ((s.data.toList.take 0).any fun c => c == 47 || c == 0) = false)⟩
          case round =>
            obtain ⟨k, hk, rfl, HA⟩ := hrel
            by_cases hlt : k < s.size
            · by_cases hc : s[k] = 47
              · have HN := hid (rname_hit hlt (.inl hc))
                have e1 : ((s[k].toNat : Int) == 47) = true := beq_iff_eq.2 ((slash_iff _).2 hc)
                clear hc
                go_wp2
                go_ret
                exact ⟨by rw [HN.out]; rfl, rfl⟩
              · have e1 : ((s[k].toNat : Int) == 47) = false := beq_eq_false_iff_ne.2 fun x => hc ((slash_iff _).1 x)
                by_cases hz : s[k] = 0
                · have HN := hid (rname_hit hlt (.inr hz))
                  have e2 : ((s[k].toNat : Int) == 0) = true := beq_iff_eq.2 ((zero_iff _).2 hz)
                  clear hc hz
                  go_wp2
                  go_ret
                  exact ⟨by rw [HN.out]; rfl, rfl⟩
                · have e2 : ((s[k].toNat : Int) == 0) = false := beq_eq_false_iff_ne.2 fun x => hz ((zero_iff _).1 x)
                  have HS := hid (rname_snoc hlt hc hz HA.out)
                  clear hc hz
                  go_wp2
                  go_round
                  case rel => exact ⟨k + 1, by omega, by go_num, HS⟩
                  case measure => simp [intOf]; omega
            · have HN : Hid (Pp.nameN s.data.toList = 0) := hid (name_good (by rw [HB.out, ← take_all s k (by omega)]; exact HA.out))
              go_wp2
              go_ret
              exact ⟨by rw [HN.out]; rfl, rfl⟩

end Go.Proofs.YtmlgggnjghkojabGreatDoor
