/-
  The walk of the document's Unquote: for every string.
-/
import Derived.Test.YtmcifffhihiekaaDoorOwn
import Derived.Test.YtmcifffhihiekaaDoorQ7
namespace Go.Proofs.YtmcifffhihiekaaDoor
open Go.RowKit

/-- what the document answers: a name and the rest, or the error's number -/
def tupR : Option (List UInt8 × List UInt8) → Value
  | none => .tuple #[.string ⟨#[]⟩, .string ⟨#[]⟩, .int .i64 20]
  | some (a, r) => .tuple #[.string ⟨a.toArray⟩, .string ⟨r.toArray⟩, .int .i64 0]

theorem ext_head (s : ByteArray) (k : Nat) (h : k < s.size) (h1 : 1 ≤ (s.extract k s.size).size) : (s.extract k s.size)[0] = s[k] := by
  have e := data1 _ h1
  rw [ext_drop s k (by omega), drop_head s k h] at e
  exact (List.cons.inj e).1.symm
theorem rq_at (s : ByteArray) (out : List UInt8) (k : Nat) (h : k < s.size) (h10 : s[k].toNat ≠ 10) (h34 : s[k].toNat ≠ 34) :
    ((rbV (s.extract k s.size)).2 = 0 ∧ Pq.rq out (s.data.toList.drop k) = none) ∨
    (1 ≤ (rbV (s.extract k s.size)).2 ∧ k + (rbV (s.extract k s.size)).2 ≤ s.size ∧ Pq.rq out (s.data.toList.drop k) = Pq.rq (out ++ [(rbV (s.extract k s.size)).1]) (s.data.toList.drop (k + (rbV (s.extract k s.size)).2))) := by
  have hx : (s.extract k s.size).size = s.size - k := by simp
  have h1 : 1 ≤ (s.extract k s.size).size := by omega
  have he := ext_head s k h h1
  have hd := ext_drop s k (by omega)
  rcases rq_byte (s.extract k s.size) out h1 (by rw [he]; exact h10) (by rw [he]; exact h34) with ⟨a, b⟩ | ⟨a, b, c⟩
  · exact .inl ⟨a, by rw [← hd]; exact b⟩
  · refine .inr ⟨a, by omega, ?_⟩
    rw [hd, List.drop_drop] at c
    exact c
theorem rq_self (s : ByteArray) (out : List UInt8) (k : Nat) (h : k < s.size) (h10 : s[k].toNat ≠ 10) (h34 : s[k].toNat ≠ 34) (h92 : s[k].toNat ≠ 92) :
    Pq.rq out (s.data.toList.drop k) = Pq.rq (out ++ [s[k]]) (s.data.toList.drop (k + 1)) := by
  rw [drop_head s k h]
  have n10 : s[k] ≠ 10 := fun e => h10 (by rw [e]; rfl)
  have n34 : s[k] ≠ 34 := fun e => h34 (by rw [e]; rfl)
  have n92 : s[k] ≠ 92 := fun e => h92 (by rw [e]; rfl)
  rw [Pq.rq_some out (s.data.toList.drop (k + 1)) s[k] s[k] 1 n10 n34 (by simp only [Pq.rb, ne_eq, n92, not_false_eq_true, if_true])]
  rfl

set_option maxRecDepth 100000 in
set_option maxHeartbeats 2000000 in
theorem refUnquote_plain (s : ByteArray) (w : World) (hs : s.size ≤ 140737488355327) (hno : s.size = 0 ∨ ∃ h1 : 1 ≤ s.size, s[0].toNat ≠ 34) :
    Calls Tryd.prog 14 #[.string s] w fun e w' => e = .returned (tupR (Pq.unq s.data.toList)) ∧ Below w.heap.size w w' := by
  have HU := hid (unq_no s hno)
  have HA := hid (ext_take' s (pl s))
  have HB := hid (ext_drop' s (pl s) (pl_le s))
  have htest : Hid (s.size = 0 ∧ s.toList.isEmpty = true ∨ ∃ h1 : 1 ≤ s.size, s.toList.isEmpty = false ∧ ((s[0].toNat : Int) != 34) = true) := hid (by
    rcases hno with h | ⟨h1, h⟩
    · exact .inl ⟨h, empty_yes s h⟩
    · exact .inr ⟨h1, empty_no s (by omega), by rw [bne_iff_ne]; omega⟩)
  clear hno
  go_enter Tryd.func14, Tryd.ntmps14
  rcases htest.out with ⟨h0, he⟩ | ⟨h1, he, e34⟩
  case' inl => clear htest h0; go_wp2
  case' inr => clear htest; go_wp2
  all_goals
    go_loop [6] (fun i => ∃ k : Nat, k ≤ s.size ∧ i = .int .i64 k ∧ (s.data.toList.take k).all Pq.plain = true) (fun i => s.size - (intOf i).toNat)
    case atStart => exact ⟨0, Nat.zero_le _, rfl, rfl⟩
    case round =>
      obtain ⟨k, hk, rfl, ha⟩ := hrel
      have HP := hid ha
      clear ha
      by_cases hlt : k < s.size
      · have hc := s[k].toNat_lt
        have hlt' : (k : Int) < (s.size : Int) := by omega
        by_cases hpl : s[k].toNat = 9 ∨ s[k].toNat = 10
        · have HK : Hid (pl s = k) := hid (while_hit s k hlt Pq.plain HP.out (by simp [Pq.plain]; omega))
          have hk2 : (k : Int) ≤ (s.size : Int) := by omega
          rw [HK.out] at HU HA HB
          by_cases h9 : s[k].toNat = 9
          · have e9 : ((s[k].toNat : Int) != 9) = false := by rw [h9]; rfl
            clear h9 hpl
            go_wp2
            go_quiet (fail)
            go_wp2
            go_ret3
            exact ⟨by rw [HU.out]; exact ret_three (congrArg Value.string HA.out) (congrArg Value.string HB.out) rfl, below_drewN (Below.refl _ _) _⟩
          · have e9 : ((s[k].toNat : Int) != 9) = true := by rw [bne_iff_ne]; omega
            have h10 : s[k].toNat = 10 := by omega
            have e10 : ((s[k].toNat : Int) != 10) = false := by rw [h10]; rfl
            clear h9 h10 hpl
            go_wp2
            go_quiet (fail)
            go_wp2
            go_ret3
            exact ⟨by rw [HU.out]; exact ret_three (congrArg Value.string HA.out) (congrArg Value.string HB.out) rfl, below_drewN (Below.refl _ _) _⟩
        · have e9 : ((s[k].toNat : Int) != 9) = true := by rw [bne_iff_ne]; omega
          have e10 : ((s[k].toNat : Int) != 10) = true := by rw [bne_iff_ne]; omega
          have HB2 := hid (all_snoc s k hlt Pq.plain HP.out (by simp [Pq.plain]; omega))
          clear hpl
          go_wp2
          go_round
          case rel => exact ⟨k + 1, by omega, by go_num, HB2.out⟩
          case measure => simp [intOf]; omega
      · have HK : Hid (pl s = k) := hid ((while_last s k (by omega) Pq.plain HP.out).trans (by omega))
        have hk2 : (k : Int) ≤ (s.size : Int) := by omega
        have dlt : decide ((k : Int) < (s.size : Int)) = false := decide_eq_false (by omega)
        rw [HK.out] at HU HA HB
        go_wp2
        go_quiet (fail)
        go_wp2
        go_ret3
        exact ⟨by rw [HU.out]; exact ret_three (congrArg Value.string HA.out) (congrArg Value.string HB.out) rfl, below_drewN (Below.refl _ _) _⟩
end Go.Proofs.YtmcifffhihiekaaDoor
