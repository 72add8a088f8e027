/-
  The walks of the document's last, Base, Dir and Strip.
-/
import Derived.Test.YtmlgggnjghkojaaDoorP5
import Derived.Test.YtmlgggnjghkojaaDoorR1
namespace Go.Proofs.YtmlgggnjghkojaaDoor
open Go.RowKit

theorem data_bang (s : ByteArray) (j : Nat) (h : j < s.size) : s.data[j]! = s[j] := by rw [getElem!_pos s.data j h]; rfl

set_option maxHeartbeats 1000000 in
theorem refLast_any (s : ByteArray) (w : World) (hs : s.size < 4611686018427387904) :
    Calls Tryd.prog 48 #[.string s] w fun e w' => e = .returned (.int .i64 (Lib.lastIndexByte s 47)) ∧ w' = w := by
  go_enter Tryd.func48, Tryd.ntmps48
  go_wp2
  go_loop [3] (fun i => ∃ k : Nat, k ≤ s.size ∧ i = .int .i64 ((k : Int) - 1) ∧ Hid (Lib.lastIndexByte s 47 = Lib.lastIdx s 47 k)) (fun i => (intOf i + 1).toNat)
  case atStart => exact ⟨s.size, Nat.le_refl _, rfl, (rfl : Lib.lastIndexByte s 47 = _)⟩
  case round =>
    obtain ⟨k, hk, rfl, HL⟩ := hrel
    cases k with
    | zero =>
      have HF : Hid (Lib.lastIndexByte s 47 = -1) := hid HL.out
      clear HL
      go_wp2
      go_ret
      exact ⟨by rw [HF.out]; rfl, rfl⟩
    | succ k =>
      have hk1 : ((k + 1 : Nat) : Int) - 1 = (k : Int) := by omega
      rw [hk1]
      have hlt : k < s.size := by omega
      by_cases hc : s[k] = 47
      · have e1 : ((s[k].toNat : Int) == 47) = true := beq_iff_eq.2 ((slash_iff _).2 hc)
        have HF : Hid (Lib.lastIndexByte s 47 = (k : Int)) := hid (by rw [HL.out]; exact Lib.lastIdx_hit s 47 k (by rw [data_bang s k hlt]; exact (slash_iff _).2 hc))
        clear HL hc hk1
        go_wp2
        go_ret
        exact ⟨by rw [HF.out]; rfl, rfl⟩
      · have e1 : ((s[k].toNat : Int) == 47) = false := beq_eq_false_iff_ne.2 fun x => hc ((slash_iff _).1 x)
        have HF : Hid (Lib.lastIndexByte s 47 = Lib.lastIdx s 47 k) := hid (by rw [HL.out]; exact Lib.lastIdx_miss s 47 k (by rw [data_bang s k hlt]; exact fun x => hc ((slash_iff _).1 x)))
        clear HL hc hk1
        go_wp2
        go_round
        case rel => exact ⟨k, by omega, by go_num, HF⟩
        case measure => simp [intOf]

set_option maxHeartbeats 1000000 in
theorem refBase_any (s : ByteArray) (w : World) (hs : s.size < 4611686018427387904) :
    Calls Tryd.prog 26 #[.string s] w fun e w' => e = .returned (.string ⟨(Pp.base s.data.toList).toArray⟩) ∧ w' = w := by
  rcases last_cases s with ⟨h1, h2⟩ | ⟨i, h1, h2, h3, h4⟩
  · have HB := hid (Pp.base_none _ h2)
    have HL := hid h1
    clear h1 h2
    go_enter Tryd.func26, Tryd.ntmps26
    go_wp2_with fail
    refine (refLast_any s _ hs).mono ?_
    rintro e w1 ⟨rfl, rfl⟩
    rw [HL.out]
    go_wp2
    go_ret
    exact ⟨by rw [HB.out]; simp, rfl⟩
  · have HB : Hid (Pp.base s.data.toList = s.data.toList.drop (i + 1)) := hid (by
      have e := Pp.base_last (s.data.toList.take i) (s.data.toList.drop (i + 1)) h4
      rwa [← h3] at e)
    have HL := hid h1
    clear h1 h3 h4
    go_enter Tryd.func26, Tryd.ntmps26
    go_wp2_with fail
    refine (refLast_any s _ hs).mono ?_
    rintro e w1 ⟨rfl, rfl⟩
    rw [HL.out]
    go_wp2
    go_ret
    exact ⟨by rw [HB.out, ← ext_drop']; rfl, rfl⟩


theorem strip_step (c : ByteArray) (i j : Nat) (hi : i < c.size) (h47 : c[i] = 47) (hno : (47 : UInt8) ∉ c.data.toList.take i) (hall : ∀ t, i ≤ t → t < j → ∀ h : t < c.size, c[t] = 47) (hij : i < j) (hj : j ≤ c.size)
    (hend : ∀ h : j < c.size, c[j] ≠ 47) : Pp.step1 c.data.toList = c.data.toList.drop j := by
  have e : c.data.toList = c.data.toList.take i ++ 47 :: c.data.toList.drop (i + 1) := by rw [← h47, ← drop_head c i hi, List.take_append_drop]
  have h1 := Pp.step1_first (c.data.toList.take i) (c.data.toList.drop (i + 1)) hno
  rw [← e] at h1
  rw [h1]
  have h2 := Lib.trimLeftB_drop (c.data.toList.drop (i + 1)) 47 (j - (i + 1)) (by rw [List.length_drop, size_data]; omega) (fun t b ht hb => by
    rw [List.getElem?_drop] at hb
    have hlt : i + 1 + t < c.size := by omega
    rw [at_data c _ hlt] at hb
    rw [← Option.some.inj hb]
    exact hall _ (by omega) (by omega) hlt) (fun b hb => by
    rw [List.getElem?_drop, show i + 1 + (j - (i + 1)) = j by omega] at hb
    rcases Nat.lt_or_ge j c.size with k | k
    · rw [at_data c _ k] at hb
      rw [← Option.some.inj hb]
      exact hend k
    · rw [List.getElem?_eq_none (by rw [size_data]; exact k)] at hb; cases hb)
  unfold Lib.trimLeftB at h2
  rw [h2, List.drop_drop, show i + 1 + (j - (i + 1)) = j by omega]
theorem no_snoc {c : ByteArray} {i : Nat} (hi : i < c.size) (h : c[i] ≠ 47) (hno : (47 : UInt8) ∉ c.data.toList.take i) : (47 : UInt8) ∉ c.data.toList.take (i + 1) := by
  rw [take_snoc c i hi]
  intro e
  rcases List.mem_append.1 e with e | e
  · exact hno e
  · simp at e; exact h e.symm
theorem trimR_step (c : ByteArray) (h : 0 < c.size) (hc : c[c.size - 1]'(by omega) = 47) : Pp.trimR (c.data.toList.take (c.size - 1)) = Pp.trimR c.data.toList := by
  have e : c.data.toList = c.data.toList.take (c.size - 1) ++ [47] := by
    have h1 := take_snoc c (c.size - 1) (by omega)
    rw [hc, take_all c _ (by omega)] at h1
    exact h1
  conv => rhs; rw [e]
  unfold Pp.trimR
  rw [List.reverse_append]
  rfl
theorem trimR_end (c : ByteArray) (h : 0 < c.size) (hc : c[c.size - 1]'(by omega) ≠ 47) : Pp.trimR c.data.toList = c.data.toList := by
  have e : c.data.toList = c.data.toList.take (c.size - 1) ++ [c[c.size - 1]'(by omega)] := by
    have h1 := take_snoc c (c.size - 1) (by omega)
    rw [take_all c (c.size - 1 + 1) (by omega)] at h1
    exact h1
  rw [e]
  unfold Pp.trimR
  rw [List.reverse_append, List.reverse_singleton, List.singleton_append, List.dropWhile_cons_of_neg (by simpa using hc), List.reverse_cons, List.reverse_reverse]
end Go.Proofs.YtmlgggnjghkojaaDoor
