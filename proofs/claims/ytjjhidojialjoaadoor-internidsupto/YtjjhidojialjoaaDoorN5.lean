/-
  The walks of the program's Key and Blank, of the document's Blank.
-/
import Derived.Test.YtjjhidojialjoaaDoorN3
import Derived.Test.YtjjhidojialjoaaDoorN4
namespace Go.Proofs.YtjjhidojialjoaaDoor
open Go.RowKit

set_option maxHeartbeats 2000000 in
theorem key_in (s : ByteArray) (n : Nat) (h1 : 1 ≤ n) (hn : n ≤ 15) (w : World) (hs : s.size ≤ 140737488355327) :
    Calls Tryd.prog 14 #[.string s, .int .i64 n] w fun e w' => e = .returned (.string ⟨(In.key n s.data.toList).toArray⟩) ∧ Below w.heap.size w w' := by
  have hs' : s.size ≤ maxLen := by unfold maxLen; omega
  have hsl := bare_len s
  have hsb : (bareB s).size ≤ 140737488355327 := by omega
  have d1 : decide ((0 : Int) ≤ n) = true := decide_eq_true (by omega)
  have d2 : decide ((n : Int) ≤ 15) = true := decide_eq_true (by omega)
  have d3 : ((n : Int) == 0) = false := ine (by omega)
  have hb1 := (bit_at n hn).1
  cases c1 : (bits .and .i64 (n : Int) 1 != 0) with
  | false =>
    rw [c1] at hb1
    have ho : ¬ n % 2 = 1 := of_decide_eq_false hb1.symm
    have HF : Hid (In.fk n (bareB s).data.toList = In.sp (In.kd n) (bareB s).data.toList) := hid (if_neg ho)
    clear hb1 ho
    go_enter Tryd.func14, Tryd.ntmps14
    go_wp2_with (first | (go_at_call 9; refine (isSum_any _ _).mono ?_; rintro e w2 ⟨rfl, h2⟩; obtain rfl : w = w2 := h2.symm) | (go_at_call 24; refine (bare_any _ _ hs').mono ?_; rintro e w2 ⟨rfl, h2⟩; obtain rfl : w = w2 := h2.symm))
    refine (spaced_T _ n hn _ hsb).mono ?_
    rintro e w3 ⟨T, rfl, hT1, hT2, hb3⟩
    have HK := hid (key_of n s T (by rw [HF.out]; exact hT1))
    clear hT1 HF
    go_wp2
    go_ret
    exact ⟨ret_str (bytes_of HK.out), hb3⟩
  | true =>
    rw [c1] at hb1
    have ho : n % 2 = 1 := of_decide_eq_true hb1.symm
    have HF : Hid (In.fk n (bareB s).data.toList = In.lw (In.sp (In.kd n) (bareB s).data.toList)) := hid (if_pos ho)
    clear hb1 ho
    go_enter Tryd.func14, Tryd.ntmps14
    go_wp2_with (first | (go_at_call 9; refine (isSum_any _ _).mono ?_; rintro e w2 ⟨rfl, h2⟩; obtain rfl : w = w2 := h2.symm) | (go_at_call 24; refine (bare_any _ _ hs').mono ?_; rintro e w2 ⟨rfl, h2⟩; obtain rfl : w = w2 := h2.symm))
    refine (spaced_T _ n hn _ hsb).mono ?_
    rintro e w3 ⟨T, rfl, hT1, hT2, hb3⟩
    have HT1 := hid hT1
    clear hT1
    go_wp2_with fail
    refine (lowered_T _ _ (by omega)).mono ?_
    rintro e w4 ⟨U, rfl, hU1, hU2, hb4⟩
    have HK := hid (key_of n s U (by rw [HF.out, ← HT1.out]; exact hU1))
    clear hU1 HF
    go_wp2
    go_ret
    exact ⟨ret_str (bytes_of HK.out), hb3.trans (hb4.mono hb3.size)⟩

set_option maxHeartbeats 1000000 in
theorem key_any (s : ByteArray) (e : Int) (w : World) (hs : s.size ≤ 140737488355327) :
    Calls Tryd.prog 14 #[.string s, .int .i64 e] w fun r w' => r = .returned (.string ⟨(In.keyI e s.data.toList).toArray⟩) ∧ Below w.heap.size w w' := by
  by_cases h : 1 ≤ e ∧ e ≤ 15
  · obtain ⟨n, rfl⟩ : ∃ n : Nat, e = n := ⟨e.toNat, by omega⟩
    have hk : In.keyI (n : Int) s.data.toList = In.key n s.data.toList := by unfold In.keyI; rw [if_pos (by omega)]; rfl
    rw [hk]
    exact key_in s n (by omega) (by omega) w hs
  · have HK : Hid (In.keyI e s.data.toList = s.data.toList) := hid (by
      unfold In.keyI
      by_cases h0 : e = 0
      · subst h0; exact In.key_zero _
      · rw [if_neg (by omega)])
    by_cases h1 : e < 0
    · have d1 : decide ((0 : Int) ≤ e) = false := decide_eq_false (by omega)
      clear h
      go_enter Tryd.func14, Tryd.ntmps14
      go_wp2_with (go_at_call 9; refine (isSum_any _ _).mono ?_; rintro e w2 ⟨rfl, h2⟩; obtain rfl : w = w2 := h2.symm)
      go_ret
      exact ⟨ret_str (bytes_of HK.out.symm), Below.refl _ _⟩
    · have d1 : decide ((0 : Int) ≤ e) = true := decide_eq_true (by omega)
      by_cases h0 : e = 0
      · subst h0
        clear h
        go_enter Tryd.func14, Tryd.ntmps14
        go_wp2_with (go_at_call 9; refine (isSum_any _ _).mono ?_; rintro e w2 ⟨rfl, h2⟩; obtain rfl : w = w2 := h2.symm)
        go_ret
        exact ⟨ret_str (bytes_of HK.out.symm), Below.refl _ _⟩
      · have d2 : decide (e ≤ 15) = false := decide_eq_false (by omega)
        clear h
        go_enter Tryd.func14, Tryd.ntmps14
        go_wp2_with (go_at_call 9; refine (isSum_any _ _).mono ?_; rintro e w2 ⟨rfl, h2⟩; obtain rfl : w = w2 := h2.symm)
        go_ret
        exact ⟨ret_str (bytes_of HK.out.symm), Below.refl _ _⟩

/-- IN3 -/
def blk (l : List UInt8) : Bool := (In.tl (if Pl.wh l = true then l.dropLast else l)).isEmpty

set_option maxHeartbeats 1000000 in
theorem blank_any (s : ByteArray) (w : World) (hs : s.size ≤ 140737488355327) :
    Calls Tryd.prog 15 #[.string s] w fun e w' => e = .returned (.bool (blk s.data.toList)) ∧ w' = w := by
  have hs' : s.size ≤ maxLen := by unfold maxLen; omega
  have hsb : (bareB s).size ≤ maxLen := Nat.le_trans (bare_len s) hs'
  have HB : Hid ((In.tl (bareB s).data.toList).isEmpty = blk s.data.toList) := hid (by rw [bare_data]; rfl)
  go_enter Tryd.func15, Tryd.ntmps15
  go_wp2_with (first | (go_at_call 24; refine (bare_any _ _ hs').mono ?_; rintro e w2 ⟨rfl, h2⟩; obtain rfl : w = w2 := h2.symm) | (go_at_call 27; refine (trimmed_any _ _ hsb).mono ?_; rintro e w2 ⟨rfl, h2⟩; obtain rfl : w = w2 := h2.symm))
  all_goals go_ret
  all_goals exact ⟨ret_bool HB.out, rfl⟩
end Go.Proofs.YtjjhidojialjoaaDoor
