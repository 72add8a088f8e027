/-
  The walks of the program's firstLength and Words.
-/
import Derived.Test.YtgpgpopefmkpoaaDoorS1
namespace Go.Proofs.YtgpgpopefmkpoaaDoor
open Go.RowKit

theorem fl_at {l : Sd.Bs} {k : Nat} (h0 : 0 < k) (hk : k ≤ l.length) (hn : ∀ j x y, j + 1 < k → l[j]? = some x → l[j + 1]? = some y → Sd.cut x y = false)
    (he : k = l.length ∨ ∃ x y, l[k - 1]? = some x ∧ l[k]? = some y ∧ Sd.cut x y = true) : Sd.fl l = k := by
  obtain ⟨n, rfl⟩ : ∃ n, k = n + 1 := ⟨k - 1, by omega⟩
  exact Sd.fl_eq n l (by omega) (fun j x y hj => hn j x y (by omega)) he
/-- no piece ends within the first so many -/
def NC (l : Sd.Bs) (k : Nat) : Prop := ∀ j x y, j + 1 < k → l[j]? = some x → l[j + 1]? = some y → Sd.cut x y = false
theorem nc_one (l : Sd.Bs) : NC l 1 := fun j x y hj => by omega
theorem nc_more {l : Sd.Bs} {k : Nat} {x y : UInt8} (h : NC l k) (hk : 0 < k) (hx : l[k - 1]? = some x) (hy : l[k]? = some y) (hc : Sd.cut x y = false) : NC l (k + 1) := by
  intro j a b hj ha hb
  by_cases e : j + 1 < k
  · exact h j a b e ha hb
  · have e2 : j = k - 1 := by omega
    subst e2
    rw [show k - 1 + 1 = k by omega] at hb
    rw [hx] at ha
    rw [hy] at hb
    cases ha; cases hb
    exact hc
theorem cut_two {x y : UInt8} (h : Sd.kd x = 2) : Sd.cut x y = true := by
  unfold Sd.cut
  rw [h]
  cases e : Sd.kd y == 2 with
  | true => simp
  | false => simp only [bne, e]; rfl
theorem cut_un {x y : UInt8} (h : Sd.kd y ≠ Sd.kd x) : Sd.cut x y = true := by
  unfold Sd.cut
  rw [bne_iff_ne.2 h]; rfl
theorem cut_same {x y : UInt8} (h : Sd.kd y = Sd.kd x) (h2 : Sd.kd x ≠ 2) : Sd.cut x y = false := by
  unfold Sd.cut
  rw [h, beq_eq_false_iff_ne.2 h2]
  simp

set_option maxHeartbeats 2000000 in
theorem firstLength_any (s : ByteArray) (w : World) (h0 : 0 < s.size) (hs : s.size ≤ 140737488355327) :
    Calls Tryd.prog 68 #[.string s] w fun e w' => e = .returned (.int .i64 (Sd.fl s.data.toList : Nat)) ∧ w' = w := by
  have HK0 : Hid (Sd.kd s[0] = Sd.kdN s[0].toNat) := hid rfl
  go_enter Tryd.func68, Tryd.ntmps68
  go_wp2_with (go_at_call 84; refine (kindOf_any _ _).mono ?_; rintro e w2 ⟨rfl, h2⟩; obtain rfl : w = w2 := h2.symm)
  go_loopw [4] (fun n wr => ∃ k : Nat, 0 < k ∧ k ≤ s.size ∧ n = .int .i64 k ∧ wr = w ∧ Hid (NC s.data.toList k) ∧ Hid (∃ x, s.data.toList[k - 1]? = some x ∧ Sd.kd x = Sd.kd s[0])) (fun n _ => s.size - (intOf n).toNat)
  case atStart => exact ⟨1, by omega, h0, rfl, rfl, hid (nc_one _), hid ⟨_, get_data h0, rfl⟩⟩
  case round =>
    obtain ⟨k, hk0, hk, rfl, hwr, HN, HX⟩ := hrel
    subst hwr
    by_cases h2 : Sd.kdN s[0].toNat = 2
    · have HF : Hid (Sd.fl s.data.toList = k) := hid (by
        obtain ⟨x, hx, hkx⟩ := HX.out
        refine fl_at hk0 (by rw [dsize]; exact hk) HN.out ?_
        by_cases e : k = s.size
        · exact .inl (by rw [dsize]; exact e)
        · exact .inr ⟨x, _, hx, get_data (by omega), cut_two (hkx.trans h2)⟩)
      rw [h2]
      clear h2 HK0
      go_wp2
      go_ret
      exact ⟨ret_int (by rw [HF.out]), rfl⟩
    · by_cases hlt : k < s.size
      · have HY := hid (get_data hlt)
        have q2 : (((Sd.kdN s[0].toNat : Nat) : Int) != 2) = true := bne_iff_ne.2 (by omega)
        by_cases hq : Sd.kdN s[k].toNat = Sd.kdN s[0].toNat
        · have q1 : (((Sd.kdN s[k].toNat : Nat) : Int) == ((Sd.kdN s[0].toNat : Nat) : Int)) = true := ieq (by omega)
          have HN2 : Hid (NC s.data.toList (k + 1)) := hid (by
            obtain ⟨x, hx, hkx⟩ := HX.out
            exact nc_more HN.out hk0 hx HY.out (cut_same (hq.trans hkx.symm) (by rw [hkx]; exact h2)))
          have HX2 : Hid (∃ x, s.data.toList[k + 1 - 1]? = some x ∧ Sd.kd x = Sd.kd s[0]) := hid ⟨_, HY.out, hq⟩
          clear hq h2
          go_wp2_with (go_at_call 84; refine (kindOf_any _ _).mono ?_; rintro e w2 ⟨rfl, h2⟩; obtain rfl : wr = w2 := h2.symm)
          go_roundw
          case rel => exact ⟨k + 1, by omega, by omega, by go_num, by first | rfl | trivial, HN2, HX2⟩
          case measure => simp [intOf]; omega
        · have q1 : (((Sd.kdN s[k].toNat : Nat) : Int) == ((Sd.kdN s[0].toNat : Nat) : Int)) = false := ine (by omega)
          have HF : Hid (Sd.fl s.data.toList = k) := hid (by
            obtain ⟨x, hx, hkx⟩ := HX.out
            exact fl_at hk0 (by rw [dsize]; exact hk) HN.out (.inr ⟨x, _, hx, HY.out, cut_un (by rw [hkx]; exact hq)⟩))
          clear hq h2
          go_wp2_with (go_at_call 84; refine (kindOf_any _ _).mono ?_; rintro e w2 ⟨rfl, h2⟩; obtain rfl : wr = w2 := h2.symm)
          go_ret
          exact ⟨ret_int (by rw [HF.out]), rfl⟩
      · have q2 : (((Sd.kdN s[0].toNat : Nat) : Int) != 2) = true := bne_iff_ne.2 (by omega)
        have HF : Hid (Sd.fl s.data.toList = k) := hid (fl_at hk0 (by rw [dsize]; exact hk) HN.out (.inl (by rw [dsize]; omega)))
        clear h2
        go_wp2
        go_ret
        exact ⟨ret_int (by rw [HF.out]), rfl⟩
end Go.Proofs.YtgpgpopefmkpoaaDoor
