/-
  The walk of same: two lists of strings, held against each other; num of an error by its number.
-/
import Derived.Test.YtmlgggnjghkojabGreatDoorP3
import Derived.Test.YtmlgggnjghkojabGreatDoorNum
namespace Go.Proofs.YtmlgggnjghkojabGreatDoor
open Go.RowKit

theorem num_errV (n : Nat) (w : World) (hg : ErrVar w) : Calls Tryz.prog 14 #[errV n] w fun e w' => e = .returned (.int .i64 n) ∧ Below w.heap.size w w' := by
  by_cases h : n = 0
  · subst h; exact num_nil w
  · rw [errV_pos h]; exact num_errno n w hg

theorem ret_b {x y : Bool} (h : x = y) : Ending.returned (.bool x) = .returned (.bool y) := by rw [h]
set_option maxHeartbeats 400000 in
theorem same_unlike (a b : Option Addr) (n m c d : Nat) (w : World) (h : n ≠ m) :
    Calls Tryz.prog 6 #[.slice a n c, .slice b m d] w fun e w' => e = .returned (.bool false) ∧ w' = w := by
  have hne : ((n : Int) != (m : Int)) = true := by rw [bne_iff_ne]; omega
  go_enter Tryz.func6, Tryz.ntmps6
  go_wp2
  go_ret
  exact ⟨rfl, rfl⟩
set_option maxHeartbeats 400000 in
theorem same_none (a b : Option Addr) (c d : Nat) (w : World) :
    Calls Tryz.prog 6 #[.slice a 0 c, .slice b 0 d] w fun e w' => e = .returned (.bool true) ∧ w' = w := by
  go_enter Tryz.func6, Tryz.ntmps6
  go_wp2
  refine wp_loop_rounds 1 ?_
  rw [rounds_succ]
  go_wp2
  go_ret
  exact ⟨rfl, rfl⟩
theorem like_eq (x y : ByteArray) : (x.toList == y.toList) = decide (x = y) := by
  rw [bytes_eq, Bool.eq_iff_iff, decide_eq_true_eq, decide_eq_true_eq]
  exact ⟨bytes_ext, fun h => by rw [h]⟩
theorem same_no {xs ys : List ByteArray} {k : Nat} {x y : ByteArray} (hx : xs[k]? = some x) (hy : ys[k]? = some y) (h : (!x.toList == y.toList) = true) : decide (xs = ys) = false := by
  rw [like_eq, Bool.not_eq_true', decide_eq_false_iff_not] at h
  refine decide_eq_false fun e => h ?_
  rw [e, hy] at hx
  exact (Option.some.inj hx).symm
theorem same_yes {xs ys : List ByteArray} {k : Nat} {x y : ByteArray} (hx : xs[k]? = some x) (hy : ys[k]? = some y) (h : (!x.toList == y.toList) = false) (ht : xs.take k = ys.take k) : xs.take (k + 1) = ys.take (k + 1) := by
  rw [like_eq, Bool.not_eq_false', decide_eq_true_eq] at h
  rw [List.take_add_one, List.take_add_one, ht, hx, hy, h]

set_option maxHeartbeats 1000000 in
theorem same_some (b o c b' o' c' n : Nat) (xs ys : List ByteArray) (w : World) (hx : xs.length = n) (hy : ys.length = n) (hn : n ≤ 140737488355328)
    (hX : ∀ (j : Nat) x, xs[j]? = some x → w.cell? ⟨b, o + j, none⟩ = some (.string x)) (hY : ∀ (j : Nat) x, ys[j]? = some x → w.cell? ⟨b', o' + j, none⟩ = some (.string x)) :
    Calls Tryz.prog 6 #[.slice (some ⟨b, o, none⟩) n c, .slice (some ⟨b', o', none⟩) n c'] w fun e w' => e = .returned (.bool (decide (xs = ys))) ∧ ∃ m, w' = w.drewN m := by
  have HX := hid hX
  have HY := hid hY
  have hlx := hid hx
  have hly := hid hy
  clear hX hY hx hy
  go_enter Tryz.func6, Tryz.ntmps6
  go_wp2
  go_loopw [5] (fun i wr => ∃ k : Nat, k ≤ n ∧ i = .int .i64 k ∧ xs.take k = ys.take k ∧ ∃ m, wr = w.drewN m) (fun i _ => n - (intOf i).toNat)
  case atStart => exact ⟨0, Nat.zero_le _, rfl, rfl, 0, rfl⟩
  case round =>
    obtain ⟨k, hk, rfl, ht, m, rfl⟩ := hrel
    have HT := hid ht
    clear ht
    by_cases hlt : k < n
    · obtain ⟨x, hx⟩ : ∃ x, xs[k]? = some x := ⟨_, List.getElem?_eq_getElem (by rw [hlx.out]; exact hlt)⟩
      obtain ⟨y, hy⟩ : ∃ y, ys[k]? = some y := ⟨_, List.getElem?_eq_getElem (by rw [hly.out]; exact hlt)⟩
      have cx := HX.out k x hx
      have cy := HY.out k y hy
      have Hx := hid hx
      have Hy := hid hy
      clear hx hy
      go_wp2
      go_quiet (fail)
      go_wp2
      · have ht : (!x.toList == y.toList) = true := by assumption
        go_ret
        exact ⟨ret_b (same_no Hx.out Hy.out ht).symm, _, World.drewN_drewN _ _ _⟩
      · have ht : (!x.toList == y.toList) = false := by assumption
        go_roundw
        case rel => exact ⟨k + 1, by omega, by go_num, same_yes Hx.out Hy.out ht HT.out, _, rfl⟩
        case measure => simp [intOf]; omega
    · have hkn : k = n := by omega
      subst hkn
      have hfin : decide (xs = ys) = true := by
        have := HT.out
        rw [List.take_of_length_le (Nat.le_of_eq hlx.out), List.take_of_length_le (Nat.le_of_eq hly.out)] at this
        exact decide_eq_true this
      have HF := hid hfin
      clear hfin
      go_wp2
      go_ret
      exact ⟨ret_b HF.out.symm, _, rfl⟩

theorem same_rd {w : World} {v u : Value} {xs ys : List ByteArray} (hx : Rd w v xs) (hy : Rd w u ys) (hn : xs.length ≤ 140737488355328) :
    Calls Tryz.prog 6 #[v, u] w fun e w' => e = .returned (.bool (decide (xs = ys))) ∧ Below w.heap.size w w' := by
  have stay : ∀ {e e' : Ending} {w' : World}, e = e' → w' = w → e = e' ∧ Below w.heap.size w w' := fun h k => ⟨h, k ▸ Below.refl _ _⟩
  rcases hx with ⟨rfl, a, c, rfl⟩ | ⟨b, o, c, rfl, hc, hb, hX⟩
  · rcases hy with ⟨rfl, a', c', rfl⟩ | ⟨b', o', c', rfl, hc', hb', hY⟩
    · exact (same_none a a' c c' w).mono fun _ _ ⟨he, hw⟩ => stay he hw
    · cases ys with
      | nil => exact (same_none a _ c c' w).mono fun _ _ ⟨he, hw⟩ => stay he hw
      | cons y r => exact (same_unlike a _ 0 _ c c' w (by simp)).mono fun _ _ ⟨he, hw⟩ => stay (by rw [he]; rfl) hw
  · rcases hy with ⟨rfl, a', c', rfl⟩ | ⟨b', o', c', rfl, hc', hb', hY⟩
    · cases xs with
      | nil => exact (same_none _ a' c c' w).mono fun _ _ ⟨he, hw⟩ => stay he hw
      | cons y r => exact (same_unlike _ a' _ 0 c c' w (by simp)).mono fun _ _ ⟨he, hw⟩ => stay (by rw [he]; rfl) hw
    · by_cases h : xs.length = ys.length
      · have K := same_some b o c b' o' c' xs.length xs ys w rfl h.symm hn hX hY
        rw [← h]
        exact K.mono fun _ _ ⟨he, m, hw⟩ => ⟨he, hw ▸ below_drewN w m⟩
      · exact (same_unlike _ _ _ _ c c' w h).mono fun _ _ ⟨he, hw⟩ => stay (by rw [he, decide_eq_false (fun e => h (by rw [e]))]) hw
end Go.Proofs.YtmlgggnjghkojabGreatDoor
