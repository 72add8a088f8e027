/-
  The walks of the program's Join, and of 'sure', which every law of this layer asks: it answers true.
-/
import Derived.Test.YtghdlfpjbmohbabDoorValid
import Derived.Lib.Join
namespace Go.Proofs.YtghdlfpjbmohbabDoor
open Go.RowKit

theorem join_flat (l : List (List UInt8)) : Lib.join l [] = l.flatten := by
  cases l with
  | nil => rfl
  | cons x r => rw [Lib.join_cons]; simp [Lib.joinTail]

set_option maxHeartbeats 400000 in
theorem join_any (bk o c : Nat) (xs : List ByteArray) (w : World) (hcells : ∀ (j : Nat) x, xs[j]? = some x → w.cell? ⟨bk, o + j, none⟩ = some (.string x))
    (hbk : bk < w.heap.size) (hN : xs.length ≤ 140737488355328) (hcap : xs.length ≤ c) (hlen : (DL xs).flatten.length ≤ 140737488355328) :
    Calls Tryd.prog 15 #[.slice (some ⟨bk, o, none⟩) xs.length c] w fun e w' => e = .returned (.string ⟨(DL xs).flatten.toArray⟩) ∧ Below w.heap.size w w' := by
  have hj : Lib.join (xs.map (·.data.toList)) (ByteArray.mk #[]).data.toList = (DL xs).flatten := join_flat _
  have K := Tryd.strings_Join bk o c xs ⟨#[]⟩ w hcells hbk hN hcap (by rw [hj]; exact hlen)
  rw [hj] at K
  have HK := hid K
  clear K hj hcells
  go_enter Tryd.func15, Tryd.ntmps15
  go_wp2_with fail
  refine HK.out.mono ?_
  rintro e w' ⟨rfl, hb⟩
  go_wp2
  go_ret
  exact ⟨rfl, hb⟩

set_option maxHeartbeats 400000 in
theorem join_none (a : Option Addr) (c : Nat) (w : World) :
    Calls Tryd.prog 15 #[.slice a 0 c] w fun e w' => e = .returned (.string ⟨#[]⟩) ∧ w' = w := by
  go_enter Tryd.func15, Tryd.ntmps15
  go_wp2_with fail
  refine (Tryd.strings_Join_none a c ⟨#[]⟩ w).mono ?_
  rintro e w' ⟨rfl, rfl⟩
  go_wp2
  go_ret
  exact ⟨rfl, rfl⟩

theorem split_ab (w : World) : Calls Tryd.prog 13 #[.string ⟨#[97, 10, 98]⟩] w fun e w' => e = .returned (.slice (some ⟨w.heap.size, 0, none⟩) 2 2) ∧
    w'.cell? ⟨w.heap.size, 0, none⟩ = some (.string ⟨#[97, 10]⟩) ∧ w'.cell? ⟨w.heap.size, 1, none⟩ = some (.string ⟨#[98]⟩) ∧ Below w.heap.size w w' ∧ w.heap.size < w'.heap.size := by
  have hc : Pl.cut (ByteArray.mk #[97, 10, 98]).data.toList = [[97, 10], [98]] := by decide
  have hn : Pl.num (ByteArray.mk #[97, 10, 98]).data.toList = 2 := by rw [Pl.num_eq, hc]; rfl
  refine (split_any ⟨#[97, 10, 98]⟩ w (by decide) (by rw [hn]; decide)).mono fun e w' ⟨he, ho, hb⟩ => ?_
  rw [hc] at he ho
  have h0 := ho.cellAt 0 (by decide)
  have h1 := ho.cellAt 1 (by decide)
  obtain ⟨_, h | ⟨g, cap, cur, hv, _, hh, _⟩⟩ := ho
  · cases h.1
  · cases hv
    exact ⟨he, h0, h1, hb, by
      rcases Nat.lt_or_ge w.heap.size w'.heap.size with h | h
      · exact h
      · rw [Array.getElem?_eq_none h] at hh; cases hh⟩

theorem place_ab (w : World) : Calls Tryd.prog 14 #[.string ⟨#[97, 98, 10, 99]⟩, .int .i64 3] w fun e w' => e = .returned (.tuple #[.int .i64 2, .int .i64 1, .bool true]) ∧ w' = w :=
  (place_in ⟨#[97, 98, 10, 99]⟩ 3 w (by decide) (by decide)).mono fun e w' ⟨he, hw⟩ => ⟨by rw [he]; rfl, hw⟩

theorem bare_x (w : World) : Calls Tryd.prog 17 #[.string ⟨#[120, 10]⟩] w fun e w' => e = .returned (.string ⟨#[120]⟩) ∧ w' = w :=
  (bare_any ⟨#[120, 10]⟩ w (by decide)).mono fun e w' ⟨he, hw⟩ => ⟨by rw [he]; rfl, hw⟩
theorem whole_x (w : World) : Calls Tryd.prog 18 #[.string ⟨#[120, 10]⟩] w fun e w' => e = .returned (.bool true) ∧ w' = w :=
  (whole_any ⟨#[120, 10]⟩ w (by decide)).mono fun e w' ⟨he, hw⟩ => ⟨by rw [he]; rfl, hw⟩
theorem count_x (w : World) : Calls Tryd.prog 19 #[.string ⟨#[10, 10, 120]⟩] w fun e w' => e = .returned (.int .i64 3) ∧ w' = w :=
  (count_any ⟨#[10, 10, 120]⟩ w (by decide)).mono fun e w' ⟨he, hw⟩ => ⟨by rw [he]; rfl, hw⟩

theorem two_cells {w : World} {bk : Nat} {x y : ByteArray} (h0 : w.cell? ⟨bk, 0, none⟩ = some (.string x)) (h1 : w.cell? ⟨bk, 1, none⟩ = some (.string y)) :
    ∀ (j : Nat) z, [x, y][j]? = some z → w.cell? ⟨bk, 0 + j, none⟩ = some (.string z) := by
  intro j z hj
  match j, hj with
  | 0, hj => simp at hj; subst hj; exact h0
  | 1, hj => simp at hj; subst hj; exact h1

theorem join_ab (w : World) (bk : Nat) (hbk : bk < w.heap.size) (h0 : w.cell? ⟨bk, 0, none⟩ = some (.string ⟨#[97, 10]⟩)) (h1 : w.cell? ⟨bk, 1, none⟩ = some (.string ⟨#[98]⟩)) :
    Calls Tryd.prog 15 #[.slice (some ⟨bk, 0, none⟩) 2 2] w fun e w' => e = .returned (.string ⟨#[97, 10, 98]⟩) ∧ Below w.heap.size w w' :=
  (join_any bk 0 2 [⟨#[97, 10]⟩, ⟨#[98]⟩] w (two_cells h0 h1) hbk (by decide) (by decide) (by decide)).mono fun e w' ⟨he, hw⟩ => ⟨by rw [he]; rfl, hw⟩
theorem valid_ab (w : World) (bk : Nat) (h0 : w.cell? ⟨bk, 0, none⟩ = some (.string ⟨#[97, 10]⟩)) (h1 : w.cell? ⟨bk, 1, none⟩ = some (.string ⟨#[98]⟩)) :
    Calls Tryd.prog 16 #[.slice (some ⟨bk, 0, none⟩) 2 2] w fun e w' => e = .returned (.bool true) ∧ w' = w :=
  (valid_any bk 0 2 [⟨#[97, 10]⟩, ⟨#[98]⟩] w (two_cells h0 h1) (by decide) (by decide)).mono fun e w' ⟨he, hw⟩ => ⟨by rw [he]; rfl, hw⟩
theorem valid_no (w : World) (bk : Nat) (h0 : w.cell? ⟨bk, 0, none⟩ = some (.string ⟨#[97]⟩)) (h1 : w.cell? ⟨bk, 1, none⟩ = some (.string ⟨#[98]⟩)) :
    Calls Tryd.prog 16 #[.slice (some ⟨bk, 0, none⟩) 2 2] w fun e w' => e = .returned (.bool false) ∧ w' = w :=
  (valid_any bk 0 2 [⟨#[97]⟩, ⟨#[98]⟩] w (two_cells h0 h1) (by decide) (by decide)).mono fun e w' ⟨he, hw⟩ => ⟨by rw [he]; rfl, hw⟩

set_option maxHeartbeats 1000000 in
theorem sure_any (w : World) : Calls Tryd.prog 7 #[] w fun e w' => e = .returned (.bool true) ∧ Below w.heap.size w w' := by
  go_enter Tryd.func7, Tryd.ntmps7
  go_wp2_with fail
  refine (split_ab _).mono ?_
  rintro e w1 ⟨rfl, h0, h1, hb1, hz1⟩
  go_wp2_with fail
  refine (place_ab _).mono ?_
  rintro e w2 ⟨rfl, rfl⟩
  go_wp2_with fail
  refine (join_ab _ _ hz1 h0 h1).mono ?_
  rintro e w3 ⟨rfl, hb3⟩
  have h0' := (hb3.cell (p := ⟨w.heap.size, 0, none⟩) hz1).trans h0
  have h1' := (hb3.cell (p := ⟨w.heap.size, 1, none⟩) hz1).trans h1
  go_wp2_with fail
  refine (valid_ab _ _ h0' h1').mono ?_
  rintro e w4 ⟨rfl, rfl⟩
  go_wp2_with fail
  refine (valid_no _ _ (by simp) (by simp)).mono ?_
  rintro e w5 ⟨rfl, rfl⟩
  go_wp2_with fail
  refine (bare_x _).mono ?_
  rintro e w5 ⟨rfl, rfl⟩
  go_wp2_with fail
  refine (whole_x _).mono ?_
  rintro e w5 ⟨rfl, rfl⟩
  go_wp2_with fail
  refine (count_x _).mono ?_
  rintro e w5 ⟨rfl, rfl⟩
  go_wp2
  go_ret
  exact ⟨rfl, (hb1.trans (hb3.mono (Nat.le_of_lt hz1))).alloc (by have := hb1.size; have := hb3.size; omega) _⟩
end Go.Proofs.YtghdlfpjbmohbabDoor
