/-
  Ids of the program and of the document, whatever the number of ways.
-/
import Derived.Test.YtjjhidojialjoaaDoorN9
namespace Go.Proofs.YtjjhidojialjoaaDoor
open Go.RowKit

def LA (e : Int) (xs : List ByteArray) : List Nat := if sumB e = true then idsA e xs else []
def LB (e : Int) (xs ys : List ByteArray) : List Nat := if sumB e = true then idsB e xs ys else []
def erV (e : Int) : Value := if sumB e = true then .nilIface else .iface 35 (.int .i64 1)
def erN (e : Int) : Int := if sumB e = true then 0 else 1
theorem LA_len (e : Int) (xs : List ByteArray) : (LA e xs).length ≤ xs.length := by
  unfold LA
  split
  · unfold idsA; rw [In.nums_len, keys_length]; exact Nat.le_refl _
  · exact Nat.zero_le _
theorem LB_len (e : Int) (xs ys : List ByteArray) : (LB e xs ys).length ≤ ys.length := by
  unfold LB
  split
  · unfold idsB; rw [In.nums_len, keys_length]; exact Nat.le_refl _
  · exact Nat.zero_le _
theorem ids_all {v u : Value} {xs ys : List ByteArray} {e : Int} {w : World} (hr : Rd w v xs) (hq : Rd w u ys) (hsx : ∀ x ∈ xs, x.size ≤ 1048576) (hsy : ∀ x ∈ ys, x.size ≤ 1048576) (hn : xs.length + ys.length ≤ 2097152) :
    Calls Tryd.prog 4 #[v, u, .int .i64 e] w fun r w' => ∃ v1 v2, r = .returned (.tuple #[v1, v2, erV e]) ∧ OwnI w' w.heap.size v1 (LA e xs) ∧ OwnI w' w.heap.size v2 (LB e xs ys) ∧ Apart v1 v2 ∧ Below w.heap.size w w' := by
  cases he : sumB e with
  | true =>
    refine (ids_any hr hq (fun x hx => by have := hsx x hx; omega) (fun x hx => by have := hsy x hx; omega) (by omega) he).mono ?_
    rintro r w' ⟨v1, v2, rfl, h1, h2, h3, h4⟩
    unfold LA LB erV
    rw [if_pos he, if_pos he, if_pos he]
    exact ⟨v1, v2, rfl, h1, h2, h3, h4⟩
  | false =>
    refine (ids_odd v u e w he).mono ?_
    rintro r w' ⟨rfl, rfl⟩
    unfold LA LB erV
    rw [if_neg (by rw [he]; simp), if_neg (by rw [he]; simp), if_neg (by rw [he]; simp)]
    exact ⟨_, _, rfl, OwnI.nil _ _, OwnI.nil _ _, apart_none _, Below.refl _ _⟩
set_option maxHeartbeats 1000000 in
theorem refIds_odd (v u : Value) (e : Int) (w : World) (he : sumB e = false) :
    Calls Tryd.prog 5 #[v, u, .int .i64 e] w fun r w' => r = .returned (.tuple #[.slice none 0 0, .slice none 0 0, .int .i64 1]) ∧ w' = w := by
  have h : ¬ (0 ≤ e ∧ e ≤ 15) := fun h => by unfold sumB at he; rw [decide_eq_true h.1, decide_eq_true h.2] at he; cases he
  by_cases h1 : e < 0
  · clear h
    go_enter Tryd.func5, Tryd.ntmps5
    go_wp2
    go_ret3
    exact ⟨rfl, rfl⟩
  · have h2 : 15 < e := by omega
    clear h
    go_enter Tryd.func5, Tryd.ntmps5
    go_wp2
    go_ret3
    exact ⟨rfl, rfl⟩
theorem refIds_all {v u : Value} {xs ys : List ByteArray} {e : Int} {w : World} (hr : Rd w v xs) (hq : Rd w u ys) (hsx : ∀ x ∈ xs, x.size ≤ 1048576) (hsy : ∀ x ∈ ys, x.size ≤ 1048576) (hn : xs.length + ys.length ≤ 2097152) :
    Calls Tryd.prog 5 #[v, u, .int .i64 e] w fun r w' => ∃ v1 v2, r = .returned (.tuple #[v1, v2, .int .i64 (erN e)]) ∧ OwnI w' w.heap.size v1 (LA e xs) ∧ OwnI w' w.heap.size v2 (LB e xs ys) ∧ Below w.heap.size w w' := by
  cases he : sumB e with
  | true =>
    refine (refIds_in hr hq hsx hsy hn he).mono ?_
    rintro r w' ⟨v1, v2, rfl, h1, h2, h4⟩
    unfold LA LB erN
    rw [if_pos he, if_pos he, if_pos he]
    exact ⟨v1, v2, rfl, h1, h2, h4⟩
  | false =>
    refine (refIds_odd v u e w he).mono ?_
    rintro r w' ⟨rfl, rfl⟩
    unfold LA LB erN
    rw [if_neg (by rw [he]; simp), if_neg (by rw [he]; simp), if_neg (by rw [he]; simp)]
    exact ⟨_, _, rfl, OwnI.nil _ _, OwnI.nil _ _, Below.refl _ _⟩
theorem small_of {xs : List ByteArray} {N : Nat} (h : (DL xs).flatten.length + xs.length ≤ N) : ∀ x ∈ xs, x.size ≤ N := by
  induction xs with
  | nil => intro x hx; cases hx
  | cons y r ih =>
    have e : (DL (y :: r)).flatten.length = y.size + (DL r).flatten.length := by
      show (y.data.toList ++ (DL r).flatten).length = _
      rw [List.length_append, size_data]
    rw [e, List.length_cons] at h
    intro x hx
    rcases List.mem_cons.1 hx with rfl | hx
    · omega
    · exact ih (by omega) x hx
end Go.Proofs.YtjjhidojialjoaaDoor
