/-
  The walk of sideOf: first the plain side of it, and a map of counts.
-/
import Derived.Test.YtdilmgcdebobaaaK9
import Derived.Maps.OwnSet
import Derived.Maps.OwnOps
import Derived.OwnWalk
import Derived.Laws.MakeOwn
namespace Go.Proofs.Ytdilmgcdebobaaa
open Go.RowKit
open Go.Maps (Keyed Tidy)

theorem intLaw : Keyed Try.prog 3 := Maps.int_keyed Try.underlying3
theorem zeroInt (w : World) : (zeroValue 3).run Try.prog w = .ok (.int .i64 0) w := by kernel_rfl
/-- a map's datum: how often each stands in the row -/
def Cnt (D : DataW Unit) (l : List Int) : Prop := Tidy D ∧ ∀ x : Int, D.atKey (.int .i64 x) (.lit (.int .i64 0)) = .lit (.int .i64 (l.count x))
theorem cnt_nil : Cnt (.map []) [] := ⟨Maps.tidy_empty, fun _ => rfl⟩
theorem isKey_int (k : Int) : WideAt.IsKeyLit (.int .i64 k) := by first | exact ⟨_, rfl⟩ | trivial | simp [WideAt.IsKeyLit]
theorem Cnt.put {D : DataW Unit} {l : List Int} (h : Cnt D l) (k : Int) : Cnt (D.put (.int .i64 k) (.lit (.int .i64 ((l.count k : Int) + 1)))) (l ++ [k]) := by
  obtain ⟨ht, hk⟩ := h
  refine ⟨ht.put (isKey_int k) _, fun j => ?_⟩
  by_cases hj : j = k
  · subst hj
    rw [Maps.atKey_put_same ht.isMap (isKey_int j), List.count_append]
    simp
  · have hne : (Lit.int .i64 j) ≠ .int .i64 k := fun e => hj (by cases e; rfl)
    rw [Maps.atKey_put_other hne, hk j, List.count_append]
    simp [Ne.symm hj]
def MapC (w : World) (M n : Nat) (l : List Int) : Prop := ∃ D : DataW Unit, w.ownsMap Try.prog 3 (plainElem Try.prog 3) M n D ∧ Cnt D l
theorem MapC.far {w w' : World} {M n : Nat} {l : List Int} (h : MapC w M n l) (hb : w'.heap[M]? = w.heap[M]?) : MapC w' M n l := by
  obtain ⟨D, ⟨es, clock, hm, r⟩, hc⟩ := h
  exact ⟨D, ⟨es, clock, hb.trans hm, r⟩, hc⟩
theorem MapC.lt {w : World} {M n : Nat} {l : List Int} (h : MapC w M n l) : M < w.heap.size := by
  obtain ⟨D, h1, _⟩ := h
  exact h1.lt
theorem wfI {n : Int} (h : I64 n) : (Lit.int .i64 n).wf = true := WalkArith.wf_i64 h

/-! ### places -/
def pl0 (p : Int → Bool) : List Int → Nat → List Int
  | [], _ => []
  | x :: l, k => if p x then (k : Int) :: pl0 p l (k + 1) else pl0 p l (k + 1)
theorem pl0_snoc (p : Int → Bool) (x : Int) : ∀ (l : List Int) (k : Nat), pl0 p (l ++ [x]) k = pl0 p l k ++ (if p x then [((k + l.length : Nat) : Int)] else [])
  | [], k => by
    show pl0 p [x] k = _
    unfold pl0 pl0
    by_cases h : p x <;> simp [h]
  | y :: l, k => by
    show pl0 p (y :: (l ++ [x])) k = _
    unfold pl0
    rw [pl0_snoc p x l (k + 1), List.length_cons, show k + 1 + l.length = k + (l.length + 1) by omega]
    by_cases h : p y <;> simp [h]
theorem pl0_len (p : Int → Bool) : ∀ (l : List Int) (k : Nat), (pl0 p l k).length = (l.filter p).length
  | [], k => rfl
  | y :: l, k => by
    unfold pl0
    by_cases h : p y <;> simp [h, pl0_len p l (k + 1)]
theorem pl0_in (p : Int → Bool) : ∀ (l : List Int) (k : Nat) (z : Int), z ∈ pl0 p l k → (k : Int) ≤ z ∧ z < ((k + l.length : Nat) : Int)
  | [], k, z, h => by cases h
  | y :: l, k, z, h => by
    unfold pl0 at h
    by_cases hp : p y
    · rw [if_pos hp, List.mem_cons] at h
      rcases h with rfl | h
      · simp; omega
      · have := pl0_in p l (k + 1) z h
        simp only [List.length_cons]; omega
    · rw [if_neg hp] at h
      have := pl0_in p l (k + 1) z h
      simp only [List.length_cons]; omega
/-- the marks of a row of which k numbers have been looked at -/
def mkAt (p : Int → Bool) (l : List Int) (k : Nat) : List Bool := (l.take k).map (fun x => !p x) ++ List.replicate (l.length - k) false
theorem mkAt_len (p : Int → Bool) (l : List Int) (k : Nat) (h : k ≤ l.length) : (mkAt p l k).length = l.length := by
  unfold mkAt
  rw [List.length_append, List.length_map, List.length_take, List.length_replicate]; omega
theorem mkAt_end (p : Int → Bool) (l : List Int) : mkAt p l l.length = l.map (fun x => !p x) := by unfold mkAt; simp
theorem mkAt_next {p : Int → Bool} {l : List Int} {k : Nat} {x : Int} (h : l[k]? = some x) : mkAt p l (k + 1) = if p x then mkAt p l k else (mkAt p l k).set k true := by
  have hk : k < l.length := by
    rcases Nat.lt_or_ge k l.length with q | q
    · exact q
    · rw [List.getElem?_eq_none q] at h; cases h
  have e : mkAt p l (k + 1) = (l.take k).map (fun x => !p x) ++ ((!p x) :: List.replicate (l.length - (k + 1)) false) := by
    unfold mkAt
    rw [take_snoc h, List.map_append, List.append_assoc]; rfl
  have e2 : mkAt p l k = (l.take k).map (fun x => !p x) ++ (false :: List.replicate (l.length - (k + 1)) false) := by
    unfold mkAt
    rw [show l.length - k = (l.length - (k + 1)) + 1 by omega, List.replicate_succ]
  rw [e, e2]
  by_cases hp : p x
  · simp [hp]
  · have hlen : ((l.take k).map (fun x => !p x)).length = k := by rw [List.length_map, List.length_take]; omega
    rw [if_neg hp, List.set_append_right k true (by omega), hlen, Nat.sub_self]
    simp [hp]
/-! ### places and marks -/
theorem spread_none (p : Int → Bool) : ∀ (l : List Int) (n : Nat), (l.filter p).length ≤ n → My.spread p l (List.replicate n false) = l.map (fun x => !p x)
  | [], n, _ => rfl
  | x :: l, n, h => by
    unfold My.spread
    by_cases hp : p x
    · rw [List.filter_cons_of_pos hp, List.length_cons] at h
      obtain ⟨m, rfl⟩ : ∃ m, n = m + 1 := ⟨n - 1, by omega⟩
      rw [if_pos hp, List.replicate_succ, List.tail_cons, spread_none p l m (by omega)]
      simp [hp]
    · rw [List.filter_cons_of_neg hp] at h
      rw [if_neg hp, spread_none p l n h]
      simp [hp]
theorem spread_set (p : Int → Bool) : ∀ (l : List Int) (m : List Bool) (i k : Nat) (z : Int), (pl0 p l k)[i]? = some z → i < m.length → (My.spread p l m).set (z.toNat - k) true = My.spread p l (m.set i true)
  | [], m, i, k, z, h, _ => by simp [pl0] at h
  | x :: l, m, i, k, z, h, hi => by
    unfold pl0 at h
    unfold My.spread
    by_cases hp : p x
    · rw [if_pos hp] at h
      rw [if_pos hp, if_pos hp]
      cases m with
      | nil => simp at hi
      | cons b m =>
        cases i with
        | zero =>
          simp at h
          subst h
          simp
        | succ i =>
          rw [List.getElem?_cons_succ] at h
          have hz := pl0_in p l (k + 1) z (List.mem_of_getElem? h)
          have ih := spread_set p l m i (k + 1) z h (by simpa using hi)
          rw [show z.toNat - k = (z.toNat - (k + 1)) + 1 by omega]
          simp [ih]
    · rw [if_neg hp] at h
      rw [if_neg hp, if_neg hp]
      have hz := pl0_in p l (k + 1) z (List.mem_of_getElem? h)
      have ih := spread_set p l m i (k + 1) z h hi
      rw [show z.toNat - k = (z.toNat - (k + 1)) + 1 by omega]
      simp [ih]
/-- marks from x on, n of them -/
def fillB (m : List Bool) : Nat → Nat → List Bool
  | _, 0 => m
  | x, n + 1 => (fillB m x n).set (x + n) true
theorem fillB_len (m : List Bool) (x : Nat) : ∀ n, (fillB m x n).length = m.length
  | 0 => rfl
  | n + 1 => by show ((fillB m x n).set _ _).length = _; rw [List.length_set, fillB_len m x n]
theorem mkl_spread (p : Int → Bool) (l : List Int) (m : List Bool) (hm : m.length = (l.filter p).length) (x : Nat) : ∀ n, x + n ≤ m.length → mkl (My.spread p l m) (((pl0 p l 0).drop x).take n) = My.spread p l (fillB m x n)
  | 0, _ => rfl
  | n + 1, h => by
    have hl := pl0_len p l 0
    obtain ⟨z, hz⟩ : ∃ z, (pl0 p l 0)[x + n]? = some z := ⟨_, List.getElem?_eq_getElem (by omega)⟩
    have hz' : ((pl0 p l 0).drop x)[n]? = some z := by rw [List.getElem?_drop]; exact hz
    rw [take_snoc hz', mkl_snoc, mkl_spread p l m hm x n (by omega)]
    have := spread_set p l (fillB m x n) (x + n) 0 z hz (by rw [fillB_len]; omega)
    rw [Nat.sub_zero] at this
    exact this
end Go.Proofs.Ytdilmgcdebobaaa
