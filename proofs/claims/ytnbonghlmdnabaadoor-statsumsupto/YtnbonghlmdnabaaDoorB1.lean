/-
  Counts of lines in memory: read, of the call's own; texts; what a table is, plain.
-/
import Derived.Test.YtnbonghlmdnabaaDoorB0
import Derived.Test.YtnbonghlmdnabaaDoorJ2
import Derived.Test.YtnbonghlmdnabaaDoorPq
import Derived.Lib.ItoaNum
namespace Go.Proofs.YtnbonghlmdnabaaDoor.Sx
open Go.RowKit
abbrev Bs := List UInt8
theorem dsize (x : ByteArray) : x.data.toList.length = x.size := by rw [Array.length_toList]; rfl
theorem ba_ext {x y : ByteArray} (h : x.data.toList = y.data.toList) : x = y := by
  obtain ⟨⟨a⟩⟩ := x
  obtain ⟨⟨b⟩⟩ := y
  simp at h
  rw [h]
def bB (l : Bs) : ByteArray := ⟨l.toArray⟩
theorem bB_data (l : Bs) : (bB l).data.toList = l := rfl
theorem bB_size (l : Bs) : (bB l).size = l.length := by rw [← dsize, bB_data]
theorem bB_self (x : ByteArray) : bB x.data.toList = x := ba_ext (bB_data _)
theorem bB_app (a b : Bs) : bB a ++ bB b = bB (a ++ b) := by
  apply ba_ext
  simp [bB]

/-- a file's count -/
structure Ct where
  nm : ByteArray
  a : Int
  d : Int
def ctC (c : Ct) : List Value := [.string c.nm, .int .i64 c.a, .int .i64 c.d]
def ctsC (l : List Ct) : List Value := l.flatMap ctC
def CtV (c : Ct) : Value := .agg #[.string c.nm, .int .i64 c.a, .int .i64 c.d]
theorem ctsC_length (l : List Ct) : (ctsC l).length = l.length * 3 := by
  induction l with
  | nil => rfl
  | cons c l ih => show (ctC c ++ ctsC l).length = _; rw [List.length_append, ih, List.length_cons]; show 3 + _ = _; omega
theorem ctsC_get {l : List Ct} {k : Nat} {c : Ct} (h : l[k]? = some c) (i : Nat) (hi : i < 3) : (ctsC l)[k * 3 + i]? = (ctC c)[i]? := flat_get ctC 3 (fun _ => rfl) l k i c h hi
theorem ctsC_append (l m : List Ct) : ctsC (l ++ m) = ctsC l ++ ctsC m := List.flatMap_append
theorem ctsC_one (l : List Ct) : ∀ u ∈ ctsC l, u.oneCell' = true := by
  intro u hu
  obtain ⟨c, _, hc⟩ := List.mem_flatMap.1 hu
  unfold ctC at hc
  simp at hc
  rcases hc with rfl | rfl | rfl <;> rfl
abbrev RdK (w : World) (v : Value) (l : List Ct) : Prop := RdX w v l.length (ctsC l)
theorem rdK_at {w : World} {a : Option Addr} {n c : Nat} {l : List Ct} (h : RdK w (.slice a n c) l) {k : Nat} {x : Ct} (hk : l[k]? = some x) :
    ∃ b o, a = some ⟨b, o, none⟩ ∧ b < w.heap.size ∧ w.cell? ⟨b, o + k * 3, none⟩ = some (.string x.nm) ∧ w.cell? ⟨b, o + k * 3 + 1, none⟩ = some (.int .i64 x.a) ∧ w.cell? ⟨b, o + k * 3 + 2, none⟩ = some (.int .i64 x.d) := by
  rcases h with ⟨hn, _⟩ | ⟨b, o, c', hv, _, hb, hX⟩
  · rw [List.length_eq_zero_iff.1 hn] at hk; simp at hk
  · cases hv
    refine ⟨b, o, rfl, hb, ?_, ?_, ?_⟩
    · exact hX (k * 3) _ (ctsC_get hk 0 (by omega))
    · rw [Nat.add_assoc]; exact hX (k * 3 + 1) _ (ctsC_get hk 1 (by omega))
    · rw [Nat.add_assoc]; exact hX (k * 3 + 2) _ (ctsC_get hk 2 (by omega))

/-! ### sums -/
def okN (n : Int) : Bool := decide (0 ≤ n) && decide (n ≤ 2147483647)
theorem okN_yes {n : Int} (h0 : 0 ≤ n) (h1 : n ≤ 2147483647) : okN n = true := by unfold okN; rw [decide_eq_true h0, decide_eq_true h1]; rfl
theorem okN_lo {n : Int} (h0 : ¬ 0 ≤ n) : okN n = false := by unfold okN; rw [decide_eq_false h0]; rfl
theorem okN_hi {n : Int} (h0 : ¬ n ≤ 2147483647) : okN n = false := by unfold okN; rw [decide_eq_false h0, Bool.and_false]
theorem okN_iff {n : Int} : okN n = true ↔ 0 ≤ n ∧ n ≤ 2147483647 := by unfold okN; simp
def okC (c : Ct) : Bool := okN c.a && okN c.d
theorem okC_iff {c : Ct} : okC c = true ↔ (0 ≤ c.a ∧ c.a ≤ 2147483647) ∧ (0 ≤ c.d ∧ c.d ≤ 2147483647) := by unfold okC; rw [Bool.and_eq_true, okN_iff, okN_iff]
def sumA : List Ct → Int
  | [] => 0
  | c :: l => c.a + sumA l
def sumD : List Ct → Int
  | [] => 0
  | c :: l => c.d + sumD l
theorem sumA_snoc (l : List Ct) (c : Ct) : sumA (l ++ [c]) = sumA l + c.a := by
  induction l with
  | nil => show c.a + 0 = 0 + c.a; omega
  | cons x l ih => show x.a + sumA (l ++ [c]) = x.a + sumA l + c.a; rw [ih]; omega
theorem sumD_snoc (l : List Ct) (c : Ct) : sumD (l ++ [c]) = sumD l + c.d := by
  induction l with
  | nil => show c.d + 0 = 0 + c.d; omega
  | cons x l ih => show x.d + sumD (l ++ [c]) = x.d + sumD l + c.d; rw [ih]; omega
theorem take_one {α : Type} {l : List α} {k : Nat} {x : α} (h : l[k]? = some x) : l.take (k + 1) = l.take k ++ [x] := by
  rw [List.take_add_one, h]; rfl
theorem sumA_take {l : List Ct} {k : Nat} {x : Ct} (h : l[k]? = some x) : sumA (l.take (k + 1)) = sumA (l.take k) + x.a := by rw [take_one h, sumA_snoc]
theorem sumD_take {l : List Ct} {k : Nat} {x : Ct} (h : l[k]? = some x) : sumD (l.take (k + 1)) = sumD (l.take k) + x.d := by rw [take_one h, sumD_snoc]
theorem sum_bound {l : List Ct} (h : l.all okC = true) : (0 ≤ sumA l ∧ sumA l ≤ 2147483647 * (l.length : Int)) ∧ (0 ≤ sumD l ∧ sumD l ≤ 2147483647 * (l.length : Int)) := by
  induction l with
  | nil => exact ⟨⟨by decide, by decide⟩, by decide, by decide⟩
  | cons c l ih =>
    rw [List.all_cons, Bool.and_eq_true] at h
    have h1 := okC_iff.1 h.1
    have h2 := ih h.2
    show (0 ≤ c.a + sumA l ∧ c.a + sumA l ≤ _) ∧ (0 ≤ c.d + sumD l ∧ c.d + sumD l ≤ _)
    rw [List.length_cons]
    omega
/-- may the list be -/
def okL (l : List Ct) : Bool := decide (l.length ≤ 65536) && l.all okC && okN (sumA l) && okN (sumD l)
theorem okL_iff {l : List Ct} : okL l = true ↔ l.length ≤ 65536 ∧ l.all okC = true ∧ okN (sumA l) = true ∧ okN (sumD l) = true := by
  unfold okL
  rw [Bool.and_eq_true, Bool.and_eq_true, Bool.and_eq_true, decide_eq_true_eq, and_assoc, and_assoc]
theorem okL_long {l : List Ct} (h : ¬ l.length ≤ 65536) : okL l = false := by unfold okL; rw [decide_eq_false h]; rfl
theorem okL_no {l : List Ct} {k : Nat} {x : Ct} (h : l[k]? = some x) (hx : okC x = false) : okL l = false := by
  cases e : okL l with
  | false => rfl
  | true => rw [List.all_eq_true.1 (okL_iff.1 e).2.1 x (List.mem_of_getElem? h)] at hx; cases hx
theorem all_take {l : List Ct} {k : Nat} {x : Ct} (h : l[k]? = some x) (ha : (l.take k).all okC = true) (hx : okC x = true) : (l.take (k + 1)).all okC = true := by
  rw [take_one h, List.all_append, ha]; simp [hx]

/-! ### texts -/
def dec (n : Int) : Bs := Lib.itoa n
/-- so many things, and what is told of them -/
def cnt (n : Int) (thing told : Bs) : Bs := dec n ++ [32] ++ (if n = 1 then thing else thing ++ [115]) ++ told
def tFile : Bs := [102, 105, 108, 101]
def tChanged : Bs := [32, 99, 104, 97, 110, 103, 101, 100]
def tIns : Bs := [105, 110, 115, 101, 114, 116, 105, 111, 110]
def tPlus : Bs := [40, 43, 41]
def tDel : Bs := [100, 101, 108, 101, 116, 105, 111, 110]
def tMinus : Bs := [40, 45, 41]
def total (l : List Ct) : Bs :=
  [32] ++ cnt l.length tFile tChanged ++ (if 0 < sumA l then [44, 32] ++ cnt (sumA l) tIns tPlus else []) ++ (if 0 < sumD l then [44, 32] ++ cnt (sumD l) tDel tMinus else []) ++ [10]
def q (c : Ct) : Bs := Pq.quote c.nm.data.toList
def nameW : List Ct → Nat
  | [] => 0
  | c :: l => max (q c).length (nameW l)
def mostL : List Ct → Int
  | [] => 0
  | c :: l => max (c.a + c.d) (mostL l)
theorem nameW_snoc (l : List Ct) (c : Ct) : nameW (l ++ [c]) = max (nameW l) (q c).length := by
  induction l with
  | nil => show max _ 0 = max 0 _; omega
  | cons x l ih => show max _ (nameW (l ++ [c])) = max (max _ _) _; rw [ih]; omega
theorem mostL_snoc (l : List Ct) (c : Ct) : mostL (l ++ [c]) = max (mostL l) (c.a + c.d) := by
  induction l with
  | nil => show max _ 0 = max 0 _; omega
  | cons x l ih => show max _ (mostL (l ++ [c])) = max (max _ _) _; rw [ih]; omega
theorem nameW_take {l : List Ct} {k : Nat} {x : Ct} (h : l[k]? = some x) : nameW (l.take (k + 1)) = max (nameW (l.take k)) (q x).length := by rw [take_one h, nameW_snoc]
theorem mostL_take {l : List Ct} {k : Nat} {x : Ct} (h : l[k]? = some x) : mostL (l.take (k + 1)) = max (mostL (l.take k)) (x.a + x.d) := by rw [take_one h, mostL_snoc]
theorem nameW_mem {l : List Ct} {x : Ct} (h : x ∈ l) : (q x).length ≤ nameW l := by
  induction l with
  | nil => cases h
  | cons c l ih =>
    show _ ≤ max _ _
    rcases List.mem_cons.1 h with rfl | h
    · omega
    · have := ih h; omega
theorem mostL_mem {l : List Ct} {x : Ct} (h : x ∈ l) : x.a + x.d ≤ mostL l := by
  induction l with
  | nil => cases h
  | cons c l ih =>
    show _ ≤ max _ _
    rcases List.mem_cons.1 h with rfl | h
    · omega
    · have := ih h; omega
theorem mostL_bound {l : List Ct} (h : l.all okC = true) : 0 ≤ mostL l ∧ mostL l ≤ 4294967294 := by
  induction l with
  | nil => exact ⟨by decide, by decide⟩
  | cons c l ih =>
    rw [List.all_cons, Bool.and_eq_true] at h
    have h1 := okC_iff.1 h.1
    have h2 := ih h.2
    show 0 ≤ max _ _ ∧ max _ _ ≤ _
    omega
theorem nameW_bound {l : List Ct} {N : Nat} (h : ∀ x ∈ l, (q x).length ≤ N) : nameW l ≤ N := by
  induction l with
  | nil => exact Nat.zero_le _
  | cons c l ih =>
    show max _ _ ≤ _
    have h1 := h c (List.mem_cons_self ..)
    have h2 := ih fun x hx => h x (List.mem_cons_of_mem _ hx)
    omega
/-- the columns: of names, of numbers, of bars -/
structure Cols where
  name : Nat
  number : Nat
  bar : Int
  most : Int
def colsOf (l : List Ct) (width : Int) : Cols :=
  ⟨nameW l, (dec (mostL l)).length, max (width - nameW l - (dec (mostL l)).length - 5) 10, mostL l⟩
def rep (n : Nat) (c : UInt8) : Bs := List.replicate n c
/-- a row's bar, with the blank ahead -/
def barT (x : Int × Int) : Bs := if 0 < x.1 + x.2 then [32] ++ rep x.1.toNat 43 ++ rep x.2.toNat 45 else []
def row (k : Cols) (c : Ct) : Bs :=
  [32] ++ q c ++ rep (k.name - (q c).length) 32 ++ [32, 124, 32] ++ rep (k.number - (dec (c.a + c.d)).length) 32 ++ dec (c.a + c.d) ++ barT (bar c.a c.d k.bar k.most) ++ [10]
def rows (k : Cols) (l : List Ct) : Bs := (l.map (row k)).flatten
def table (l : List Ct) (width : Int) : Bs := rows (colsOf l width) l ++ total l
theorem rows_take {k : Cols} {l : List Ct} {j : Nat} {x : Ct} (h : l[j]? = some x) : rows k (l.take (j + 1)) = rows k (l.take j) ++ row k x := by
  unfold rows
  rw [take_one h, List.map_append, List.flatten_append]
  simp
end Go.Proofs.YtnbonghlmdnabaaDoor.Sx
