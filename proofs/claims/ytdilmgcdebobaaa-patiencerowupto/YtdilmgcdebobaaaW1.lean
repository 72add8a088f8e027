/-
  The walk of placesIn: what its rounds do.
-/
import Derived.Test.YtdilmgcdebobaaaW0
import Derived.Test.YtdilmgcdebobaaaL0
namespace Go.Proofs.Ytdilmgcdebobaaa
open Go.RowKit
open Go.Maps (Keyed Tidy)

/-! ### places of a number -/
def plc (l : List Int) (x : Int) (i j : Nat) : List Int := ((List.range j).filter fun p => decide (i ≤ p) && decide (fn l p = x)).map Int.ofNat
theorem plc_self (l : List Int) (x : Int) (i : Nat) : plc l x i i = [] := by
  unfold plc
  rw [List.map_eq_nil_iff, List.filter_eq_nil_iff]
  intro p hp
  have := List.mem_range.1 hp
  simp; intro h; omega
theorem plc_hit {l : List Int} {i j : Nat} (h : i ≤ j) : plc l (fn l j) i (j + 1) = plc l (fn l j) i j ++ [(j : Int)] := by
  unfold plc
  rw [List.range_succ, List.filter_append, List.map_append]
  congr 1
  rw [List.filter_cons_of_pos (by simp [h])]
  rfl
theorem plc_miss {l : List Int} {x : Int} {i j : Nat} (h : fn l j ≠ x) : plc l x i (j + 1) = plc l x i j := by
  unfold plc
  rw [List.range_succ, List.filter_append, List.map_append, List.filter_cons_of_neg (by simp [h])]
  simp
theorem plc_len (l : List Int) (x : Int) (i j : Nat) : (plc l x i j).length ≤ j := by
  unfold plc
  rw [List.length_map]
  exact Nat.le_trans (List.length_filter_le _ _) (by rw [List.length_range]; exact Nat.le_refl _)
def innA (a : List Int) (i j : Nat) (x : Int) : Bool := !(plc a x i j).isEmpty
def plA (a : List Int) (i j : Nat) (x : Int) (s : Bool) : List Int := if s then [] else plc a x i j
def plB (a b : List Int) (i k i' j' : Nat) (x : Int) (s : Bool) : List Int := if s then (if innA a i k x then plc b x i' j' else []) else plc a x i k
theorem innA_next {a : List Int} {i j : Nat} (h : i ≤ j) : (fun y => if y = fn a j then true else innA a i j y) = innA a i (j + 1) := by
  funext y
  unfold innA
  by_cases hy : y = fn a j
  · rw [if_pos hy, hy, plc_hit h]
    cases plc a (fn a j) i j <;> rfl
  · rw [if_neg hy, plc_miss (fun e => hy e.symm)]
theorem plA_next {a : List Int} {i j : Nat} (h : i ≤ j) : ups (plA a i j) (fn a j) false (plA a i j (fn a j) false ++ [(j : Int)]) = plA a i (j + 1) := by
  funext y s
  by_cases hy : (y, s) = (fn a j, false)
  · cases hy
    rw [ups_same]
    exact (plc_hit h).symm
  · rw [ups_other _ _ hy]
    cases s with
    | true => rfl
    | false => exact (plc_miss (fun e => hy (by rw [e]))).symm
theorem innA_same {a : List Int} {i k : Nat} {x : Int} (h : innA a i k x = true) : (fun y => if y = x then true else innA a i k y) = innA a i k := by
  funext y
  by_cases hy : y = x
  · rw [if_pos hy, hy, h]
  · rw [if_neg hy]
theorem plB_next {a b : List Int} {i k i' j' : Nat} (h : i' ≤ j') (hin : innA a i k (fn b j') = true) : ups (plB a b i k i' j') (fn b j') true (plB a b i k i' j' (fn b j') true ++ [(j' : Int)]) = plB a b i k i' (j' + 1) := by
  funext y s
  by_cases hy : (y, s) = (fn b j', true)
  · cases hy
    rw [ups_same]
    unfold plB
    rw [if_pos rfl, if_pos rfl, if_pos hin, if_pos hin, plc_hit h]
  · rw [ups_other _ _ hy]
    cases s with
    | false => rfl
    | true =>
      unfold plB
      rw [if_pos rfl, if_pos rfl, plc_miss (fun e => hy (by rw [e]))]
theorem plB_skip {a b : List Int} {i k i' j' : Nat} (hin : innA a i k (fn b j') = false) : plB a b i k i' j' = plB a b i k i' (j' + 1) := by
  funext y s
  unfold plB
  cases s with
  | false => rfl
  | true =>
    rw [if_pos rfl, if_pos rfl]
    by_cases hy : innA a i k y = true
    · rw [if_pos hy, if_pos hy, plc_miss (fun e => by rw [e, hy] at hin; cases hin)]
    · rw [if_neg hy, if_neg hy]
theorem plB_start (a b : List Int) (i k i' : Nat) : plA a i k = plB a b i k i' i' := by
  funext y s
  unfold plA plB
  cases s with
  | false => rfl
  | true => rw [if_pos rfl, if_pos rfl, plc_self]; split <;> rfl

theorem plA_len (a : List Int) (i j : Nat) (x : Int) (s : Bool) : (plA a i j x s).length ≤ j := by
  unfold plA
  split
  · exact Nat.zero_le _
  · exact plc_len _ _ _ _
theorem plB_len (a b : List Int) (i k i' j' : Nat) (x : Int) : (plB a b i k i' j' x true).length ≤ j' := by
  unfold plB
  rw [if_pos rfl]
  split
  · exact plc_len _ _ _ _
  · exact Nat.zero_le _

/-! ### at the operations -/
theorem wpList_lookup_sp {w : World} {ops : Array Oper} {rest : List Oper} {o : Oper} {a : Act} {Q : Exit → Act → World → Prop} (hg : o.guard = none) (m x : Operand) (hop : o.op = Op.lookup 42 m x false)
    {B M n : Nat} {inn : Int → Bool} {sl : Int → Bool → Value} {pl : Int → Bool → List Int} (hm : a.eval m = .map (some M)) (hP : Pls w B M n inn sl pl) (y : Int) (hy : I64 y) (hx : a.eval x = .int .i64 y) (u0 u1 : Value) (h0 : sl y false = u0) (h1 : sl y true = u1)
    (hK : wpList Try.prog ops Q rest (a.put o.dst (.agg #[u0, u1])) w) : wpList Try.prog ops Q (o :: rest) a w := by
  obtain ⟨D, hown, hD⟩ := hP.map
  refine wpList_plain hg fun K' hK' => ?_
  obtain ⟨v, ps, hrun, hv⟩ := hown.lookup intLaw Try.underlying42 (zeroSpots w) (zd := .held zz) (zp := []) rfl (Maps.keyOf_int_mk Try.underlying3 (wfI hy))
  have e : v = .agg #[u0, u1] := by
    unfold RV at hv
    have := congrArg Prod.fst (Option.some.inj hv)
    rw [(hD.2 y).2, h0, h1] at this
    exact DataW.held.inj this
  subst e
  unfold Oper.wp
  simp [execOp, hop, hm, hx, hrun, Result.andThen]
  exact hK' _ _ hK
theorem wpList_lookup_sp_ok {w : World} {ops : Array Oper} {rest : List Oper} {o : Oper} {a : Act} {Q : Exit → Act → World → Prop} (hg : o.guard = none) (m x : Operand) (hop : o.op = Op.lookup 42 m x true)
    {B M n : Nat} {inn : Int → Bool} {sl : Int → Bool → Value} {pl : Int → Bool → List Int} (hm : a.eval m = .map (some M)) (hP : Pls w B M n inn sl pl) (y : Int) (hy : I64 y) (hx : a.eval x = .int .i64 y) (u0 u1 : Value) (h0 : sl y false = u0) (h1 : sl y true = u1) (ok : Bool) (hok : inn y = ok)
    (hK : wpList Try.prog ops Q rest (a.put o.dst (.tuple #[.agg #[u0, u1], .bool ok])) w) : wpList Try.prog ops Q (o :: rest) a w := by
  obtain ⟨D, hown, hD⟩ := hP.map
  refine wpList_plain hg fun K' hK' => ?_
  obtain ⟨v, ps, hrun, hv⟩ := hown.look_ok intLaw Try.underlying42 (zeroSpots w) (zd := .held zz) (zp := []) rfl (Maps.keyOf_int_mk Try.underlying3 (wfI hy))
  have e : v = .agg #[u0, u1] := by
    unfold RV at hv
    have := congrArg Prod.fst (Option.some.inj hv)
    rw [(hD.2 y).2, h0, h1] at this
    exact DataW.held.inj this
  subst e
  rw [(hD.2 y).1, hok] at hrun
  unfold Oper.wp
  simp [execOp, hop, hm, hx, hrun, Result.andThen]
  exact hK' _ _ hK

/-! ### the worlds of a round -/
theorem grown_set {w w' : World} {row : Option Nat} (h : w.grownBy w' row) {g k : Nat} (hg : w.heap.size ≤ g) (u : Value) : w.grownBy (w'.setCell ⟨g, k, none⟩ u) row :=
  ⟨h.os, h.tape, h.output, by rw [set_size]; exact h.size, fun i hi hr => by rw [set_other _ (by omega)]; exact h.block i hi hr⟩
theorem below_set' {B : Nat} {w w' : World} (h : Below B w w') {g k : Nat} (hg : B ≤ g) (u : Value) : Below B w (w'.setCell ⟨g, k, none⟩ u) :=
  ⟨h.os, h.tape, h.output, by rw [set_size]; exact h.size, fun i hi => by rw [set_other _ (by omega)]; exact h.block i hi⟩
def atW (wr : World) (u0 u1 : Value) : World := wr.alloc (.cells #[u0, u1] 63)
theorem atW_blk (wr : World) (u0 u1 : Value) : (atW wr u0 u1).heap[wr.heap.size]? = some (.cells #[u0, u1] 63) := heap_alloc_new wr _
theorem atW_below (wr : World) (u0 u1 : Value) : Below wr.heap.size wr (atW wr u0 u1) := (Below.refl _ _).alloc (Nat.le_refl _) _
theorem atW_size (wr : World) (u0 u1 : Value) : (atW wr u0 u1).heap.size = wr.heap.size + 1 := by unfold atW; simp
/-- the world ahead of the append -/
def apW (wr : World) (u0 u1 : Value) (p : Int) : World := (atW wr u0 u1).alloc (.cells #[.int .i64 p] 3)
theorem apW_below (wr : World) (u0 u1 : Value) (p : Int) : Below wr.heap.size wr (apW wr u0 u1 p) := (atW_below wr u0 u1).alloc (by rw [atW_size]; omega) _
theorem apW_size (wr : World) (u0 u1 : Value) (p : Int) : (apW wr u0 u1 p).heap.size = wr.heap.size + 2 := by unfold apW; simp [atW_size]
theorem apW_blk (wr : World) (u0 u1 : Value) (p : Int) : (apW wr u0 u1 p).heap[wr.heap.size]? = some (.cells #[u0, u1] 63) := by
  have hb : Below (atW wr u0 u1).heap.size (atW wr u0 u1) (apW wr u0 u1 p) := (Below.refl _ _).alloc (Nat.le_refl _) _
  rw [hb.block _ (by rw [atW_size]; omega)]
  exact atW_blk wr u0 u1
theorem apW_cell (wr : World) (u0 u1 : Value) (p : Int) : (apW wr u0 u1 p).cell? ⟨wr.heap.size + 1, 0, none⟩ = some (.int .i64 p) := by
  have := cell_of_blk (heap_alloc_new (atW wr u0 u1) (.cells #[.int .i64 p] 3)) 0
  rw [atW_size] at this
  exact this
/-- behind the append: the block of the spots -/
theorem ap_blk {wr w4 : World} {B M n : Nat} {inn : Int → Bool} {sl : Int → Bool → Value} {pl : Int → Bool → List Int} (hP : Pls wr B M n inn sl pl) {z p : Int} {u0 u1 v : Value} (s : Bool) (hg : Grew (apW wr u0 u1 p) w4 (sl z s) v) : w4.heap[wr.heap.size]? = some (.cells #[u0, u1] 63) := by
  rw [hg.1.block _ (by rw [apW_size]; omega) (fun e => by have := (own_ge2 (hP.row z s) _ e.symm).2; omega)]
  exact apW_blk wr u0 u1 p
theorem ap_below {w wr w4 : World} {B M n : Nat} {inn : Int → Bool} {sl : Int → Bool → Value} {pl : Int → Bool → List Int} (hP : Pls wr B M n inn sl pl) {z p : Int} {u0 u1 v : Value} (s : Bool) (hg : Grew (apW wr u0 u1 p) w4 (sl z s) v) {B0 : Nat} (hb : Below B0 w wr) (h0 : B0 ≤ wr.heap.size) (hB : B0 ≤ B) : Below B0 w w4 :=
  hb.grown ((grown_of_below (apW_below wr u0 u1 p) _).trans hg.1) h0 (fun q hq => Nat.le_trans hB (own_ge2 (hP.row z s) q hq).1)
/-- .. and the store into it: the map and its rows, ahead of the update and behind it -/
theorem ap_put {wr w4 : World} {B M n : Nat} {inn : Int → Bool} {sl : Int → Bool → Value} {pl : Int → Bool → List Int} (hP : Pls wr B M n inn sl pl) {z p : Int} {u0 u1 v : Value} {l : List Int} (s : Bool) (k : Nat) (hg : Grew (apW wr u0 u1 p) w4 (sl z s) v) (hO : OwnI w4 B v l) :
    ∃ D : DataW Value, ((w4.setCell ⟨wr.heap.size, k, none⟩ v).drewN 1).ownsMap Try.prog 3 RV M n D ∧ ∀ w6, w6.ownsMap Try.prog 3 RV M (n + 1) (D.put (.int .i64 z) (.held (.agg #[ups sl z s v z false, ups sl z s v z true]))) → ((w4.setCell ⟨wr.heap.size, k, none⟩ v).drewN 1).grownBy w6 (some M) →
      Pls w6 B M (n + 1) (fun y => if y = z then true else inn y) (ups sl z s v) (ups pl z s l) ∧ (∀ x, x < M → w6.heap[x]? = wr.heap[x]?) ∧ ∀ w0 B0, Below B0 w0 wr → B0 ≤ M → Below B0 w0 w6 := by
  have hB := (hP.map.choose_spec.1).lt
  have hlow := hP.low
  have h1 : wr.grownBy w4 (sl z s).ownBlock := (grown_of_below (apW_below wr u0 u1 p) _).trans hg.1
  have h2 : wr.grownBy ((w4.setCell ⟨wr.heap.size, k, none⟩ v).drewN 1) (sl z s).ownBlock := by
    have := grown_set h1 (k := k) (Nat.le_refl _) v
    exact ⟨this.os, this.tape, this.output, this.size, this.block⟩
  obtain ⟨D, d1, d2⟩ := hP.mid h2
  have hl : ∀ q, v.ownBlock = some q → (sl z s).ownBlock = some q ∨ wr.heap.size + 2 ≤ q := fun q hq => by
    rcases hg.2 q hq with e | e
    · exact .inl e
    · rw [apW_size] at e; exact .inr e
  have h3 : w4.grownBy ((w4.setCell ⟨wr.heap.size, k, none⟩ v).drewN 1) (some wr.heap.size) :=
    ⟨rfl, rfl, rfl, by show _ ≤ (w4.setCell _ _).heap.size; rw [set_size]; exact Nat.le_refl _, fun i _ hr => set_other _ (fun e => hr (by rw [e]))⟩
  have hO5 : OwnI ((w4.setCell ⟨wr.heap.size, k, none⟩ v).drewN 1) B v l := hO.kept h3 (by
    cases hv : v.ownBlock with
    | none => exact .inl rfl
    | some q =>
      refine .inr (fun e => ?_)
      cases e
      rcases hl _ hv with e | e
      · have := (own_ge2 (hP.row z s) _ e).2; omega
      · omega)
  refine ⟨D, d1, fun w6 hm hg6 => ?_⟩
  have hrow : ∀ q, (sl z s).ownBlock = some q → M < q := fun q hq => by
    have := (own_ge2 (hP.row z s) q hq).1
    omega
  refine ⟨hP.put h2 hO5 (fun q hq => (hl q hq).imp id (fun e => by omega)) d2 hm hg6, fun x hx => ?_, fun w0 B0 hb h0 => ?_⟩
  · rw [hg6.block x (by have := h2.size; omega) (fun e => by cases e; omega), h2.block x (by omega) (fun e => by have := hrow x e.symm; omega)]
  · exact (hb.grown h2 (by omega) (fun q hq => by have := hrow q hq; omega)).grown hg6 (by have := h2.size; omega) (fun q hq => by cases hq; exact h0)
end Go.Proofs.Ytdilmgcdebobaaa
