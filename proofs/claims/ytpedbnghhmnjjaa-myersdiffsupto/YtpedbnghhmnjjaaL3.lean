/-
  Plain: what settle does, box by box.
-/
import Derived.Test.YtpedbnghhmnjjaaL0
namespace Go.Proofs.Ytpedbnghhmnjjaa.My
open Ed (Ch)

/-! ### marks as functions -/
def orAt (m : Nat → Bool) (x : Nat) (l : List Bool) : Nat → Bool := fun i => m i || (decide (x ≤ i) && l.getD (i - x) false)
theorem orAt_app (m : Nat → Bool) (x : Nat) (l r : List Bool) : orAt m x (l ++ r) = orAt (orAt m x l) (x + l.length) r := by
  funext i
  unfold orAt
  by_cases h1 : x ≤ i
  · by_cases h2 : x + l.length ≤ i
    · rw [decide_eq_true h1, decide_eq_true h2]
      simp only [List.getD_eq_getElem?_getD, Bool.true_and]
      rw [List.getElem?_append_right (by omega), List.getElem?_eq_none (l := l) (by omega), show i - x - l.length = i - (x + l.length) by omega]
      simp
    · rw [decide_eq_true h1, decide_eq_false h2]
      simp only [List.getD_eq_getElem?_getD, Bool.true_and, Bool.false_and, Bool.or_false]
      rw [List.getElem?_append_left (by omega)]
  · rw [decide_eq_false h1, decide_eq_false (show ¬ x + l.length ≤ i by omega)]
    simp
theorem orAt_none (m : Nat → Bool) (x n : Nat) : orAt m x (rep n false) = m := by
  funext i
  unfold orAt rep
  rw [List.getD_eq_getElem?_getD, List.getElem?_replicate]
  split <;> simp
theorem orAt_comm (m : Nat → Bool) (x y : Nat) (l r : List Bool) : orAt (orAt m x l) y r = orAt (orAt m y r) x l := by
  funext i
  unfold orAt
  rw [Bool.or_assoc, Bool.or_assoc, Bool.or_comm (decide (x ≤ i) && _)]
def tb (n : Nat) (m : Nat → Bool) : List Bool := (List.range n).map m
theorem tb_len (n : Nat) (m : Nat → Bool) : (tb n m).length = n := by unfold tb; simp
theorem tb_none (n : Nat) : tb n (fun _ => false) = List.replicate n false := by
  apply List.ext_getElem?
  intro i
  unfold tb
  rw [List.getElem?_map, List.getElem?_replicate]
  by_cases h : i < n
  · rw [List.getElem?_range h, if_pos h]; rfl
  · rw [List.getElem?_eq_none (by simpa using h), if_neg h]; rfl
theorem tb_all (l : List Bool) : tb l.length (orAt (fun _ => false) 0 l) = l := by
  apply List.ext_getElem?
  intro i
  unfold tb orAt
  rw [List.getElem?_map]
  by_cases h : i < l.length
  · rw [List.getElem?_range h, List.getElem?_eq_getElem h]
    simp [List.getD_eq_getElem?_getD, List.getElem?_eq_getElem h]
  · rw [List.getElem?_eq_none (by simpa using h), List.getElem?_eq_none (by omega)]; rfl
theorem rep_snoc (n : Nat) : rep (n + 1) true = rep n true ++ [true] := by unfold rep; exact List.replicate_succ'
theorem fill_tb (n : Nat) (m : Nat → Bool) (x : Nat) : ∀ k, x + k ≤ n → fillB (tb n m) x k = tb n (orAt m x (rep k true))
  | 0, _ => by
    show tb n m = tb n (orAt m x [])
    congr 1
    funext i
    simp [orAt]
  | k + 1, h => by
    show (fillB (tb n m) x k).set (x + k) true = _
    rw [fill_tb n m x k (by omega), rep_snoc, orAt_app]
    generalize orAt m x (rep k true) = m'
    have hl : (rep k true).length = k := by unfold rep; simp
    rw [hl]
    apply List.ext_getElem?
    intro i
    unfold tb
    rw [List.getElem?_set, List.length_map, List.length_range, List.getElem?_map, List.getElem?_map]
    by_cases hi : i < n
    · rw [List.getElem?_range hi]
      by_cases he : x + k = i
      · rw [if_pos he, if_pos (by omega)]
        subst he
        simp [orAt]
      · rw [if_neg he]
        simp only [Option.map_some, orAt, List.getD_eq_getElem?_getD]
        by_cases hle : x + k ≤ i
        · rw [decide_eq_true hle, List.getElem?_eq_none (by simp; omega)]
          simp
        · rw [decide_eq_false hle]; simp
    · rw [List.getElem?_eq_none (by simpa using hi)]
      split
      · omega
      · rfl

/-! ### fuel -/
theorem mkM_fuel : ∀ (f f' : Nat) (a b : List Int), a.length + b.length < f → a.length + b.length < f' → mkM f a b = mkM f' a b
  | 0, _, a, b, h, _ => by omega
  | _ + 1, 0, a, b, _, h => by omega
  | f + 1, f' + 1, a, b, h, h' => by
    obtain ⟨c1, c2⟩ := cm_len a b
    rw [mkM, mkM]
    split
    · rfl
    · next hc =>
      have n1 : cm a b a ≠ [] := fun e => hc (.inl (by rw [e]; rfl))
      have n2 : cm a b b ≠ [] := fun e => hc (.inr (by rw [e]; rfl))
      have hm := midP_half (cm a b a) (cm a b b)
      obtain ⟨i1, i2⟩ := half_in hm n1 n2 (cm_unlike a b n1 n2)
      obtain ⟨q1, q2, q3, q4, q5, q6, q7, q8⟩ := hm
      simp only
      generalize midP (cm a b a) (cm a b b) = c at *
      rw [mkM_fuel f f' ((cm a b a).take c.1.toNat) ((cm a b b).take c.2.toNat) (by rw [List.length_take, List.length_take]; omega) (by rw [List.length_take, List.length_take]; omega),
        mkM_fuel f f' ((cm a b a).drop c.1.toNat) ((cm a b b).drop c.2.toNat) (by rw [List.length_drop, List.length_drop]; omega) (by rw [List.length_drop, List.length_drop]; omega)]

/-! ### boxes -/
def cut (l : List Int) (x y : Nat) : List Int := (l.drop x).take (y - x)
def mkF (a b : List Int) : List Bool × List Bool := mkM (a.length + b.length + 1) a b
/-- a box: a change's four numbers -/
def bxm (N M : List Int) (c : Ch) : List Bool × List Bool := mkF (cut N c.a.toNat c.b.toNat) (cut M c.n.toNat c.m.toNat)
def goA (N M : List Int) (st : List Ch) (m : Nat → Bool) : Nat → Bool := st.foldl (fun m c => orAt m c.a.toNat (bxm N M c).1) m
def goB (N M : List Int) (st : List Ch) (m : Nat → Bool) : Nat → Bool := st.foldl (fun m c => orAt m c.n.toNat (bxm N M c).2) m
theorem goA_or (N M : List Int) : ∀ (st : List Ch) (m : Nat → Bool) (x : Nat) (l : List Bool), goA N M st (orAt m x l) = orAt (goA N M st m) x l
  | [], m, x, l => rfl
  | c :: st, m, x, l => by
    show goA N M st (orAt (orAt m x l) _ _) = orAt (goA N M st (orAt m _ _)) x l
    rw [orAt_comm, goA_or N M st]
theorem goB_or (N M : List Int) : ∀ (st : List Ch) (m : Nat → Bool) (x : Nat) (l : List Bool), goB N M st (orAt m x l) = orAt (goB N M st m) x l
  | [], m, x, l => rfl
  | c :: st, m, x, l => by
    show goB N M st (orAt (orAt m x l) _ _) = orAt (goB N M st (orAt m _ _)) x l
    rw [orAt_comm, goB_or N M st]
theorem goA_snoc (N M : List Int) (st : List Ch) (c : Ch) (m : Nat → Bool) : goA N M (st ++ [c]) m = orAt (goA N M st m) c.a.toNat (bxm N M c).1 := by unfold goA; rw [List.foldl_append]; rfl
theorem goB_snoc (N M : List Int) (st : List Ch) (c : Ch) (m : Nat → Bool) : goB N M (st ++ [c]) m = orAt (goB N M st m) c.n.toNat (bxm N M c).2 := by unfold goB; rw [List.foldl_append]; rfl
/-- what a box without a middle leaves -/
theorem mkF_end {a b : List Int} (h : (cm a b a).length = 0 ∨ (cm a b b).length = 0) (m : Nat → Bool) (x : Nat) :
    orAt m x (mkF a b).1 = orAt m (x + hd a b) (rep (cm a b a).length true) ∧ orAt m x (mkF a b).2 = orAt m (x + hd a b) (rep (cm a b b).length true) := by
  unfold mkF
  rw [mkM, if_pos h]
  have hl : ∀ n v, (rep n v).length = n := fun n v => by unfold rep; simp
  constructor
  · rw [orAt_app, orAt_none, hl, orAt_app, hl, orAt_none]
  · rw [orAt_app, orAt_none, hl, orAt_app, hl, orAt_none]
theorem mkF_more {a b : List Int} (h : ¬ ((cm a b a).length = 0 ∨ (cm a b b).length = 0)) (m : Nat → Bool) (x : Nat) :
    orAt m x (mkF a b).1 = orAt (orAt m (x + hd a b) (mkF ((cm a b a).take (midP (cm a b a) (cm a b b)).1.toNat) ((cm a b b).take (midP (cm a b a) (cm a b b)).2.toNat)).1) (x + hd a b + (midP (cm a b a) (cm a b b)).1.toNat) (mkF ((cm a b a).drop (midP (cm a b a) (cm a b b)).1.toNat) ((cm a b b).drop (midP (cm a b a) (cm a b b)).2.toNat)).1 ∧
    orAt m x (mkF a b).2 = orAt (orAt m (x + hd a b) (mkF ((cm a b a).take (midP (cm a b a) (cm a b b)).1.toNat) ((cm a b b).take (midP (cm a b a) (cm a b b)).2.toNat)).2) (x + hd a b + (midP (cm a b a) (cm a b b)).2.toNat) (mkF ((cm a b a).drop (midP (cm a b a) (cm a b b)).1.toNat) ((cm a b b).drop (midP (cm a b a) (cm a b b)).2.toNat)).2 := by
  obtain ⟨c1, c2⟩ := cm_len a b
  have n1 : cm a b a ≠ [] := fun e => h (.inl (by rw [e]; rfl))
  have n2 : cm a b b ≠ [] := fun e => h (.inr (by rw [e]; rfl))
  have hm := midP_half (cm a b a) (cm a b b)
  obtain ⟨i1, i2⟩ := half_in hm n1 n2 (cm_unlike a b n1 n2)
  obtain ⟨q1, q2, q3, q4, q5, q6, q7, q8⟩ := hm
  have hl : ∀ n v, (rep n v).length = n := fun n v => by unfold rep; simp
  unfold mkF
  rw [mkM, if_neg h]
  simp only
  generalize midP (cm a b a) (cm a b b) = c at *
  have tl1 : ((cm a b a).take c.1.toNat).length + ((cm a b b).take c.2.toNat).length < a.length + b.length := by rw [List.length_take, List.length_take]; omega
  have tl2 : ((cm a b a).drop c.1.toNat).length + ((cm a b b).drop c.2.toNat).length < a.length + b.length := by rw [List.length_drop, List.length_drop]; omega
  rw [mkM_fuel (a.length + b.length) _ ((cm a b a).take c.1.toNat) ((cm a b b).take c.2.toNat) tl1 (Nat.lt_succ_self _), mkM_fuel (a.length + b.length) _ ((cm a b a).drop c.1.toNat) ((cm a b b).drop c.2.toNat) tl2 (Nat.lt_succ_self _)]
  obtain ⟨A1, A2, _, _⟩ := mk_spec _ ((cm a b a).take c.1.toNat) ((cm a b b).take c.2.toNat) (Nat.lt_succ_self _)
  have e1 : ((cm a b a).take c.1.toNat).length = c.1.toNat := by rw [List.length_take]; omega
  have e2 : ((cm a b b).take c.2.toNat).length = c.2.toNat := by rw [List.length_take]; omega
  rw [e1, e2] at A1 A2
  constructor
  · rw [orAt_app, orAt_none, hl, orAt_app, orAt_none, orAt_app, e1, e2]
    rw [A1]
  · rw [orAt_app, orAt_none, hl, orAt_app, orAt_none, orAt_app, e1, e2]
    rw [A2]
end Go.Proofs.Ytpedbnghhmnjjaa.My
