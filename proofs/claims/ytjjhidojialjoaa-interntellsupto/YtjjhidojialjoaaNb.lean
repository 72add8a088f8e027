/-
  Plain laws on the numbers of a list of keys, each held against each.
-/
import Derived.Test.YtjjhidojialjoaaN8
namespace Go.Proofs.Ytjjhidojialjoaa.In

theorem met_mem : ∀ (l ks : List (List UInt8)) (x : List UInt8), x ∈ ks → x ∈ met ks l
  | [], _, _, h => h
  | k :: l, ks, x, h => met_mem l (stp ks k) x (sub_stp ks k x h)
theorem met_idx : ∀ (l ks : List (List UInt8)) (x : List UInt8), x ∈ ks → (met ks l).idxOf x = ks.idxOf x
  | [], _, _, _ => rfl
  | k :: l, ks, x, h => (met_idx l (stp ks k) x (sub_stp ks k x h)).trans (idx_stp ks k x h)
theorem nums_idx (l : List (List UInt8)) (j : Nat) (x : List UInt8) (h : l[j]? = some x) : (nums [] l)[j]? = some ((met [] l).idxOf x) ∧ x ∈ met [] l := by
  have hl : j < l.length := by
    rcases Nat.lt_or_ge j l.length with q | q
    · exact q
    · rw [List.getElem?_eq_none q] at h; cases h
  have e : l = l.take j ++ x :: l.drop (j + 1) := by
    rw [← List.getElem_eq_iff hl |>.2 h, List.getElem_cons_drop, List.take_append_drop]
  have hm : met [] l = met (stp (met [] (l.take j)) x) (l.drop (j + 1)) := by
    conv => lhs; rw [e]
    rw [met_append]; rfl
  have hi : x ∈ stp (met [] (l.take j)) x := mem_stp _ _
  refine ⟨?_, by rw [hm]; exact met_mem _ _ _ hi⟩
  rw [nums_at [] l j x h, hm, met_idx _ _ _ hi, idx_new]
theorem idx_inj {F : List (List UInt8)} {a b : List UInt8} (ha : a ∈ F) (hb : b ∈ F) (h : F.idxOf a = F.idxOf b) : a = b := by
  have h1 := List.getElem_idxOf (List.idxOf_lt_length_iff.2 ha)
  have h2 := List.getElem_idxOf (List.idxOf_lt_length_iff.2 hb)
  rw [← h1, ← h2]
  congr 1
/-- numbers are alike just where keys are -/
theorem nums_alike {l : List (List UInt8)} {i k : Nat} {x y : List UInt8} {p q : Nat} (hx : l[i]? = some x) (hy : l[k]? = some y) (hp : (nums [] l)[i]? = some p) (hq : (nums [] l)[k]? = some q) : decide (p = q) = decide (x = y) := by
  obtain ⟨h1, m1⟩ := nums_idx l i x hx
  obtain ⟨h2, m2⟩ := nums_idx l k y hy
  rw [hp] at h1
  rw [hq] at h2
  have e1 := Option.some.inj h1
  have e2 := Option.some.inj h2
  rw [decide_eq_decide, e1, e2]
  exact ⟨idx_inj m1 m2, fun h => by rw [h]⟩
/-- they come from 0 on -/
theorem nums_next {l : List (List UInt8)} {i : Nat} {x : List UInt8} {p : Nat} (hx : l[i]? = some x) (hp : (nums [] l)[i]? = some p) : p ≤ (met [] (l.take i)).length ∧ (met [] (l.take (i + 1))).length = if p = (met [] (l.take i)).length then (met [] (l.take i)).length + 1 else (met [] (l.take i)).length := by
  have h := nums_at [] l i x hx
  rw [hp] at h
  have e := Option.some.inj h
  rw [met_snoc [] l i x hx, e]
  refine ⟨List.idxOf_le_length, ?_⟩
  unfold stp
  by_cases hm : x ∈ met [] (l.take i)
  · rw [if_pos hm, if_neg (Nat.ne_of_lt (List.idxOf_lt_length_iff.2 hm))]
  · rw [if_neg hm, if_pos (List.idxOf_eq_length hm)]; simp
end Go.Proofs.Ytjjhidojialjoaa.In
