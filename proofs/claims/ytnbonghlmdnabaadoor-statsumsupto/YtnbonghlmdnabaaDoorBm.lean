/-
  A count for each name, plain (ST6).
-/
import Derived.Test.YtnbonghlmdnabaaDoorB1
namespace Go.Proofs.YtnbonghlmdnabaaDoor.Sx

/-- one more count into a row of counts of unlike names -/
def addK : List Ct → Ct → List Ct
  | [], c => [c]
  | x :: r, c => if x.nm = c.nm then ⟨x.nm, x.a + c.a, x.d + c.d⟩ :: r else x :: addK r c
/-- a count for each name, in the order in which names come first -/
def sumK (l : List Ct) : List Ct := l.foldl addK []
def nms (l : List Ct) : List ByteArray := l.map (·.nm)
theorem sumK_nil : sumK [] = [] := rfl
theorem sumK_snoc (l : List Ct) (c : Ct) : sumK (l ++ [c]) = addK (sumK l) c := by unfold sumK; rw [List.foldl_append]; rfl
theorem sumK_take {l : List Ct} {k : Nat} {c : Ct} (h : l[k]? = some c) : sumK (l.take (k + 1)) = addK (sumK (l.take k)) c := by
  rw [List.take_add_one, h]
  exact sumK_snoc _ _
/-- a new name: behind all -/
theorem addK_new : ∀ {l : List Ct} {c : Ct}, c.nm ∉ nms l → addK l c = l ++ [c]
  | [], c, _ => rfl
  | x :: r, c, h => by
    have h1 : ¬ x.nm = c.nm := fun e => h (by rw [← e]; exact List.mem_cons_self ..)
    rw [addK, if_neg h1, addK_new (fun e => h (List.mem_cons_of_mem _ e))]
    rfl
/-- a name that is there, at its place -/
theorem addK_at : ∀ {l : List Ct} {k : Nat} {x c : Ct}, l[k]? = some x → x.nm = c.nm → (∀ j y, j < k → l[j]? = some y → y.nm ≠ c.nm) → addK l c = l.set k ⟨x.nm, x.a + c.a, x.d + c.d⟩
  | y :: r, 0, x, c, h, e, _ => by
    cases h
    rw [addK, if_pos e]
    rfl
  | y :: r, k + 1, x, c, h, e, hn => by
    have h1 : ¬ y.nm = c.nm := hn 0 y (Nat.succ_pos k) rfl
    rw [addK, if_neg h1, addK_at (l := r) (k := k) (by simpa using h) e (fun j z hj hz => hn (j + 1) z (by omega) (by simpa using hz))]
    rfl
theorem nms_add : ∀ {l : List Ct} {c : Ct}, c.nm ∈ nms l → nms (addK l c) = nms l
  | x :: r, c, h => by
    by_cases h1 : x.nm = c.nm
    · rw [addK, if_pos h1]; rfl
    · rw [addK, if_neg h1]
      have h2 : c.nm ∈ nms r := by
        rcases List.mem_cons.1 h with h | h
        · exact absurd h.symm h1
        · exact h
      show x.nm :: nms (addK r c) = x.nm :: nms r
      rw [nms_add h2]
theorem nms_new {l : List Ct} {c : Ct} (h : c.nm ∉ nms l) : nms (addK l c) = nms l ++ [c.nm] := by
  rw [addK_new h]
  unfold nms
  rw [List.map_append]
  rfl
theorem add_nodup {l : List Ct} {c : Ct} (h : (nms l).Nodup) : (nms (addK l c)).Nodup := by
  by_cases hc : c.nm ∈ nms l
  · rw [nms_add hc]; exact h
  · rw [nms_new hc]
    rw [List.nodup_append]
    refine ⟨h, by simp, fun a ha b hb => ?_⟩
    rw [List.mem_singleton.1 hb]
    exact fun e => hc (e ▸ ha)
theorem fold_nodup : ∀ (l r : List Ct), (nms r).Nodup → (nms (l.foldl addK r)).Nodup
  | [], _, h => h
  | _ :: l, _, h => fold_nodup l _ (add_nodup h)
theorem sumK_nodup (l : List Ct) : (nms (sumK l)).Nodup := fold_nodup l [] List.nodup_nil
theorem fold_flat : ∀ (l r : List Ct), (nms (r ++ l)).Nodup → l.foldl addK r = r ++ l
  | [], r, _ => by simp
  | c :: l, r, h => by
    have h1 : c.nm ∉ nms r := fun hc => by
      unfold nms at h hc
      rw [List.map_append, List.nodup_append] at h
      exact h.2.2 _ hc _ (List.mem_cons_self ..) rfl
    show l.foldl addK (addK r c) = _
    rw [addK_new h1, fold_flat l (r ++ [c]) (by rw [List.append_assoc]; exact h), List.append_assoc]
    rfl
/-- summed again nothing changes -/
theorem sumK_twice (l : List Ct) : sumK (sumK l) = sumK l := by
  have := fold_flat (sumK l) [] (by rw [List.nil_append]; exact sumK_nodup l)
  rw [List.nil_append] at this
  exact this
theorem add_sumA : ∀ (l : List Ct) (c : Ct), sumA (addK l c) = sumA l + c.a
  | [], c => by show c.a + 0 = 0 + c.a; omega
  | x :: r, c => by
    by_cases h1 : x.nm = c.nm
    · rw [addK, if_pos h1]; show x.a + c.a + sumA r = x.a + sumA r + c.a; omega
    · rw [addK, if_neg h1]; show x.a + sumA (addK r c) = x.a + sumA r + c.a; rw [add_sumA r c]; omega
theorem add_sumD : ∀ (l : List Ct) (c : Ct), sumD (addK l c) = sumD l + c.d
  | [], c => by show c.d + 0 = 0 + c.d; omega
  | x :: r, c => by
    by_cases h1 : x.nm = c.nm
    · rw [addK, if_pos h1]; show x.d + c.d + sumD r = x.d + sumD r + c.d; omega
    · rw [addK, if_neg h1]; show x.d + sumD (addK r c) = x.d + sumD r + c.d; rw [add_sumD r c]; omega
theorem fold_sumA : ∀ (l r : List Ct), sumA (l.foldl addK r) = sumA r + sumA l
  | [], r => by show sumA r = sumA r + 0; omega
  | c :: l, r => by
    show sumA (l.foldl addK (addK r c)) = sumA r + (c.a + sumA l)
    rw [fold_sumA l, add_sumA]; omega
theorem fold_sumD : ∀ (l r : List Ct), sumD (l.foldl addK r) = sumD r + sumD l
  | [], r => by show sumD r = sumD r + 0; omega
  | c :: l, r => by
    show sumD (l.foldl addK (addK r c)) = sumD r + (c.d + sumD l)
    rw [fold_sumD l, add_sumD]; omega
theorem sumK_sumA (l : List Ct) : sumA (sumK l) = sumA l := by unfold sumK; rw [fold_sumA]; show 0 + sumA l = _; omega
theorem sumK_sumD (l : List Ct) : sumD (sumK l) = sumD l := by unfold sumK; rw [fold_sumD]; show 0 + sumD l = _; omega
/-- no number below 0 -/
def pos (c : Ct) : Prop := 0 ≤ c.a ∧ 0 ≤ c.d
theorem add_pos : ∀ {l : List Ct} {c : Ct}, (∀ x ∈ l, pos x) → pos c → ∀ x ∈ addK l c, pos x
  | [], c, _, hc, x, hx => by rw [List.mem_singleton.1 hx]; exact hc
  | y :: r, c, h, hc, x, hx => by
    have hy := h y (List.mem_cons_self ..)
    by_cases h1 : y.nm = c.nm
    · rw [addK, if_pos h1] at hx
      rcases List.mem_cons.1 hx with rfl | hx
      · exact ⟨Int.add_nonneg hy.1 hc.1, Int.add_nonneg hy.2 hc.2⟩
      · exact h x (List.mem_cons_of_mem _ hx)
    · rw [addK, if_neg h1] at hx
      rcases List.mem_cons.1 hx with rfl | hx
      · exact hy
      · exact add_pos (fun z hz => h z (List.mem_cons_of_mem _ hz)) hc x hx
theorem fold_pos : ∀ (l r : List Ct), (∀ x ∈ r, pos x) → (∀ x ∈ l, pos x) → ∀ x ∈ l.foldl addK r, pos x
  | [], _, h, _ => h
  | c :: l, r, h, hl => fold_pos l (addK r c) (add_pos h (hl c (List.mem_cons_self ..))) (fun x hx => hl x (List.mem_cons_of_mem _ hx))
theorem pos_le : ∀ {l : List Ct}, (∀ x ∈ l, pos x) → 0 ≤ sumA l ∧ 0 ≤ sumD l ∧ ∀ x ∈ l, x.a ≤ sumA l ∧ x.d ≤ sumD l
  | [], _ => ⟨Int.le_refl _, Int.le_refl _, fun x h => by cases h⟩
  | c :: l, h => by
    obtain ⟨h1, h2, h3⟩ := pos_le (l := l) (fun x hx => h x (List.mem_cons_of_mem _ hx))
    obtain ⟨c1, c2⟩ := h c (List.mem_cons_self ..)
    have ea : sumA (c :: l) = c.a + sumA l := rfl
    have ed : sumD (c :: l) = c.d + sumD l := rfl
    refine ⟨by omega, by omega, fun x hx => ?_⟩
    rcases List.mem_cons.1 hx with rfl | hx
    · omega
    · have := h3 x hx; omega
theorem add_len (l : List Ct) (c : Ct) : (addK l c).length ≤ l.length + 1 := by
  by_cases hc : c.nm ∈ nms l
  · have := congrArg List.length (nms_add hc)
    unfold nms at this
    rw [List.length_map, List.length_map] at this
    omega
  · rw [addK_new hc, List.length_append, List.length_singleton]
    exact Nat.le_refl _
theorem fold_len : ∀ (l r : List Ct), (l.foldl addK r).length ≤ r.length + l.length
  | [], r => Nat.le_refl _
  | c :: l, r => by
    have h1 := fold_len l (addK r c)
    have h2 := add_len r c
    show (l.foldl addK (addK r c)).length ≤ r.length + (l.length + 1)
    omega
theorem sumK_len (l : List Ct) : (sumK l).length ≤ l.length := by
  have := fold_len l []
  rw [List.length_nil] at this
  unfold sumK
  omega
/-- what is summed can be summed -/
theorem sumK_ok {l : List Ct} (h : okL l = true) : okL (sumK l) = true := by
  obtain ⟨h1, h2, h3, h4⟩ := okL_iff.1 h
  have hp : ∀ x ∈ l, pos x := fun x hx => by
    have := okC_iff.1 (List.all_eq_true.1 h2 x hx)
    exact ⟨this.1.1, this.2.1⟩
  have hq := fold_pos l [] (fun x hx => by cases hx) hp
  obtain ⟨q1, q2, q3⟩ := pos_le hq
  have sa := sumK_sumA l
  have sd := sumK_sumD l
  unfold sumK at sa sd
  rw [okN_iff] at h3 h4
  refine okL_iff.2 ⟨Nat.le_trans (sumK_len l) h1, List.all_eq_true.2 fun x hx => ?_, by rw [sumK_sumA, okN_iff]; exact h3, by rw [sumK_sumD, okN_iff]; exact h4⟩
  have := q3 x hx
  have hx2 := hq x hx
  rw [okC_iff]
  unfold pos at hx2
  omega
end Go.Proofs.YtnbonghlmdnabaaDoor.Sx
