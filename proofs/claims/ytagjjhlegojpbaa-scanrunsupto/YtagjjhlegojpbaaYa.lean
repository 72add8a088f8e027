/-
  Plain: the places at which two texts differ, and their runs.
-/
import Derived.Test.YtagjjhlegojpbaaE0
namespace Go.Proofs.Ytagjjhlegojpbaa.Scn
open Ed (Ch Pr)
abbrev Bs := List UInt8
/-- the line behind a byte -/
def nl (x : UInt8) (ln : Nat) : Nat := if x = 10 then ln + 1 else ln
def pl : Bs → Bs → Nat → Nat → List Ch
  | x :: a, y :: b, i, ln => (if x = y then [] else [⟨(i : Int) + 1, (ln : Int), (x.toNat : Int), (y.toNat : Int)⟩]) ++ pl a b (i + 1) (nl x ln)
  | _, _, _, _ => []
theorem pl_nil_r (a : Bs) (i ln : Nat) : pl a [] i ln = [] := by cases a <;> rfl
theorem pl_nil_l (b : Bs) (i ln : Nat) : pl [] b i ln = [] := rfl
theorem pl_cons (x y : UInt8) (a b : Bs) (i ln : Nat) : pl (x :: a) (y :: b) i ln = (if x = y then [] else [⟨(i : Int) + 1, (ln : Int), (x.toNat : Int), (y.toNat : Int)⟩]) ++ pl a b (i + 1) (nl x ln) := rfl
theorem pl_same {x y : UInt8} (h : x = y) (a b : Bs) (i ln : Nat) : pl (x :: a) (y :: b) i ln = pl a b (i + 1) (nl x ln) := by rw [pl_cons, if_pos h]; rfl
theorem pl_diff {x y : UInt8} (h : x ≠ y) (a b : Bs) (i ln : Nat) : pl (x :: a) (y :: b) i ln = ⟨(i : Int) + 1, (ln : Int), (x.toNat : Int), (y.toNat : Int)⟩ :: pl a b (i + 1) (nl x ln) := by rw [pl_cons, if_neg h]; rfl
theorem pl_len : ∀ (a b : Bs) (i ln : Nat), (pl a b i ln).length ≤ a.length
  | [], b, i, ln => by simp [pl]
  | x :: a, [], i, ln => by simp [pl]
  | x :: a, y :: b, i, ln => by
    have := pl_len a b (i + 1) (nl x ln)
    rw [pl_cons]
    split <;> simp <;> omega
theorem nl_le (x : UInt8) (ln : Nat) : ln ≤ nl x ln ∧ nl x ln ≤ ln + 1 := by unfold nl; split <;> omega
/-- what is told of a place -/
structure Ok (a b : Bs) (i : Nat) (c : Ch) : Prop where
  lo : (i : Int) + 1 ≤ c.a
  hiA : c.a ≤ (i : Int) + a.length
  hiB : c.a ≤ (i : Int) + b.length
theorem pl_ok : ∀ (a b : Bs) (i ln : Nat), ∀ c ∈ pl a b i ln, Ok a b i c
  | [], b, i, ln, c, h => by simp [pl] at h
  | x :: a, [], i, ln, c, h => by simp [pl] at h
  | x :: a, y :: b, i, ln, c, h => by
    rw [pl_cons, List.mem_append] at h
    rcases h with h | h
    · split at h
      · simp at h
      · rw [List.mem_singleton] at h
        subst h
        exact ⟨by simp, by simp; omega, by simp; omega⟩
    · obtain ⟨h1, h2, h3⟩ := pl_ok a b (i + 1) (nl x ln) c h
      refine ⟨by omega, ?_, ?_⟩
      · rw [List.length_cons]; omega
      · rw [List.length_cons]; omega
/-- the offsets rise -/
def Rise (n : Int) : List Ch → Prop
  | [] => True
  | c :: l => n < c.a ∧ Rise c.a l
theorem rise_low : ∀ {l : List Ch} {n m : Int}, Rise n l → m ≤ n → Rise m l
  | [], _, _, _, _ => trivial
  | _ :: _, _, _, h, hm => ⟨Int.lt_of_le_of_lt hm h.1, h.2⟩
theorem pl_rise : ∀ (a b : Bs) (i ln : Nat), Rise i (pl a b i ln)
  | [], b, i, ln => trivial
  | x :: a, [], i, ln => trivial
  | x :: a, y :: b, i, ln => by
    have h := pl_rise a b (i + 1) (nl x ln)
    by_cases e : x = y
    · rw [pl_same e]; exact rise_low h (by omega)
    · rw [pl_diff e]
      exact ⟨by simp; omega, by simpa using h⟩
/-! ### the texts exchanged -/
theorem pl_turn : ∀ (a b : Bs) (i ln lm : Nat), (pl a b i ln).length = (pl b a i lm).length ∧ ∀ (j : Nat) (u v : Ch), (pl a b i ln)[j]? = some u → (pl b a i lm)[j]? = some v → u.a = v.a ∧ u.b = v.m ∧ u.m = v.b ∧ (ln = lm → u.n = v.n ∨ a.take (u.a.toNat - 1 - i) ≠ b.take (u.a.toNat - 1 - i)) ∧ (ln = lm → j = 0 → u.n = v.n)
  | [], b, i, ln, lm => by
    refine ⟨by cases b <;> rfl, fun j u v h => ?_⟩
    simp [pl] at h
  | x :: a, [], i, ln, lm => by
    refine ⟨rfl, fun j u v h => ?_⟩
    simp [pl] at h
  | x :: a, y :: b, i, ln, lm => by
    obtain ⟨hl, hr⟩ := pl_turn a b (i + 1) (nl x ln) (nl y lm)
    have lo1 := pl_ok a b (i + 1) (nl x ln)
    by_cases e : x = y
    · subst e
      rw [pl_same rfl, pl_same rfl]
      refine ⟨hl, fun j u v hu hv => ?_⟩
      obtain ⟨h1, h2, h3, h4, h5⟩ := hr j u v hu hv
      have hlo := (lo1 u (List.mem_of_getElem? hu)).lo
      obtain ⟨t, ht⟩ : ∃ t, u.a.toNat - 1 - i = t + 1 := ⟨u.a.toNat - 1 - i - 1, by omega⟩
      rw [show u.a.toNat - 1 - (i + 1) = t by omega] at h4
      refine ⟨h1, h2, h3, fun q => ?_, fun q q0 => h5 (by rw [q]) q0⟩
      rcases h4 (by rw [q]) with h4 | h4
      · exact .inl h4
      · refine .inr fun hh => h4 ?_
        rw [ht, List.take_succ_cons, List.take_succ_cons] at hh
        exact (List.cons.inj hh).2
    · rw [pl_diff e, pl_diff (Ne.symm e)]
      refine ⟨by simp [hl], fun j u v hu hv => ?_⟩
      cases j with
      | zero =>
        simp at hu hv
        subst hu hv
        exact ⟨rfl, rfl, rfl, fun q => .inl (by simp [q]), fun q _ => by simp [q]⟩
      | succ j =>
        simp at hu hv
        obtain ⟨h1, h2, h3, h4, h5⟩ := hr j u v hu hv
        have hlo := (lo1 u (List.mem_of_getElem? hu)).lo
        obtain ⟨t, ht⟩ : ∃ t, u.a.toNat - 1 - i = t + 1 := ⟨u.a.toNat - 1 - i - 1, by omega⟩
        refine ⟨h1, h2, h3, fun _ => .inr fun hh => e ?_, fun _ q0 => by omega⟩
        rw [ht, List.take_succ_cons, List.take_succ_cons] at hh
        exact (List.cons.inj hh).1
theorem pl_eq : ∀ (a b : Bs) (i ln : Nat), a = b ↔ (pl a b i ln = [] ∧ a.length = b.length)
  | [], [], i, ln => by simp [pl]
  | [], y :: b, i, ln => by simp [pl]
  | x :: a, [], i, ln => by simp [pl]
  | x :: a, y :: b, i, ln => by
    have h := pl_eq a b (i + 1) (nl x ln)
    by_cases e : x = y
    · subst e; rw [pl_same rfl]; simp; exact h
    · rw [pl_diff e]; simp [e]
/-! ### at most so many -/
def mst (most : Int) (l : List Ch) : List Ch := if most < 0 then l else l.take most.toNat
theorem mst_le (most : Int) (l : List Ch) : (mst most l).length ≤ l.length := by unfold mst; split <;> simp <;> omega
theorem mst_all (l : List Ch) : mst (-1) l = l := rfl
/-! ### runs -/
def ends (p : Pr) (u : Ch) : Bool := p.1 + p.2 == u.a
def rnM (most : Int) : List Pr → List Ch → List Pr
  | acc, [] => acc
  | acc, u :: l =>
    match acc.getLast? with
    | some p => if ends p u then rnM most (acc.dropLast ++ [(p.1, p.2 + 1)]) l else if 0 ≤ most ∧ most ≤ acc.length then acc else rnM most (acc ++ [(u.a, 1)]) l
    | none => if 0 ≤ most ∧ most ≤ acc.length then acc else rnM most (acc ++ [(u.a, 1)]) l
theorem rnM_nil (most : Int) (acc : List Pr) : rnM most acc [] = acc := by unfold rnM; rfl
theorem rnM_ext {most : Int} {acc : List Pr} {u : Ch} {l : List Ch} {p : Pr} (h : acc.getLast? = some p) (he : p.1 + p.2 = u.a) : rnM most acc (u :: l) = rnM most (acc.dropLast ++ [(p.1, p.2 + 1)]) l := by
  rw [rnM, h]; simp [ends, he]
theorem rnM_stop {most : Int} {acc : List Pr} {u : Ch} {l : List Ch} (h : ∀ p, acc.getLast? = some p → p.1 + p.2 ≠ u.a) (hm : 0 ≤ most ∧ most ≤ acc.length) : rnM most acc (u :: l) = acc := by
  rw [rnM]
  cases hl : acc.getLast? with
  | none => simp [hm]
  | some p => simp [ends, h p hl, hm]
theorem rnM_new {most : Int} {acc : List Pr} {u : Ch} {l : List Ch} (h : ∀ p, acc.getLast? = some p → p.1 + p.2 ≠ u.a) (hm : ¬ (0 ≤ most ∧ most ≤ acc.length)) : rnM most acc (u :: l) = rnM most (acc ++ [(u.a, 1)]) l := by
  rw [rnM]
  cases hl : acc.getLast? with
  | none => simp [hm]
  | some p => simp [ends, h p hl, hm]
/-- the last but with one more -/
def up (acc : List Pr) (p : Pr) : List Pr := acc.dropLast ++ [(p.1, p.2 + 1)]
theorem up_len {acc : List Pr} {p : Pr} (h : acc.getLast? = some p) : (up acc p).length = acc.length := by
  unfold up
  have : acc ≠ [] := by intro e; rw [e] at h; simp at h
  have h2 : 0 < acc.length := List.length_pos_iff.2 this
  simp; omega
theorem up_set {acc : List Pr} {p : Pr} (h : acc.getLast? = some p) : up acc p = acc.set (acc.length - 1) (p.1, p.2 + 1) := by
  unfold up
  have h0 : acc ≠ [] := by intro e; rw [e] at h; simp at h
  obtain ⟨q, hq⟩ : ∃ q, acc = q ++ [p] := by
    refine ⟨acc.dropLast, ?_⟩
    have := List.dropLast_concat_getLast h0
    rw [List.getLast?_eq_some_getLast h0] at h
    rw [Option.some.inj h] at this
    exact this.symm
  subst hq
  rw [List.dropLast_concat, List.length_append, List.length_singleton, Nat.add_sub_cancel, List.set_append_right _ _ (Nat.le_refl _)]
  simp
theorem rnM_len : ∀ (l : List Ch) (most : Int) (acc : List Pr), (rnM most acc l).length ≤ acc.length + l.length
  | [], most, acc => by rw [rnM_nil]; simp
  | u :: l, most, acc => by
    by_cases h : ∃ p, acc.getLast? = some p ∧ p.1 + p.2 = u.a
    · obtain ⟨p, hp, he⟩ := h
      rw [rnM_ext hp he]
      have h1 := rnM_len l most (up acc p)
      rw [up_len hp] at h1
      show (rnM most (up acc p) l).length ≤ _
      rw [List.length_cons]; omega
    · have hn : ∀ p, acc.getLast? = some p → p.1 + p.2 ≠ u.a := fun p hp he => h ⟨p, hp, he⟩
      by_cases hm : 0 ≤ most ∧ most ≤ acc.length
      · rw [rnM_stop hn hm]; rw [List.length_cons]; omega
      · rw [rnM_new hn hm]
        have h1 := rnM_len l most (acc ++ [(u.a, 1)])
        simp at h1 ⊢; omega
/-! without an end: as many places, apart from one another -/
def sm : List Pr → Int
  | [] => 0
  | p :: l => p.2 + sm l
theorem sm_app (l m : List Pr) : sm (l ++ m) = sm l + sm m := by
  induction l with
  | nil => simp [sm]
  | cons p l ih => simp [sm, ih]; omega
/-- each behind the one ahead, with a place between -/
structure Apt (acc : List Pr) : Prop where
  one : ∀ p ∈ acc, 1 ≤ p.2
  gap : ∀ (i : Nat) (p q : Pr), acc[i]? = some p → acc[i + 1]? = some q → p.1 + p.2 < q.1
theorem last_split {acc : List Pr} {p : Pr} (h : acc.getLast? = some p) : ∃ r, acc = r ++ [p] := by
  have h0 : acc ≠ [] := by intro e; rw [e] at h; simp at h
  refine ⟨acc.dropLast, ?_⟩
  have := List.dropLast_concat_getLast h0
  rw [List.getLast?_eq_some_getLast h0] at h
  rw [Option.some.inj h] at this
  exact this.symm
theorem apt_up {acc : List Pr} {p : Pr} (h : acc.getLast? = some p) (ha : Apt acc) : Apt (up acc p) := by
  obtain ⟨r, rfl⟩ := last_split h
  unfold up
  rw [List.dropLast_concat]
  obtain ⟨h1, h2⟩ := ha
  refine ⟨fun q hq => ?_, fun i x y hx hy => ?_⟩
  · rw [List.mem_append, List.mem_singleton] at hq
    rcases hq with hq | hq
    · exact h1 q (by simp [hq])
    · have := h1 p (by simp)
      rw [hq]
      show 1 ≤ p.2 + 1
      omega
  · have hi := (List.getElem?_eq_some_iff.1 hy).1
    simp at hi
    rw [List.getElem?_append_left (by omega)] at hx
    have hx' : (r ++ [p])[i]? = some x := by rw [List.getElem?_append_left (by omega)]; exact hx
    rcases Nat.lt_or_ge (i + 1) r.length with hlt | hge
    · rw [List.getElem?_append_left hlt] at hy
      exact h2 i x y hx' (by rw [List.getElem?_append_left hlt]; exact hy)
    · have e : i + 1 = r.length := by omega
      rw [e, List.getElem?_append_right (Nat.le_refl _), Nat.sub_self] at hy
      simp at hy
      have := h2 i x p hx' (by rw [e, List.getElem?_append_right (Nat.le_refl _), Nat.sub_self]; rfl)
      rw [← hy]
      exact this
theorem apt_new {acc : List Pr} {a : Int} (ha : Apt acc) (hn : ∀ p, acc.getLast? = some p → p.1 + p.2 < a) : Apt (acc ++ [(a, 1)]) := by
  obtain ⟨h1, h2⟩ := ha
  refine ⟨fun q hq => ?_, fun i x y hx hy => ?_⟩
  · rw [List.mem_append, List.mem_singleton] at hq
    rcases hq with hq | hq
    · exact h1 q hq
    · rw [hq]; show (1 : Int) ≤ 1; omega
  · have hi := (List.getElem?_eq_some_iff.1 hy).1
    simp at hi
    rcases Nat.lt_or_ge (i + 1) acc.length with hlt | hge
    · rw [List.getElem?_append_left (by omega)] at hx
      rw [List.getElem?_append_left hlt] at hy
      exact h2 i x y hx hy
    · have e : i + 1 = acc.length := by omega
      rw [e, List.getElem?_append_right (Nat.le_refl _), Nat.sub_self] at hy
      rw [List.getElem?_append_left (by omega)] at hx
      simp at hy
      rw [← hy]
      refine hn x ?_
      rw [List.getLast?_eq_getElem?, show acc.length - 1 = i by omega]
      exact hx
theorem sm_up {acc : List Pr} {p : Pr} (h : acc.getLast? = some p) : sm (up acc p) = sm acc + 1 := by
  obtain ⟨r, rfl⟩ := last_split h
  unfold up
  rw [List.dropLast_concat, sm_app, sm_app]
  simp [sm]; omega
theorem rnM_apt : ∀ (l : List Ch) (acc : List Pr) (z : Int), Apt acc → Rise z l → (∀ p, acc.getLast? = some p → Rise (p.1 + p.2 - 1) l) → Apt (rnM (-1) acc l) ∧ sm (rnM (-1) acc l) = sm acc + l.length
  | [], acc, z, ha, _, _ => by rw [rnM_nil]; exact ⟨ha, by simp⟩
  | u :: l, acc, z, ha, hz, hr => by
    by_cases h : ∃ p, acc.getLast? = some p ∧ p.1 + p.2 = u.a
    · obtain ⟨p, hp, he⟩ := h
      rw [rnM_ext hp he]
      obtain ⟨h1, h2⟩ := rnM_apt l (up acc p) u.a (apt_up hp ha) hz.2 (fun q hq => by
        have e : (up acc p).getLast? = some (p.1, p.2 + 1) := by unfold up; simp
        rw [e] at hq
        have := (hr p hp).2
        rw [← Option.some.inj hq]
        exact rise_low this (by show p.1 + (p.2 + 1) - 1 ≤ u.a; omega))
      refine ⟨h1, ?_⟩
      have : sm (rnM (-1) (up acc p) l) = sm acc + 1 + l.length := by rw [h2, sm_up hp]
      show sm (rnM (-1) (up acc p) l) = _
      rw [this, List.length_cons]; omega
    · have hn : ∀ p, acc.getLast? = some p → p.1 + p.2 ≠ u.a := fun p hp he => h ⟨p, hp, he⟩
      rw [rnM_new hn (by omega)]
      obtain ⟨h1, h2⟩ := rnM_apt l (acc ++ [(u.a, 1)]) u.a (apt_new ha (fun p hp => by have := (hr p hp).1; have := hn p hp; omega)) hz.2 (fun q hq => by
        rw [List.getLast?_concat] at hq
        rw [← Option.some.inj hq]
        have := hz.2
        exact rise_low this (by show u.a + 1 - 1 ≤ u.a; omega))
      refine ⟨h1, ?_⟩
      rw [h2, sm_app, List.length_cons]
      simp [sm]; omega
end Go.Proofs.Ytagjjhlegojpbaa.Scn
