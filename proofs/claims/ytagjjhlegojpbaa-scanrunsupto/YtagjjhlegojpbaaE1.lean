/-
  Plain laws on pairs of lines put together, and on two scripts as one.
-/
import Derived.Test.YtagjjhlegojpbaaE0
namespace Go.Proofs.Ytagjjhlegojpbaa.Ed

def lt (p q : Pr) : Prop := p.1 < q.1 ∧ p.2 < q.2
def inB (a b n m : Int) (p : Pr) : Prop := (a ≤ p.1 ∧ p.1 < n) ∧ b ≤ p.2 ∧ p.2 < m
theorem rise_iff {P : List Pr} {a b n m : Int} : rise P a b n m = true ↔ P.Pairwise lt ∧ ∀ p ∈ P, inB a b n m p := by
  induction P generalizing a b with
  | nil => simp [rise]
  | cons p r ih =>
    rw [rise_cons, ih, List.pairwise_cons]
    constructor
    · rintro ⟨h1, h2, h3⟩
      refine ⟨⟨fun q hq => ?_, h2⟩, fun q hq => ?_⟩
      · have := h3 q hq
        unfold inB at this; unfold lt
        omega
      · rcases List.mem_cons.1 hq with rfl | hq
        · exact h1
        · have := h3 q hq
          unfold inB at this ⊢
          omega
    · rintro ⟨⟨h1, h2⟩, h3⟩
      refine ⟨h3 p (List.mem_cons_self ..), h2, fun q hq => ?_⟩
      have k1 := h1 q hq
      have k2 := h3 q (List.mem_cons_of_mem _ hq)
      unfold lt at k1
      unfold inB at k2 ⊢
      omega
theorem sorted_ext {X Y : List Pr} (hX : X.Pairwise lt) (hY : Y.Pairwise lt) (h : ∀ p, p ∈ X ↔ p ∈ Y) : X = Y := by
  induction X generalizing Y with
  | nil =>
    cases Y with
    | nil => rfl
    | cons y r => exact absurd ((h y).2 (List.mem_cons_self ..)) (by simp)
  | cons x X ih =>
    cases Y with
    | nil => exact absurd ((h x).1 (List.mem_cons_self ..)) (by simp)
    | cons y Y =>
      obtain ⟨hx, hX'⟩ := List.pairwise_cons.1 hX
      obtain ⟨hy, hY'⟩ := List.pairwise_cons.1 hY
      have e : x = y := by
        rcases List.mem_cons.1 ((h x).1 (List.mem_cons_self ..)) with e | e
        · exact e
        · rcases List.mem_cons.1 ((h y).2 (List.mem_cons_self ..)) with e' | e'
          · exact e'.symm
          · have k1 := hy x e
            have k2 := hx y e'
            unfold lt at k1 k2
            omega
      subst e
      congr 1
      refine ih hX' hY' fun p => ⟨fun hp => ?_, fun hp => ?_⟩
      · rcases List.mem_cons.1 ((h p).1 (List.mem_cons_of_mem _ hp)) with e | e
        · subst e
          have := hx p hp
          unfold lt at this; omega
        · exact e
      · rcases List.mem_cons.1 ((h p).2 (List.mem_cons_of_mem _ hp)) with e | e
        · subst e
          have := hy p hp
          unfold lt at this; omega
        · exact e

/-! ### pairs put together -/
def thru (Q : List Pr) (p : Pr) : List Pr := (Q.filter fun q => decide (q.1 = p.2)).map fun q => (p.1, q.2)
def comp (P Q : List Pr) : List Pr := P.flatMap (thru Q)
theorem mem_comp {P Q : List Pr} {z : Pr} : z ∈ comp P Q ↔ ∃ p ∈ P, ∃ q ∈ Q, q.1 = p.2 ∧ z = (p.1, q.2) := by
  unfold comp thru
  simp only [List.mem_flatMap, List.mem_map, List.mem_filter, decide_eq_true_eq]
  constructor
  · rintro ⟨p, hp, q, ⟨hq, e⟩, rfl⟩; exact ⟨p, hp, q, hq, e, rfl⟩
  · rintro ⟨p, hp, q, hq, e, rfl⟩; exact ⟨p, hp, q, ⟨hq, e⟩, rfl⟩
theorem lt_of_fst {Q : List Pr} (hQ : Q.Pairwise lt) {x y : Pr} (hx : x ∈ Q) (hy : y ∈ Q) (h : x.1 < y.1) : x.2 < y.2 := by
  induction hQ with
  | nil => cases hx
  | @cons q Q h1 h2 ih =>
    rcases List.mem_cons.1 hx with ex | hx'
    · rcases List.mem_cons.1 hy with ey | hy'
      · rw [ex, ey] at h; omega
      · rw [ex]; exact (h1 y hy').2
    · rcases List.mem_cons.1 hy with ey | hy'
      · have := (h1 x hx').1; rw [ey] at h; omega
      · exact ih hx' hy'
theorem comp_pairwise {P Q : List Pr} (hP : P.Pairwise lt) (hQ : Q.Pairwise lt) : (comp P Q).Pairwise lt := by
  unfold comp
  rw [List.pairwise_flatMap]
  constructor
  · intro p _
    unfold thru
    rw [List.pairwise_map]
    have h1 : (Q.filter fun q => decide (q.1 = p.2)).Pairwise lt := hQ.filter _
    refine List.Pairwise.imp_of_mem ?_ h1
    intro x y hx hy hl
    have e1 := (List.mem_filter.1 hx).2
    have e2 := (List.mem_filter.1 hy).2
    simp only [decide_eq_true_eq] at e1 e2
    unfold lt at hl
    omega
  · refine hP.imp ?_
    intro p p' hl x hx y hy
    unfold thru at hx hy
    simp only [List.mem_map, List.mem_filter, decide_eq_true_eq] at hx hy
    obtain ⟨q, ⟨hq, e⟩, rfl⟩ := hx
    obtain ⟨q', ⟨hq', e'⟩, rfl⟩ := hy
    have h2 := hl.2
    have h3 : q.2 < q'.2 := lt_of_fst hQ hq hq' (by omega)
    exact ⟨hl.1, h3⟩
theorem comp_rise {P Q : List Pr} {n m k : Int} (hP : rise P 0 0 n m = true) (hQ : rise Q 0 0 m k = true) : rise (comp P Q) 0 0 n k = true := by
  rw [rise_iff] at *
  refine ⟨comp_pairwise hP.1 hQ.1, fun z hz => ?_⟩
  obtain ⟨p, hp, q, hq, _, rfl⟩ := mem_comp.1 hz
  have h1 := hP.2 p hp
  have h2 := hQ.2 q hq
  unfold inB at *
  simp only
  omega
theorem comp_assoc {P Q R : List Pr} (hP : P.Pairwise lt) (hQ : Q.Pairwise lt) (hR : R.Pairwise lt) : comp (comp P Q) R = comp P (comp Q R) := by
  refine sorted_ext (comp_pairwise (comp_pairwise hP hQ) hR) (comp_pairwise hP (comp_pairwise hQ hR)) fun z => ?_
  simp only [mem_comp]
  constructor
  · rintro ⟨x, ⟨p, hp, q, hq, e, rfl⟩, r, hr, e', rfl⟩
    exact ⟨p, hp, (q.1, r.2), ⟨q, hq, r, hr, e', rfl⟩, e, rfl⟩
  · rintro ⟨p, hp, x, ⟨q, hq, r, hr, e', rfl⟩, e, rfl⟩
    exact ⟨(p.1, q.2), ⟨p, hp, q, hq, e, rfl⟩, r, hr, e', rfl⟩
theorem sw_pairwise {P : List Pr} (h : P.Pairwise lt) : (P.map sw).Pairwise lt := by
  rw [List.pairwise_map]
  exact h.imp fun h => ⟨h.2, h.1⟩
theorem mem_sw {P : List Pr} {z : Pr} : z ∈ P.map sw ↔ sw z ∈ P := by
  rw [List.mem_map]
  constructor
  · rintro ⟨p, hp, rfl⟩; exact hp
  · intro h; exact ⟨sw z, h, rfl⟩
theorem comp_sw {P Q : List Pr} (hP : P.Pairwise lt) (hQ : Q.Pairwise lt) : (comp P Q).map sw = comp (Q.map sw) (P.map sw) := by
  refine sorted_ext (sw_pairwise (comp_pairwise hP hQ)) (comp_pairwise (sw_pairwise hQ) (sw_pairwise hP)) fun z => ?_
  rw [mem_sw, mem_comp, mem_comp]
  constructor
  · rintro ⟨p, hp, q, hq, e, h⟩
    refine ⟨sw q, mem_sw.2 hq, sw p, mem_sw.2 hp, e.symm, ?_⟩
    exact Prod.ext (congrArg Prod.snd h) (congrArg Prod.fst h)
  · rintro ⟨q, hq, p, hp, e, h⟩
    refine ⟨sw p, mem_sw.1 hp, sw q, mem_sw.1 hq, e.symm, ?_⟩
    rw [h]; rfl
theorem comp_same {P : List Pr} {n m : Int} (hP : rise P 0 0 n m = true) : comp P (prs [] m 0 0) = P := by
  have hr := rise_iff.1 hP
  have hQ : (prs [] m 0 0).Pairwise lt := by
    by_cases hm : 0 ≤ m
    · exact (rise_iff.1 (rise_prs (s := []) (n := m) (m := m) (a := 0) (b := 0) (by simp [val]) hm hm)).1
    · rw [prs_nil, show (m - 0).toNat = 0 by omega]; exact List.Pairwise.nil
  refine sorted_ext (comp_pairwise hr.1 hQ) hr.1 fun z => ?_
  rw [mem_comp]
  constructor
  · rintro ⟨p, hp, q, hq, e, rfl⟩
    rw [prs_nil, mem_exN] at hq
    have : (p.1, q.2) = p := Prod.ext rfl (by simp only; omega)
    rw [this]; exact hp
  · intro hz
    have hb := hr.2 z hz
    unfold inB at hb
    refine ⟨z, hz, (z.2, z.2), ?_, rfl, rfl⟩
    rw [prs_nil, mem_exN]
    refine ⟨hb.2.1, ?_, by simp⟩
    simp only
    omega

/-! ### runs put together -/
def ltR (r t : Run) : Prop := r.1 + r.2.2 ≤ t.1 ∧ r.2.1 + r.2.2 ≤ t.2.1
theorem exN_pairwise (x y : Int) (k : Nat) : (exN x y k).Pairwise lt := by
  have : rise (exN x y k ++ []) x y (x + k) (y + k) = true := rise_exN (Int.le_refl _) (Int.le_refl _) (.inr ⟨Int.le_refl _, Int.le_refl _⟩) rfl
  rw [List.append_nil] at this
  exact (rise_iff.1 this).1
theorem mem_ex {r : Run} {p : Pr} (hr : 0 < r.2.2) : p ∈ ex r ↔ r.1 ≤ p.1 ∧ p.1 < r.1 + r.2.2 ∧ p.2 - r.2.1 = p.1 - r.1 := by
  unfold ex
  rw [mem_exN]
  omega
theorem exs_pairwise {rs : List Run} (hp : ∀ r ∈ rs, 0 < r.2.2) (h : rs.Pairwise ltR) : (exs rs).Pairwise lt := by
  unfold exs
  rw [List.pairwise_flatMap]
  refine ⟨fun r _ => exN_pairwise _ _ _, ?_⟩
  refine List.Pairwise.imp_of_mem ?_ h
  intro r t hr ht hl x hx y hy
  have h1 := (mem_ex (hp r hr)).1 hx
  have h2 := (mem_ex (hp t ht)).1 hy
  unfold ltR at hl; unfold lt
  omega
theorem runs_sorted {s : List Ch} {n m a b : Int} (h : val s a b n m = true) (ha : a ≤ n) (hb : b ≤ m) : (runs s n a b).Pairwise ltR ∧ ∀ r ∈ runs s n a b, a ≤ r.1 ∧ b ≤ r.2.1 ∧ r.1 + r.2.2 ≤ n ∧ r.2.1 + r.2.2 ≤ m := by
  induction s generalizing a b with
  | nil =>
    have h' : n - a = m - b := by simpa [val] using h
    rw [runs]; unfold run1
    split
    · refine ⟨List.pairwise_singleton _ _, fun r hr => ?_⟩
      simp at hr; subst hr
      simp only; omega
    · exact ⟨List.Pairwise.nil, fun r hr => by cases hr⟩
  | cons c r ih =>
    obtain ⟨⟨h1, h2, h3, h4⟩, hr⟩ := val_cons.1 h
    obtain ⟨i1, i2⟩ := ih hr (by omega) (by omega)
    rw [runs]
    have hx : ∀ x ∈ run1 a b (c.a - a), x = (a, b, c.a - a) := by
      unfold run1
      intro x hx
      split at hx
      · simpa using hx
      · cases hx
    constructor
    · rw [List.pairwise_append]
      refine ⟨?_, i1, fun x hx' y hy => ?_⟩
      · unfold run1
        split
        · exact List.pairwise_singleton _ _
        · exact List.Pairwise.nil
      · have e := hx x hx'
        subst e
        have := i2 y hy
        unfold ltR
        simp only
        omega
    · intro x hx'
      rcases List.mem_append.1 hx' with k | k
      · have e := hx x k
        subst e
        simp only
        omega
      · have := i2 x k
        omega
def through (r t : Run) : Run := (r.1 + max r.2.1 t.1 - r.2.1, t.2.1 + max r.2.1 t.1 - t.1, min (r.2.1 + r.2.2) (t.1 + t.2.2) - max r.2.1 t.1)
def ahead (r t : Run) : Bool := decide (t.1 + t.2.2 ≤ r.2.1)
def meets (r t : Run) : Bool := decide (t.1 < r.2.1 + r.2.2)
def left (ts : List Run) (r : Run) : List Run := ts.dropWhile (ahead r)
def hits (ts : List Run) (r : Run) : List Run := ((left ts r).takeWhile (meets r)).map (through r)
def jn : List Run → List Run → List Run
  | [], _ => []
  | r :: rs, ts => hits ts r ++ jn rs (left ts r)
theorem left_suffix (ts : List Run) (r : Run) : ∃ d, ts = d ++ left ts r ∧ ∀ t ∈ d, ahead r t = true := by
  refine ⟨ts.takeWhile (ahead r), (List.takeWhile_append_dropWhile ..).symm, fun t ht => ?_⟩
  induction ts with
  | nil => cases ht
  | cons x ts ih =>
    rw [List.takeWhile_cons] at ht
    split at ht
    · rcases List.mem_cons.1 ht with rfl | ht
      · assumption
      · exact ih ht
    · cases ht
theorem left_head {ts : List Run} {r t : Run} {l : List Run} (h : left ts r = t :: l) : ahead r t = false := by
  induction ts with
  | nil => cases h
  | cons x ts ih =>
    unfold left at h ih
    rw [List.dropWhile_cons] at h
    split at h
    · exact ih h
    · cases h
      exact Bool.eq_false_iff.2 ‹_›
theorem left_all {ts : List Run} {r : Run} (hs : ts.Pairwise ltR) (hp : ∀ t ∈ ts, 0 < t.2.2) : ∀ t ∈ left ts r, r.2.1 < t.1 + t.2.2 := by
  obtain ⟨d, hd, _⟩ := left_suffix ts r
  have hs' : (left ts r).Pairwise ltR := by rw [hd] at hs; exact (List.pairwise_append.1 hs).2.1
  cases hl : left ts r with
  | nil => intro t ht; cases ht
  | cons x l =>
    have h1 := left_head hl
    rw [hl] at hs'
    intro t ht
    have hx : r.2.1 < x.1 + x.2.2 := by simpa [ahead] using h1
    rcases List.mem_cons.1 ht with rfl | ht'
    · exact hx
    · have := (List.pairwise_cons.1 hs').1 t ht'
      have hp' := hp t (by rw [hd, hl]; simp [ht'])
      unfold ltR at this
      omega
theorem take_meets {l : List Run} {r : Run} (hs : l.Pairwise ltR) (hp : ∀ t ∈ l, 0 < t.2.2) : ∀ t, t ∈ l.takeWhile (meets r) ↔ t ∈ l ∧ t.1 < r.2.1 + r.2.2 := by
  induction l with
  | nil => simp
  | cons x l ih =>
    obtain ⟨h1, h2⟩ := List.pairwise_cons.1 hs
    have hx := hp x (List.mem_cons_self ..)
    intro t
    rw [List.takeWhile_cons]
    by_cases hm : meets r x = true
    · rw [if_pos hm, List.mem_cons, ih h2 (fun t ht => hp t (List.mem_cons_of_mem _ ht)), List.mem_cons]
      have hm' : x.1 < r.2.1 + r.2.2 := by simpa [meets] using hm
      constructor
      · rintro (rfl | ⟨k1, k2⟩)
        · exact ⟨.inl rfl, hm'⟩
        · exact ⟨.inr k1, k2⟩
      · rintro ⟨rfl | k1, k2⟩
        · exact .inl rfl
        · exact .inr ⟨k1, k2⟩
    · rw [if_neg hm]
      have hm' : ¬ x.1 < r.2.1 + r.2.2 := by simpa [meets] using hm
      constructor
      · intro h; cases h
      · rintro ⟨k1, k2⟩
        rcases List.mem_cons.1 k1 with rfl | k1
        · exact absurd k2 hm'
        · have := h1 t k1
          unfold ltR at this
          omega
/-- what two runs share -/
def shared (r t : Run) : Prop := r.2.1 < t.1 + t.2.2 ∧ t.1 < r.2.1 + r.2.2
theorem mem_hits {ts : List Run} {r : Run} (hs : ts.Pairwise ltR) (hp : ∀ t ∈ ts, 0 < t.2.2) : ∀ x, x ∈ hits ts r ↔ ∃ t ∈ ts, shared r t ∧ x = through r t := by
  obtain ⟨d, hd, hd2⟩ := left_suffix ts r
  have hs' : (left ts r).Pairwise ltR := by rw [hd] at hs; exact (List.pairwise_append.1 hs).2.1
  have hp' : ∀ t ∈ left ts r, 0 < t.2.2 := fun t ht => hp t (by rw [hd]; exact List.mem_append_right _ ht)
  intro x
  unfold hits
  rw [List.mem_map]
  constructor
  · rintro ⟨t, ht, rfl⟩
    obtain ⟨k1, k2⟩ := (take_meets hs' hp' t).1 ht
    exact ⟨t, by rw [hd]; exact List.mem_append_right _ k1, ⟨left_all hs hp t k1, k2⟩, rfl⟩
  · rintro ⟨t, ht, ⟨k1, k2⟩, rfl⟩
    refine ⟨t, (take_meets hs' hp' t).2 ⟨?_, k2⟩, rfl⟩
    rw [hd] at ht
    rcases List.mem_append.1 ht with k | k
    · have := hd2 t k
      simp [ahead] at this
      omega
    · exact k
theorem jn_sub {rs ts : List Run} (hr : rs.Pairwise ltR) (hrp : ∀ r ∈ rs, 0 < r.2.2) (hs : ts.Pairwise ltR) (hp : ∀ t ∈ ts, 0 < t.2.2) : ∀ x, x ∈ jn rs ts ↔ ∃ r ∈ rs, ∃ t ∈ ts, shared r t ∧ x = through r t := by
  induction rs generalizing ts with
  | nil => intro x; simp [jn]
  | cons r rs ih =>
    obtain ⟨h1, h2⟩ := List.pairwise_cons.1 hr
    have hr0 := hrp r (List.mem_cons_self ..)
    obtain ⟨d, hd, hd2⟩ := left_suffix ts r
    have hs' : (left ts r).Pairwise ltR := by rw [hd] at hs; exact (List.pairwise_append.1 hs).2.1
    have hp' : ∀ t ∈ left ts r, 0 < t.2.2 := fun t ht => hp t (by rw [hd]; exact List.mem_append_right _ ht)
    intro x
    rw [jn, List.mem_append, mem_hits hs hp, ih h2 (fun q hq => hrp q (List.mem_cons_of_mem _ hq)) hs' hp']
    constructor
    · rintro (⟨t, ht, k, rfl⟩ | ⟨q, hq, t, ht, k, rfl⟩)
      · exact ⟨r, List.mem_cons_self .., t, ht, k, rfl⟩
      · exact ⟨q, List.mem_cons_of_mem _ hq, t, by rw [hd]; exact List.mem_append_right _ ht, k, rfl⟩
    · rintro ⟨q, hq, t, ht, k, rfl⟩
      rcases List.mem_cons.1 hq with rfl | hq
      · exact .inl ⟨t, ht, k, rfl⟩
      · refine .inr ⟨q, hq, t, ?_, k, rfl⟩
        rw [hd] at ht
        rcases List.mem_append.1 ht with j | j
        · have e1 := hd2 t j
          have e2 := h1 q hq
          simp [ahead] at e1
          unfold ltR at e2
          unfold shared at k
          omega
        · exact j
theorem hits_sorted {ts : List Run} {r : Run} (hs : ts.Pairwise ltR) : (hits ts r).Pairwise ltR := by
  obtain ⟨d, hd, hd2⟩ := left_suffix ts r
  have hs' : (left ts r).Pairwise ltR := by rw [hd] at hs; exact (List.pairwise_append.1 hs).2.1
  unfold hits
  rw [List.pairwise_map]
  have h := hs'.sublist (List.takeWhile_sublist (meets r))
  refine h.imp ?_
  intro t t' hl
  unfold ltR at *
  unfold through
  simp only
  omega
theorem ltR_or {ts : List Run} (hs : ts.Pairwise ltR) {t t' : Run} (h : t ∈ ts) (h' : t' ∈ ts) : t = t' ∨ ltR t t' ∨ ltR t' t := by
  induction hs with
  | nil => cases h
  | @cons x l h1 _ ih =>
    rcases List.mem_cons.1 h with e | k
    · rcases List.mem_cons.1 h' with e' | k'
      · exact .inl (e.trans e'.symm)
      · rw [e]; exact .inr (.inl (h1 _ k'))
    · rcases List.mem_cons.1 h' with e' | k'
      · rw [e']; exact .inr (.inr (h1 _ k))
      · exact ih k k'
theorem jn_sorted {rs ts : List Run} (hr : rs.Pairwise ltR) (hrp : ∀ r ∈ rs, 0 < r.2.2) (hs : ts.Pairwise ltR) (hp : ∀ t ∈ ts, 0 < t.2.2) : (jn rs ts).Pairwise ltR := by
  induction rs generalizing ts with
  | nil => exact List.Pairwise.nil
  | cons r rs ih =>
    obtain ⟨h1, h2⟩ := List.pairwise_cons.1 hr
    have hr0 := hrp r (List.mem_cons_self ..)
    have hrp' : ∀ q ∈ rs, 0 < q.2.2 := fun q hq => hrp q (List.mem_cons_of_mem _ hq)
    obtain ⟨d, hd, hd2⟩ := left_suffix ts r
    have hs' : (left ts r).Pairwise ltR := by rw [hd] at hs; exact (List.pairwise_append.1 hs).2.1
    have hsub : ∀ t ∈ left ts r, t ∈ ts := fun t ht => by rw [hd]; exact List.mem_append_right _ ht
    have hp' : ∀ t ∈ left ts r, 0 < t.2.2 := fun t ht => hp t (hsub t ht)
    rw [jn, List.pairwise_append]
    refine ⟨hits_sorted hs, ih h2 hrp' hs' hp', ?_⟩
    intro x hx y hy
    obtain ⟨t, ht, k, rfl⟩ := (mem_hits hs hp x).1 hx
    obtain ⟨q, hq, t', ht', k', rfl⟩ := (jn_sub h2 hrp' hs' hp' y).1 hy
    have e := h1 q hq
    have e3 := hp t ht
    have e4 := hp' t' ht'
    have e5 := hrp' q hq
    unfold ltR at e
    unfold shared at k k'
    rcases ltR_or hs ht (hsub t' ht') with rfl | e2 | e2
    · unfold ltR through; simp only; omega
    · unfold ltR at e2 ⊢; unfold through; simp only; omega
    · unfold ltR at e2 ⊢; unfold through; simp only; omega
theorem jn_exs {rs ts : List Run} (hr : rs.Pairwise ltR) (hrp : ∀ r ∈ rs, 0 < r.2.2) (hs : ts.Pairwise ltR) (hp : ∀ t ∈ ts, 0 < t.2.2) : (∀ x ∈ jn rs ts, 0 < x.2.2) ∧ exs (jn rs ts) = comp (exs rs) (exs ts) := by
  have hpos : ∀ x ∈ jn rs ts, 0 < x.2.2 := by
    intro x hx
    obtain ⟨r, hr', t, ht, k, rfl⟩ := (jn_sub hr hrp hs hp x).1 hx
    have e1 := hrp r hr'
    have e2 := hp t ht
    unfold shared at k
    unfold through
    simp only
    omega
  refine ⟨hpos, sorted_ext (exs_pairwise hpos (jn_sorted hr hrp hs hp)) (comp_pairwise (exs_pairwise hrp hr) (exs_pairwise hp hs)) fun z => ?_⟩
  rw [mem_comp]
  unfold exs
  simp only [List.mem_flatMap]
  constructor
  · rintro ⟨x, hx, hz⟩
    have hx0 := hpos x hx
    obtain ⟨r, hr', t, ht, k, rfl⟩ := (jn_sub hr hrp hs hp x).1 hx
    rw [mem_ex hx0] at hz
    have e1 := hrp r hr'
    have e2 := hp t ht
    unfold through at hz
    simp only at hz
    refine ⟨(z.1, r.2.1 + (z.1 - r.1)), ⟨r, hr', ?_⟩, (r.2.1 + (z.1 - r.1), z.2), ⟨t, ht, ?_⟩, rfl, rfl⟩
    · rw [mem_ex e1]; simp only; omega
    · rw [mem_ex e2]; simp only; omega
  · rintro ⟨p, ⟨r, hr', hpr⟩, q, ⟨t, ht, hqt⟩, e, rfl⟩
    have e1 := hrp r hr'
    have e2 := hp t ht
    rw [mem_ex e1] at hpr
    rw [mem_ex e2] at hqt
    have k : shared r t := by unfold shared; omega
    have hx := (jn_sub hr hrp hs hp (through r t)).2 ⟨r, hr', t, ht, k, rfl⟩
    refine ⟨through r t, hx, ?_⟩
    rw [mem_ex (hpos _ hx)]
    unfold through
    simp only
    omega
def joinP (s t : List Ch) (n m k : Int) : List Ch := ofR (jn (runs s n 0 0) (runs t m 0 0)) 0 0 n k
theorem join_eq {s t : List Ch} {n m k : Int} (hs : Val s n m) (ht : Val t m k) : joinP s t n m k = ofL (comp (prs s n 0 0) (prs t m 0 0)) 0 0 n k := by
  have hn := cnt_iff.1 hs.1
  have hm := cnt_iff.1 ht.1
  have hk := cnt_iff.1 ht.2.1
  obtain ⟨h1, h2⟩ := jn_exs (runs_sorted hs.2.2 hn.1 hm.1).1 (runs_pos s n 0 0) (runs_sorted ht.2.2 hm.1 hk.1).1 (runs_pos t m 0 0)
  unfold joinP
  rw [ofR_ex h1, h2]; rfl
theorem join_Val {s t : List Ch} {n m k : Int} (hs : Val s n m) (ht : Val t m k) : Val (joinP s t n m k) n k ∧ prs (joinP s t n m k) n 0 0 = comp (prs s n 0 0) (prs t m 0 0) := by
  rw [join_eq hs ht]
  exact ofL_Val hs.1 ht.2.1 (comp_rise hs.rise ht.rise)
theorem join_assoc {s t u : List Ch} {n m k l : Int} (hs : Val s n m) (ht : Val t m k) (hu : Val u k l) : joinP (joinP s t n m k) u n k l = joinP s (joinP t u m k l) n m l := by
  obtain ⟨h1, h2⟩ := join_Val hs ht
  obtain ⟨h3, h4⟩ := join_Val ht hu
  rw [join_eq h1 hu, join_eq hs h3, h2, h4, comp_assoc (rise_iff.1 hs.rise).1 (rise_iff.1 ht.rise).1 (rise_iff.1 hu.rise).1]
theorem join_inv {s t : List Ch} {n m k : Int} (hs : Val s n m) (ht : Val t m k) : (joinP s t n m k).map inv = joinP (t.map inv) (s.map inv) k m n := by
  rw [join_eq hs ht, join_eq ht.inv hs.inv, prs_inv hs.2.2, prs_inv ht.2.2, ← comp_sw (rise_iff.1 hs.rise).1 (rise_iff.1 ht.rise).1, ofL_sw]
theorem Val_none {m : Int} (h : cnt m = true) : Val [] m m := ⟨h, h, by simp [val]⟩
theorem join_none {s : List Ch} {n m : Int} (hs : Val s n m) : joinP s [] n m m = normal s n m := by
  rw [join_eq hs (Val_none hs.2.1), comp_same hs.rise, normal_eq]
end Go.Proofs.Ytagjjhlegojpbaa.Ed
