/-
  Patterns of names over lists of bytes: classes by their names; a pattern behind another; a name's own pattern; a set and its counterpart; many stars; the items of a set as the document reads them.
-/
import Derived.Test.YtfjhjhjdneihbaaGreatDoorPc
namespace Go.Proofs.YtfjhjhjdneihbaaGreatDoor.Pg

/-! ### classes by their names -/
def let' (c : UInt8) : Bool := decide (97 ≤ c.toNat) && decide (c.toNat ≤ 122)
def lk (nm : List UInt8) : List (List UInt8 × (UInt8 → Bool)) → Option (UInt8 → Bool)
  | [] => none
  | x :: l => if x.1 = nm then some x.2 else lk nm l
theorem span_of : ∀ (a u v : List UInt8), a.all let' = true → u = a ++ v → (∀ c, v.head? = some c → let' c = false) → u.takeWhile let' = a ∧ u.dropWhile let' = v
  | [], u, v, _, hu, hv => by
    obtain rfl : u = v := hu
    cases u with
    | nil => exact ⟨rfl, rfl⟩
    | cons c u =>
      have := hv c rfl
      simp [this]
  | x :: a, u, v, ha, hu, hv => by
    subst hu
    rw [List.all_cons, Bool.and_eq_true] at ha
    obtain ⟨h1, h2⟩ := span_of a (a ++ v) v ha.2 rfl hv
    rw [List.cons_append, List.takeWhile_cons, List.dropWhile_cons, ha.1, if_pos rfl, if_pos rfl, h1, h2]
    exact ⟨rfl, rfl⟩
theorem pre_iff {a : List UInt8} (u : List UInt8) (ha : a.all let' = true) : (full a).isPrefixOf (91 :: 58 :: u) = true ↔ a = u.takeWhile let' ∧ [58, 93].isPrefixOf (u.dropWhile let') = true := by
  have e : (full a).isPrefixOf (91 :: 58 :: u) = (a ++ [58, 93]).isPrefixOf u := by
    simp [full, List.isPrefixOf]
  rw [e]
  constructor
  · intro h
    obtain ⟨r, hr⟩ := List.isPrefixOf_iff_prefix.1 h
    obtain ⟨h1, h2⟩ := span_of a u ([58, 93] ++ r) ha (by rw [← hr]; simp) (fun c hc => by
      obtain rfl : (58 : UInt8) = c := by simpa using hc
      decide)
    rw [h1, h2]
    exact ⟨rfl, by simp [List.isPrefixOf]⟩
  · rintro ⟨h1, h2⟩
    obtain ⟨r, hr⟩ := List.isPrefixOf_iff_prefix.1 h2
    refine List.isPrefixOf_iff_prefix.2 ⟨r, ?_⟩
    have := List.takeWhile_append_dropWhile (p := let') (l := u)
    rw [← this, ← h1, ← hr]
    simp
theorem rcIn_name (u : List UInt8) : ∀ (l : List (List UInt8 × (UInt8 → Bool))), (∀ x ∈ l, x.1.all let' = true) →
    rcIn (91 :: 58 :: u) l = if [58, 93].isPrefixOf (u.dropWhile let') then (lk (u.takeWhile let') l).map fun q => (q, (u.dropWhile let').drop 2) else none
  | [], _ => by simp [rcIn, lk]
  | x :: l, h => by
    have hx := h x (by simp)
    have ih := rcIn_name u l fun y hy => h y (by simp [hy])
    unfold rcIn lk
    by_cases hp : (full x.1).isPrefixOf (91 :: 58 :: u) = true
    · obtain ⟨h1, h2⟩ := (pre_iff u hx).1 hp
      rw [if_pos hp, if_pos h2, if_pos h1]
      have e : (91 :: 58 :: u).drop (full x.1).length = (u.dropWhile let').drop 2 := by
        have hl : (full x.1).length = x.1.length + 2 + 2 := by simp [full]
        rw [hl, List.drop_succ_cons, List.drop_succ_cons]
        conv => lhs; rw [← List.takeWhile_append_dropWhile (p := let') (l := u), ← h1]
        rw [← List.drop_drop, List.drop_left]
      rw [e]; rfl
    · rw [if_neg hp, ih]
      split
      · next h2 =>
        have h1 : ¬ x.1 = u.takeWhile let' := fun h1 => hp ((pre_iff u hx).2 ⟨h1, h2⟩)
        rw [if_neg h1]
      · rfl
theorem rows_let : ∀ x ∈ rows, x.1.all let' = true := by
  intro x hx
  have h : rows.all (fun x => x.1.all let') = true := by decide +kernel
  exact List.all_eq_true.1 h x hx
theorem rc_name (u : List UInt8) : rc (91 :: 58 :: u) = if [58, 93].isPrefixOf (u.dropWhile let') then (lk (u.takeWhile let') rows).map fun q => (q, (u.dropWhile let').drop 2) else none :=
  rcIn_name u rows rows_let
theorem isCls_iff (t : List UInt8) : isCls t = true ↔ ∃ u, t = 91 :: 58 :: u := by
  unfold isCls
  rw [List.isPrefixOf_iff_prefix]
  constructor
  · rintro ⟨r, hr⟩; exact ⟨r, by rw [← hr]; rfl⟩
  · rintro ⟨u, rfl⟩; exact ⟨u, rfl⟩
/-- a class that stands there: its letters, the two signs, the rest -/
theorem rc_yes {u nm r : List UInt8} (hn : nm.all let' = true) (hu : u = nm ++ 58 :: 93 :: r) : rc (91 :: 58 :: u) = (lk nm rows).map fun q => (q, r) := by
  obtain ⟨h1, h2⟩ := span_of nm u (58 :: 93 :: r) hn hu (fun c hc => by
    obtain rfl : (58 : UInt8) = c := by simpa using hc
    decide)
  rw [rc_name, h1, h2]
  simp [List.isPrefixOf]
/-- letters, then neither a letter nor the two signs -/
theorem rc_no {u nm r : List UInt8} (hn : nm.all let' = true) (hu : u = nm ++ r) (hr : ∀ c, r.head? = some c → let' c = false) (h2 : ∀ r', r ≠ 58 :: 93 :: r') : rc (91 :: 58 :: u) = none := by
  obtain ⟨h1, h3⟩ := span_of nm u r hn hu hr
  rw [rc_name, h1, h3, if_neg]
  intro h
  obtain ⟨r', e⟩ := List.isPrefixOf_iff_prefix.1 h
  exact h2 r' (by rw [← e]; rfl)

/-! ### a pattern behind another -/
theorem rb_append {t r : List UInt8} {c : UInt8} (q : List UInt8) (h : rb t = some (c, r)) : rb (t ++ q) = some (c, r ++ q) := by
  cases t with
  | nil => cases h
  | cons a t =>
    rw [List.cons_append]
    simp only [rb] at h ⊢
    split at h
    · next ha =>
      rw [if_pos ha]
      cases t with
      | nil => cases h
      | cons d t => injection h with h; injection h with h1 h2; subst h1 h2; rfl
    · next ha =>
      rw [if_neg ha]
      injection h with h; injection h with h1 h2; subst h1 h2; rfl
theorem rb_one (c d : UInt8) (r : List UInt8) (h : rb [c] = some (d, r)) : r = [] := by
  simp only [rb] at h
  split at h
  · cases h
  · injection h with h; injection h with h1 h2; exact h2.symm
theorem isCls_append {t : List UInt8} (q : List UInt8) (h : isCls t = true) : isCls (t ++ q) = true := by
  obtain ⟨u, rfl⟩ := (isCls_iff t).1 h
  exact (isCls_iff _).2 ⟨u ++ q, rfl⟩
theorem isCls_append_no {t : List UInt8} (q : List UInt8) (h : isCls t = false) (h2 : 2 ≤ t.length) : isCls (t ++ q) = false := by
  rw [Bool.eq_false_iff]
  intro h'
  obtain ⟨u, e⟩ := (isCls_iff _).1 h'
  match t, h2 with
  | a :: b :: t, _ =>
    simp at e
    have : isCls (a :: b :: t) = true := (isCls_iff _).2 ⟨t, by rw [e.1, e.2.1]⟩
    rw [h] at this; cases this
theorem rc_append {t r : List UInt8} {p : UInt8 → Bool} (q : List UInt8) (hc : isCls t = true) (h : rc t = some (p, r)) : rc (t ++ q) = some (p, r ++ q) := by
  obtain ⟨u, rfl⟩ := (isCls_iff t).1 hc
  rw [rc_name] at h
  split at h
  · next h2 =>
    obtain ⟨r', hr'⟩ := List.isPrefixOf_iff_prefix.1 h2
    have hu : u = u.takeWhile let' ++ 58 :: 93 :: r' := by
      conv => lhs; rw [← List.takeWhile_append_dropWhile (p := let') (l := u), ← hr']
      rfl
    have hn : (u.takeWhile let').all let' = true := List.all_takeWhile
    rw [← hr'] at h
    show rc (91 :: 58 :: (u ++ q)) = _
    have hu2 : u ++ q = u.takeWhile let' ++ 58 :: 93 :: (r' ++ q) := by
      have := congrArg (· ++ q) hu
      simpa using this
    rw [rc_yes hn hu2]
    cases hl : lk (u.takeWhile let') rows with
    | none => rw [hl] at h; cases h
    | some g =>
      rw [hl] at h
      simp at h
      rw [h.1, ← h.2]; rfl
  · cases h
theorem item_none_nil (s : UInt8 → Bool) : item s [] = none := rfl
theorem loop_nil (s : UInt8 → Bool) (first : Bool) : loop first s [] = none := by
  rw [loop_eq]
  simp [item_none_nil]
theorem rng_append {r t1 : List UInt8} {hi : UInt8} (q : List UInt8) (h : rng r = true) (hb : rb (r.drop 1) = some (hi, t1)) (ht : t1 ≠ []) : rng (r ++ q) = true := by
  cases r with
  | nil => cases h
  | cons c r =>
    rw [List.drop_succ_cons, List.drop_zero] at hb
    rw [List.cons_append]
    simp only [rng] at h ⊢
    rw [Bool.and_eq_true, Bool.and_eq_true] at h
    obtain ⟨⟨h1, h2⟩, h3⟩ := h
    match r, hb with
    | [a], hb => exact absurd (rb_one a hi t1 hb) ht
    | a :: b :: r, hb =>
      rw [h1]
      have e1 : ((a :: b :: r) ++ q).head? = (a :: b :: r).head? := rfl
      have e2 : isCls ((a :: b :: r) ++ q) = false := isCls_append_no q (by simpa using h3) (by simp)
      rw [e1, h2, e2]; rfl
theorem rng_append_no {r : List UInt8} (q : List UInt8) (h : rng r = false) (hr : r ≠ []) : rng (r ++ q) = false := by
  cases r with
  | nil => exact absurd rfl hr
  | cons c r =>
    rw [List.cons_append]
    simp only [rng] at h ⊢
    by_cases hc : c = 45
    · subst hc
      rw [decide_eq_true rfl, Bool.true_and] at h ⊢
      by_cases h1 : r.head? = some 93
      · have : (r ++ q).head? = some 93 := by
          cases r with
          | nil => cases h1
          | cons a r => exact h1
        rw [this]; rfl
      · rw [decide_eq_false h1] at h
        have h2 : isCls r = true := by simpa using h
        rw [isCls_append q h2]; simp
    · rw [decide_eq_false hc]; rfl
theorem item_append {s s1 : UInt8 → Bool} {t t1 : List UInt8} (q : List UInt8) (h : item s t = some (s1, t1)) (ht : t1 ≠ []) : item s (t ++ q) = some (s1, t1 ++ q) := by
  unfold item at h ⊢
  by_cases hc : isCls t = true
  · rw [if_pos hc] at h
    rw [if_pos (isCls_append q hc)]
    cases hr : rc t with
    | none => rw [hr] at h; cases h
    | some x =>
      obtain ⟨p, r⟩ := x
      rw [hr] at h
      simp at h
      rw [rc_append q hc hr]
      simp [h.1, h.2]
  · rw [if_neg hc] at h
    cases hb : rb t with
    | none => rw [hb] at h; cases h
    | some x =>
      obtain ⟨lo, r⟩ := x
      rw [hb] at h
      simp only at h
      have hc2 : isCls (t ++ q) = false := by
        match t, hb with
        | [a], hb =>
          have := rb_one a lo r hb
          subst this
          simp [rng] at h
          exact absurd h.2 ht
        | a :: b :: t, hb => exact isCls_append_no q (by simpa using hc) (by simp)
      rw [if_neg (by rw [hc2]; simp), rb_append q hb]
      simp only
      by_cases hg : rng r = true
      · rw [if_pos hg] at h
        cases hb2 : rb (r.drop 1) with
        | none => rw [hb2] at h; cases h
        | some y =>
          obtain ⟨hi, r'⟩ := y
          rw [hb2] at h
          simp only [Option.some.injEq, Prod.mk.injEq] at h
          obtain ⟨h1, h2⟩ := h
          subst h2
          rw [if_pos (rng_append q hg hb2 ht)]
          have e : (r ++ q).drop 1 = r.drop 1 ++ q := by
            cases r with
            | nil => cases hg
            | cons a r => rfl
          rw [e, rb_append q hb2]
          simp [h1]
      · rw [if_neg hg] at h
        simp only [Option.some.injEq, Prod.mk.injEq] at h
        obtain ⟨h1, h2⟩ := h
        subst h2
        rw [if_neg (by rw [rng_append_no q (by simpa using hg) ht]; simp), h1]
theorem loop_append (q : List UInt8) : ∀ (n : Nat) (first : Bool) (s s' : UInt8 → Bool) (t r : List UInt8), t.length ≤ n → loop first s t = some (s', r) → loop first s (t ++ q) = some (s', r ++ q)
  | n, first, s, s', [], r, _, h => by rw [loop_nil] at h; cases h
  | 0, first, s, s', c :: t, r, hn, h => by simp at hn
  | n + 1, first, s, s', c :: t, r, hn, h => by
    rw [loop_eq] at h ⊢
    by_cases h1 : first = false ∧ (c :: t).head? = some 93
    · rw [if_pos h1] at h
      rw [if_pos (show first = false ∧ ((c :: t) ++ q).head? = some 93 from h1)]
      simp only [Option.some.injEq, Prod.mk.injEq] at h
      obtain ⟨h2, h3⟩ := h
      subst h2 h3
      rfl
    · rw [if_neg h1] at h
      rw [if_neg (show ¬ (first = false ∧ ((c :: t) ++ q).head? = some 93) from h1)]
      cases hi : item s (c :: t) with
      | none => rw [hi] at h; cases h
      | some x =>
        obtain ⟨s1, t1⟩ := x
        rw [hi] at h
        simp only at h
        have ht : t1 ≠ [] := fun e => by subst e; rw [loop_nil] at h; cases h
        rw [item_append q hi ht]
        have := item_len hi
        exact loop_append q n false s1 s' t1 r (by omega) h
theorem rset_append {t r : List UInt8} {g : UInt8 → Bool} (q : List UInt8) (h : rset t = some (g, r)) : rset (t ++ q) = some (g, r ++ q) := by
  unfold rset at h ⊢
  have hne : t ≠ [] := by
    intro e; subst e
    rw [show loop true no (if isNot [] then [].drop 1 else []) = none from by rw [if_neg (by decide)]; exact loop_nil _ _] at h
    cases h
  have e1 : isNot (t ++ q) = isNot t := by
    cases t with
    | nil => exact absurd rfl hne
    | cons a t => rfl
  have e2 : (if isNot (t ++ q) then (t ++ q).drop 1 else t ++ q) = (if isNot t then t.drop 1 else t) ++ q := by
    rw [e1]
    cases t with
    | nil => exact absurd rfl hne
    | cons a t => split <;> rfl
  rw [e2, e1]
  cases hl : loop true no (if isNot t then t.drop 1 else t) with
  | none => rw [hl] at h; cases h
  | some x =>
    obtain ⟨s, r'⟩ := x
    rw [hl] at h
    simp at h
    rw [loop_append q _ true no s _ r' (Nat.le_refl _) hl]
    simp [h.1, h.2]
theorem rp_append {t r : List UInt8} {p : Pt} (q : List UInt8) (h : rp t = some (p, r)) : rp (t ++ q) = some (p, r ++ q) := by
  cases t with
  | nil => cases h
  | cons c t =>
    rw [List.cons_append]
    simp only [rp] at h ⊢
    split at h
    · next hc =>
      rw [if_pos hc]
      injection h with h; injection h with h1 h2; subst h1 h2; rfl
    · next hc =>
      rw [if_neg hc]
      split at h
      · next hc =>
        rw [if_pos hc]
        injection h with h; injection h with h1 h2; subst h1 h2; rfl
      · next hc =>
        rw [if_neg hc]
        split at h
        · next hc =>
          rw [if_pos hc]
          cases hr : rset t with
          | none => rw [hr] at h; cases h
          | some x =>
            obtain ⟨g, r'⟩ := x
            rw [hr] at h
            rw [rset_append q hr]
            simp at h
            simp [h.1, h.2]
        · next hc =>
          rw [if_neg hc]
          cases hr : rb (c :: t) with
          | none => rw [hr] at h; cases h
          | some x =>
            obtain ⟨g, r'⟩ := x
            rw [hr] at h
            rw [← List.cons_append, rb_append q hr]
            simp at h
            simp [h.1, h.2]
theorem comp_append (q : List UInt8) : ∀ (n : Nat) (t : List UInt8) (P : List Pt), t.length ≤ n → comp t = some P → comp (t ++ q) = (comp q).map (P ++ ·)
  | n, [], P, _, h => by
    rw [comp_nil] at h
    injection h with h; subst h
    show comp q = _
    cases comp q <;> rfl
  | 0, c :: t, P, hn, h => by simp at hn
  | n + 1, c :: t, P, hn, h => by
    rw [comp_eq _ (by simp)] at h
    cases hp : rp (c :: t) with
    | none => rw [hp] at h; cases h
    | some x =>
      obtain ⟨p, r⟩ := x
      rw [hp] at h
      simp only at h
      cases hr : comp r with
      | none => rw [hr] at h; cases h
      | some Q =>
        rw [hr] at h
        injection h with h; subst h
        have := rp_len hp
        rw [comp_some (by simp) (rp_append q hp), comp_append q n r Q (by omega) hr, Option.map_map]
        congr 1
theorem comp_joined {p q : List UInt8} {P Q : List Pt} (hp : comp p = some P) (hq : comp q = some Q) : comp (p ++ q) = some (P ++ Q) := by
  rw [comp_append q _ p P (Nat.le_refl _) hp, hq]; rfl
theorem joined_means {P Q : List Pt} {x y : List UInt8} (h1 : mt P x = true) (h2 : mt Q y = true) : mt (P ++ Q) (x ++ y) = true :=
  (mt_append P Q _).2 ⟨x.length, by simp, by rw [List.take_left]; exact h1, by rw [List.drop_left]; exact h2⟩
def star : Pt := ⟨true, no⟩
theorem comp_star : comp [42] = some [star] := rfl
theorem comp_wide {p : List UInt8} {P : List Pt} (hp : comp p = some P) : comp ([42] ++ p ++ [42]) = some ([star] ++ P ++ [star]) :=
  comp_joined (comp_joined comp_star hp) comp_star
theorem star_any (n : List UInt8) : mt [star] n = true := (mt_star_iff [] n rfl).2 ⟨n.length, by omega, by rw [List.drop_length]; rfl⟩
theorem wide_means {P : List Pt} {x : List UInt8} (y z : List UInt8) (h : mt P x = true) : mt ([star] ++ P ++ [star]) (y ++ x ++ z) = true :=
  joined_means (joined_means (star_any y) h) (star_any z)

/-! ### a name's own pattern -/
def sp (c : UInt8) : Bool := decide (c = 42) || decide (c = 63) || decide (c = 91) || decide (c = 92)
def esc1 (c : UInt8) : List UInt8 := if sp c then [92, c] else [c]
def esc (l : List UInt8) : List UInt8 := (l.map esc1).flatten
def lit (c : UInt8) : Pt := ⟨false, addR no c c⟩
theorem rp_esc1 (c : UInt8) : rp (esc1 c) = some (lit c, []) := by
  unfold esc1
  cases h : sp c with
  | true =>
    rw [if_pos rfl]
    simp [rp, rb, lit]
  | false =>
    rw [if_neg (by simp)]
    unfold sp at h
    simp at h
    simp [rp, rb, lit, h]
theorem comp_esc1 (c : UInt8) : comp (esc1 c) = some [lit c] := by
  have hne : esc1 c ≠ [] := by unfold esc1; split <;> simp
  rw [comp_some hne (rp_esc1 c)]; rfl
theorem comp_esc : ∀ l : List UInt8, comp (esc l) = some (l.map lit)
  | [] => rfl
  | c :: l => by
    show comp (esc1 c ++ esc l) = _
    rw [comp_joined (comp_esc1 c) (comp_esc l)]; rfl
theorem lit_set (c x : UInt8) : (lit c).set x = decide (x = c) := by
  show (false || (decide (c.toNat ≤ x.toNat) && decide (x.toNat ≤ c.toNat))) = _
  rw [Bool.false_or, Bool.eq_iff_iff, Bool.and_eq_true, decide_eq_true_eq, decide_eq_true_eq, decide_eq_true_eq, ← UInt8.toNat_inj]
  omega
theorem mt_lits : ∀ (l n : List UInt8), mt (l.map lit) n = decide (l = n)
  | [], [] => rfl
  | [], c :: n => by rw [Bool.eq_iff_iff]; simp [mt_nil]
  | x :: l, [] => by rw [List.map_cons, mt_one_nil _ rfl]; simp
  | x :: l, c :: n => by
    rw [List.map_cons, mt_one_cons _ _ _ rfl, lit_set, mt_lits l n, Bool.eq_iff_iff]
    simp only [Bool.and_eq_true, decide_eq_true_eq, List.cons.injEq]
    constructor
    · rintro ⟨h1, h2⟩; exact ⟨h1.symm, h2⟩
    · rintro ⟨h1, h2⟩; exact ⟨h1.symm, h2⟩

/-! ### a set and its counterpart -/
theorem rset_turn {t r : List UInt8} {g : UInt8 → Bool} (c : UInt8) (hc : c = 33 ∨ c = 94) (hn : isNot t = false) (h : rset t = some (g, r)) : rset (c :: t) = some (turn true g, r) := by
  unfold rset at h ⊢
  have h1 : isNot (c :: t) = true := by rcases hc with rfl | rfl <;> simp [isNot]
  rw [hn, if_neg (by simp)] at h
  rw [h1, if_pos rfl, List.drop_succ_cons, List.drop_zero]
  cases hl : loop true no t with
  | none => rw [hl] at h; cases h
  | some x =>
    rw [hl] at h
    injection h with h; injection h with h2 h3
    rw [← h2, ← h3]
    have e : turn true x.1 = turn true (turn false x.1) := by
      funext b
      simp [turn]
    rw [← e]; rfl
theorem either {t : List UInt8} {l : List Pt} (c : UInt8) (hc : c = 33 ∨ c = 94) (hn : isNot t = false) (h : comp (91 :: t) = some l) (h1 : l.length = 1) :
    ∃ g, l = [⟨false, g⟩] ∧ comp (91 :: c :: t) = some [⟨false, turn true g⟩] := by
  rw [comp_eq _ (by simp)] at h
  have e : rp (91 :: t) = (rset t).map fun x => (⟨false, x.1⟩, x.2) := by simp [rp]
  rw [e] at h
  cases hr : rset t with
  | none => rw [hr] at h; cases h
  | some x =>
    obtain ⟨g, r⟩ := x
    rw [hr] at h
    simp only [Option.map_some] at h
    cases hq : comp r with
    | none => rw [hq] at h; cases h
    | some Q =>
      rw [hq] at h
      injection h with h
      subst h
      simp at h1
      subst h1
      refine ⟨g, rfl, ?_⟩
      have e2 : rp (91 :: c :: t) = some (⟨false, turn true g⟩, r) := by
        simp [rp, rset_turn c hc hn hr]
      rw [comp_some (by simp) e2, hq]; rfl
theorem mt_single {p : Pt} (hp : p.star = false) (c : UInt8) : mt [p] [c] = p.set c := by
  rw [mt_one_cons _ _ _ hp]; simp [mt_nil]
theorem mt_single_len {p : Pt} (hp : p.star = false) (n : List UInt8) (h : n.length ≠ 1) : mt [p] n = false := by
  rw [Bool.eq_false_iff]
  intro hm
  obtain ⟨c, n', rfl, a, b⟩ := (mt_one_iff _ _ hp).1 hm
  rw [mt_nil, List.isEmpty_iff] at b
  subst b
  exact h rfl

/-! ### many stars -/
def sa : Nat → List UInt8
  | 0 => []
  | k + 1 => sa k ++ [42, 97]
def sap : Nat → List Pt
  | 0 => []
  | k + 1 => sap k ++ [star, lit 97]
theorem sa_len : ∀ k, (sa k).length = 2 * k
  | 0 => rfl
  | k + 1 => by rw [sa, List.length_append, sa_len k]; simp; omega
theorem comp_pair (c : UInt8) (h : sp c = false) : comp [42, c] = some [star, lit c] := by
  have : comp ([42] ++ esc1 c) = some ([star] ++ [lit c]) := comp_joined comp_star (comp_esc1 c)
  unfold esc1 at this
  rw [h, if_neg (by simp)] at this
  exact this
theorem comp_sa : ∀ k, comp (sa k) = some (sap k)
  | 0 => rfl
  | k + 1 => comp_joined (comp_sa k) (comp_pair 97 (by decide))
theorem rep_take (n k : Nat) : (List.replicate n (97 : UInt8)).take k = List.replicate (min k n) 97 := List.take_replicate
theorem mt_sap : ∀ (k n : Nat), mt (sap k) (List.replicate n 97) = (decide (k ≤ n) && (decide (n = 0) || decide (0 < k)))
  | 0, n => by
    cases n with
    | zero => rfl
    | succ n => simp [sap, mt_nil, List.replicate_succ]
  | k + 1, n => by
    rw [Bool.eq_iff_iff]
    show mt (sap k ++ [star, lit 97]) _ = true ↔ _
    rw [show sap k ++ [star, lit 97] = (sap k ++ [star]) ++ [lit 97] by simp, mt_snoc_one _ _ rfl]
    simp only [Bool.and_eq_true, Bool.or_eq_true, decide_eq_true_eq]
    constructor
    · rintro ⟨c, m, e, _, h⟩
      have hm : m = List.replicate (n - 1) 97 ∧ 1 ≤ n := by
        have hl := congrArg List.length e
        simp at hl
        refine ⟨?_, by omega⟩
        have : m = (List.replicate n (97 : UInt8)).take m.length := by rw [e, List.take_left]
        rw [this, rep_take]
        congr 1
        omega
      rw [mt_snoc_star _ _ rfl] at h
      obtain ⟨j, hj, h⟩ := h
      rw [hm.1, rep_take, mt_sap k] at h
      simp at h
      omega
    · rintro ⟨h1, _⟩
      refine ⟨97, List.replicate (n - 1) 97, ?_, by rw [lit_set]; rfl, ?_⟩
      · rw [← List.replicate_succ']
        congr 1
        omega
      · rw [mt_snoc_star _ _ rfl]
        refine ⟨k, by simp; omega, ?_⟩
        rw [rep_take, mt_sap k]
        simp
        omega
theorem mt_last (P : List Pt) (n : Nat) : mt (P ++ [star, lit 98]) (List.replicate n 97) = false := by
  rw [Bool.eq_false_iff]
  intro h
  rw [show P ++ [star, lit 98] = (P ++ [star]) ++ [lit 98] by simp, mt_snoc_one _ _ rfl] at h
  obtain ⟨c, m, e, h, _⟩ := h
  rw [lit_set, decide_eq_true_eq] at h
  subst h
  have : (98 : UInt8) ∈ List.replicate n (97 : UInt8) := by rw [e]; simp
  have := List.eq_of_mem_replicate this
  cases this

/-! ### the items of a set as the document reads them -/
def rngR (r : List UInt8) : Bool := decide (2 ≤ r.length) && rng r
def itemR (s : UInt8 → Bool) (t : List UInt8) : Option ((UInt8 → Bool) × List UInt8) :=
  if isCls t then (rc t).map fun x => (or2 s x.1, x.2)
  else match rb t with
    | none => none
    | some (lo, r) => if rngR r then (match rb (r.drop 1) with | none => none | some (hi, r') => some (addR s lo hi, r')) else some (addR s lo lo, r)
theorem itemR_item (s : UInt8 → Bool) (t : List UInt8) : itemR s t = item s t ∨ (item s t = none ∧ ∃ s', itemR s t = some (s', [45])) := by
  unfold itemR item
  split
  · exact .inl rfl
  · cases hb : rb t with
    | none => exact .inl rfl
    | some x =>
      obtain ⟨lo, r⟩ := x
      simp only
      unfold rngR
      by_cases hl : 2 ≤ r.length
      · rw [decide_eq_true hl]; exact .inl rfl
      · rw [decide_eq_false hl]
        match r, hl with
        | [], _ => exact .inl rfl
        | [c], _ =>
          by_cases hg : rng [c] = true
          · have hc : c = 45 := by
              simp only [rng] at hg
              rw [Bool.and_eq_true, Bool.and_eq_true] at hg
              exact of_decide_eq_true hg.1.1
            subst hc
            exact .inr ⟨by rw [if_pos hg]; rfl, _, rfl⟩
          · rw [if_neg hg]; exact .inl rfl
        | a :: b :: r, h => exact absurd (by simp) h
theorem loop_mark (s : UInt8 → Bool) : loop false s [45] = none := by
  rw [loop_eq, if_neg (by simp)]
  show loop false _ [] = none
  exact loop_nil _ _
/-- an item as the document reads it leads to the same -/
theorem loop_R {first : Bool} {s : UInt8 → Bool} {t : List UInt8} (h : ¬ (first = false ∧ t.head? = some 93)) :
    loop first s t = match itemR s t with | none => none | some (s', t') => loop false s' t' := by
  rw [loop_eq, if_neg h]
  rcases itemR_item s t with e | ⟨e1, s', e2⟩
  · rw [e]
    cases item s t <;> rfl
  · rw [e1, e2]
    simp only
    rw [loop_mark]
end Go.Proofs.YtfjhjhjdneihbaaGreatDoor.Pg
