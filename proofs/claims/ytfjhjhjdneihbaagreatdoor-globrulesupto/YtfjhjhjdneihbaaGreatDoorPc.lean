/-
  Patterns of names over lists of bytes: how a pattern is read, and what is true of it: one that is read is read so whatever stands behind it; a name's own pattern; a set and its counterpart.
-/
import Derived.Test.YtfjhjhjdneihbaaGreatDoorPg
namespace Go.Proofs.YtfjhjhjdneihbaaGreatDoor.Pg

/-- the byte at the beginning, with or without a backslash ahead of it -/
def rb : List UInt8 → Option (UInt8 × List UInt8)
  | [] => none
  | c :: r => if c = 92 then (match r with | [] => none | d :: r' => some (d, r')) else some (c, r)
def isCls (t : List UInt8) : Bool := [91, 58].isPrefixOf t
/-- the bytes from lo to hi -/
def bt (lo hi : Nat) (c : UInt8) : Bool := decide (lo ≤ c.toNat) && decide (c.toNat ≤ hi)
def cUpper := bt 65 90
def cLower := bt 97 122
def cDigit := bt 48 57
def cAlpha (c : UInt8) : Bool := cUpper c || cLower c
def cAlnum (c : UInt8) : Bool := cAlpha c || cDigit c
def cXdigit (c : UInt8) : Bool := cDigit c || bt 97 102 c || bt 65 70 c
def cSpace (c : UInt8) : Bool := bt 9 13 c || bt 32 32 c
def cBlank (c : UInt8) : Bool := decide (c.toNat = 9) || decide (c.toNat = 32)
def cGraph := bt 33 126
def cPunct (c : UInt8) : Bool := cGraph c && !cAlnum c
def cPrint := bt 32 126
def cCntrl (c : UInt8) : Bool := decide (c.toNat < 32) || decide (c.toNat = 127)
/-- the classes: the name's letters, and which bytes each has -/
def rows : List (List UInt8 × (UInt8 → Bool)) :=
  [([97, 108, 112, 104, 97], cAlpha), ([100, 105, 103, 105, 116], cDigit), ([97, 108, 110, 117, 109], cAlnum), ([117, 112, 112, 101, 114], cUpper), ([108, 111, 119, 101, 114], cLower),
   ([120, 100, 105, 103, 105, 116], cXdigit), ([115, 112, 97, 99, 101], cSpace), ([98, 108, 97, 110, 107], cBlank), ([112, 117, 110, 99, 116], cPunct), ([112, 114, 105, 110, 116], cPrint),
   ([103, 114, 97, 112, 104], cGraph), ([99, 110, 116, 114, 108], cCntrl)]
/-- a class's name as it stands in a set -/
def full (nm : List UInt8) : List UInt8 := [91, 58] ++ nm ++ [58, 93]
def rcIn (t : List UInt8) : List (List UInt8 × (UInt8 → Bool)) → Option ((UInt8 → Bool) × List UInt8)
  | [] => none
  | x :: l => if (full x.1).isPrefixOf t then some (x.2, t.drop (full x.1).length) else rcIn t l
def rc (t : List UInt8) : Option ((UInt8 → Bool) × List UInt8) := rcIn t rows
/-- does a range's mark stand there? -/
def rng : List UInt8 → Bool
  | [] => false
  | c :: r => decide (c = 45) && !(decide (r.head? = some 93)) && !isCls r
def or2 (s q : UInt8 → Bool) : UInt8 → Bool := fun c => s c || q c
def addR (s : UInt8 → Bool) (lo hi : UInt8) : UInt8 → Bool := or2 s (bt lo.toNat hi.toNat)
def no : UInt8 → Bool := fun _ => false
def item (s : UInt8 → Bool) (t : List UInt8) : Option ((UInt8 → Bool) × List UInt8) :=
  if isCls t then (rc t).map fun x => (or2 s x.1, x.2)
  else match rb t with
    | none => none
    | some (lo, r) => if rng r then (match rb (r.drop 1) with | none => none | some (hi, r') => some (addR s lo hi, r')) else some (addR s lo lo, r)
/-- the items of a set up to its end -/
def lp : Nat → Bool → (UInt8 → Bool) → List UInt8 → Option ((UInt8 → Bool) × List UInt8)
  | 0, _, _, _ => none
  | f + 1, first, s, t => if first = false ∧ t.head? = some 93 then some (s, t.drop 1) else
    match item s t with
    | none => none
    | some (s', t') => lp f false s' t'
def loop (first : Bool) (s : UInt8 → Bool) (t : List UInt8) := lp (t.length + 1) first s t
def isNot (t : List UInt8) : Bool := decide (t.head? = some 33) || decide (t.head? = some 94)
def turn (n : Bool) (s : UInt8 → Bool) : UInt8 → Bool := fun c => s c != n
def rset (t : List UInt8) : Option ((UInt8 → Bool) × List UInt8) :=
  (loop true no (if isNot t then t.drop 1 else t)).map fun x => (turn (isNot t) x.1, x.2)
/-- a part at the beginning -/
def rp : List UInt8 → Option (Pt × List UInt8)
  | [] => none
  | c :: r =>
    if c = 42 then some (⟨true, no⟩, r) else if c = 63 then some (⟨false, turn true no⟩, r)
    else if c = 91 then (rset r).map fun x => (⟨false, x.1⟩, x.2)
    else (rb (c :: r)).map fun x => (⟨false, addR no x.1 x.1⟩, x.2)
def cp : Nat → List UInt8 → Option (List Pt)
  | 0, t => if t = [] then some [] else none
  | f + 1, t => if t = [] then some [] else
    match rp t with
    | none => none
    | some (p, r) => (cp f r).map (p :: ·)
/-- the parts of a pattern; none: it is no pattern -/
def comp (t : List UInt8) : Option (List Pt) := cp t.length t

/-! ### what is read grows less -/
theorem rb_len {t : List UInt8} {c : UInt8} {r : List UInt8} (h : rb t = some (c, r)) : r.length < t.length := by
  cases t with
  | nil => cases h
  | cons a t =>
    simp only [rb] at h
    split at h
    · split at h
      · cases h
      · injection h with h; injection h with h1 h2; subst h2; simp; omega
    · injection h with h; injection h with h1 h2; subst h2; simp
theorem rcIn_len {t : List UInt8} : ∀ {l : List (List UInt8 × (UInt8 → Bool))} {q : UInt8 → Bool} {r : List UInt8}, rcIn t l = some (q, r) → r.length < t.length
  | [], q, r, h => by cases h
  | x :: l, q, r, h => by
    unfold rcIn at h
    split at h
    · next hp =>
      injection h with h; injection h with h1 h2
      subst h2
      have := (List.isPrefixOf_iff_prefix.1 hp).length_le
      have h2 : (full x.1).length = x.1.length + 4 := by simp [full]
      rw [List.length_drop]
      omega
    · exact rcIn_len h
theorem item_len {s s' : UInt8 → Bool} {t t' : List UInt8} (h : item s t = some (s', t')) : t'.length < t.length := by
  unfold item at h
  split at h
  · cases hr : rc t with
    | none => rw [hr] at h; cases h
    | some x =>
      rw [hr] at h
      injection h with h; injection h with h1 h2
      subst h2
      exact rcIn_len hr
  · split at h
    · cases h
    · next lo r hb =>
      have h1 := rb_len hb
      split at h
      · split at h
        · cases h
        · next hi r' hb' =>
          have h2 := rb_len hb'
          rw [List.length_drop] at h2
          injection h with h; injection h with h3 h4
          subst h4
          omega
      · injection h with h; injection h with h3 h4
        subst h4
        exact h1
theorem lp_fuel : ∀ (f g : Nat) (first : Bool) (s : UInt8 → Bool) (t : List UInt8), t.length < f → t.length < g → lp f first s t = lp g first s t
  | 0, g, _, _, _, h, _ => by omega
  | f + 1, 0, _, _, _, _, h => by omega
  | f + 1, g + 1, first, s, t, hf, hg => by
    unfold lp
    split
    · rfl
    · split
      · rfl
      · next s' t' hi =>
        have := item_len hi
        exact lp_fuel f g false s' t' (by omega) (by omega)
theorem loop_eq (first : Bool) (s : UInt8 → Bool) (t : List UInt8) : loop first s t = if first = false ∧ t.head? = some 93 then some (s, t.drop 1) else
    match item s t with
    | none => none
    | some (s', t') => loop false s' t' := by
  conv => lhs; unfold loop lp
  split
  · rfl
  · split
    · rfl
    · next s' t' hi =>
      have := item_len hi
      exact lp_fuel _ _ _ _ _ (by omega) (by omega)
theorem loop_len : ∀ (f : Nat) (first : Bool) (s s' : UInt8 → Bool) (t t' : List UInt8), lp f first s t = some (s', t') → t'.length < t.length
  | 0, _, _, _, _, _, h => by cases h
  | f + 1, first, s, s', t, t', h => by
    unfold lp at h
    split at h
    · next hh =>
      injection h with h; injection h with h1 h2
      subst h2
      cases t with
      | nil => simp at hh
      | cons a t => simp
    · split at h
      · cases h
      · next s1 t1 hi =>
        have h1 := item_len hi
        have h2 := loop_len f _ _ _ _ _ h
        omega
theorem rset_len {t r : List UInt8} {q : UInt8 → Bool} (h : rset t = some (q, r)) : r.length < t.length := by
  unfold rset at h
  cases hl : loop true no (if isNot t then t.drop 1 else t) with
  | none => rw [hl] at h; cases h
  | some x =>
    rw [hl] at h
    injection h with h; injection h with h1 h2
    subst h2
    have := loop_len _ _ _ _ _ _ hl
    split at this
    · rw [List.length_drop] at this; omega
    · exact this
theorem rp_len {t r : List UInt8} {p : Pt} (h : rp t = some (p, r)) : r.length < t.length := by
  cases t with
  | nil => cases h
  | cons c t =>
    simp only [rp] at h
    split at h
    · injection h with h; injection h with h1 h2; subst h2; simp
    · split at h
      · injection h with h; injection h with h1 h2; subst h2; simp
      · split at h
        · cases hr : rset t with
          | none => rw [hr] at h; cases h
          | some x =>
            rw [hr] at h
            injection h with h; injection h with h1 h2; subst h2
            have := rset_len hr
            simp; omega
        · cases hr : rb (c :: t) with
          | none => rw [hr] at h; cases h
          | some x =>
            rw [hr] at h
            injection h with h; injection h with h1 h2; subst h2
            exact rb_len hr
theorem cp_fuel : ∀ (f g : Nat) (t : List UInt8), t.length ≤ f → t.length ≤ g → cp f t = cp g t
  | 0, 0, _, _, _ => rfl
  | 0, g + 1, t, h, _ => by
    obtain rfl : t = [] := List.length_eq_zero_iff.1 (by omega)
    rfl
  | f + 1, 0, t, _, h => by
    obtain rfl : t = [] := List.length_eq_zero_iff.1 (by omega)
    rfl
  | f + 1, g + 1, t, hf, hg => by
    unfold cp
    split
    · rfl
    · split
      · rfl
      · next p r hp =>
        have := rp_len hp
        rw [cp_fuel f g r (by omega) (by omega)]
theorem comp_nil : comp [] = some [] := rfl
theorem comp_eq (t : List UInt8) (h : t ≠ []) : comp t = match rp t with | none => none | some (p, r) => (comp r).map (p :: ·) := by
  cases t with
  | nil => exact absurd rfl h
  | cons c t =>
    show cp (t.length + 1) (c :: t) = _
    unfold cp
    rw [if_neg h]
    split
    · rfl
    · next p r hp =>
      have := rp_len hp
      simp at this
      show (cp t.length r).map _ = (cp r.length r).map _
      rw [cp_fuel t.length r.length r (by omega) (by omega)]
theorem comp_none {t : List UInt8} (h : t ≠ []) (hp : rp t = none) : comp t = none := by rw [comp_eq t h, hp]
theorem comp_some {t r : List UInt8} {p : Pt} (h : t ≠ []) (hp : rp t = some (p, r)) : comp t = (comp r).map (p :: ·) := by rw [comp_eq t h, hp]
/-- the walk: parts that were read, and what is left -/
theorem comp_step {t r : List UInt8} {p : Pt} {out : List Pt} (h : t ≠ []) (hp : rp t = some (p, r)) : (comp t).map (out ++ ·) = (comp r).map ((out ++ [p]) ++ ·) := by
  rw [comp_some h hp, Option.map_map]
  congr 1
  funext l
  simp
end Go.Proofs.YtfjhjhjdneihbaaGreatDoor.Pg
