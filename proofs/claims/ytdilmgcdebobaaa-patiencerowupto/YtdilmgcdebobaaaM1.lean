/-
  Plain laws on the search for a shortest way: how far the ways come on a diagonal.
-/
import Derived.Test.YtdilmgcdebobaaaM0
namespace Go.Proofs.Ytdilmgcdebobaaa.My

def elI (a b : List Int) (x y : Int) : Int := (el a b x.toNat y.toNat : Int)
def mAt (a b : List Int) (x y : Int) : Bool := decide (0 ≤ x) && (decide (0 ≤ y) && eqAt a b x.toNat y.toNat)
section
variable {a b : List Int}
theorem elI_right {x : Int} (y : Int) (h : 0 ≤ x) : elI a b x y ≤ elI a b (x + 1) y ∧ elI a b (x + 1) y ≤ elI a b x y + 1 := by
  unfold elI
  rw [show (x + 1).toNat = x.toNat + 1 by omega]
  have := el_right a b x.toNat y.toNat
  have := el_right1 a b x.toNat y.toNat
  omega
theorem elI_down (x : Int) {y : Int} (h : 0 ≤ y) : elI a b x y ≤ elI a b x (y + 1) ∧ elI a b x (y + 1) ≤ elI a b x y + 1 := by
  unfold elI
  rw [show (y + 1).toNat = y.toNat + 1 by omega]
  have := el_down a b x.toNat y.toNat
  have := el_down1 a b x.toNat y.toNat
  omega
theorem elI_both {x y : Int} (hx : 0 ≤ x) (hy : 0 ≤ y) : elI a b (x + 1) (y + 1) ≤ elI a b x y + 1 := by
  unfold elI
  rw [show (x + 1).toNat = x.toNat + 1 by omega, show (y + 1).toNat = y.toNat + 1 by omega]
  have := el_both a b x.toNat y.toNat
  omega
theorem mAt_iff {x y : Int} : mAt a b x y = true ↔ 0 ≤ x ∧ 0 ≤ y ∧ eqAt a b x.toNat y.toNat = true := by unfold mAt; simp
theorem eqAt_lt {i k : Nat} (h : eqAt a b i k = true) : i < a.length ∧ k < b.length := by
  unfold eqAt at h
  cases hx : a[i]? with
  | none => rw [hx] at h; simp at h
  | some u =>
    cases hy : b[k]? with
    | none => rw [hx, hy] at h; simp at h
    | some v => exact ⟨(List.getElem?_eq_some_iff.1 hx).1, (List.getElem?_eq_some_iff.1 hy).1⟩
theorem mAt_lt {x y : Int} (h : mAt a b x y = true) : x < a.length ∧ y < b.length := by
  obtain ⟨h1, h2, h3⟩ := mAt_iff.1 h
  have := eqAt_lt h3
  omega
theorem elI_match {x y : Int} (h : mAt a b x y = true) : elI a b (x + 1) (y + 1) = elI a b x y + 1 := by
  obtain ⟨h1, h2, h3⟩ := mAt_iff.1 h
  unfold elI
  rw [show (x + 1).toNat = x.toNat + 1 by omega, show (y + 1).toNat = y.toNat + 1 by omega, el_match h3]
  omega
theorem elI_miss {x y : Int} (hx : 0 ≤ x) (hy : 0 ≤ y) (h : mAt a b x y = false) : elI a b (x + 1) (y + 1) = elI a b x (y + 1) ∨ elI a b (x + 1) (y + 1) = elI a b (x + 1) y := by
  have h3 : eqAt a b x.toNat y.toNat = false := by
    unfold mAt at h
    rw [decide_eq_true hx, decide_eq_true hy] at h
    simpa using h
  unfold elI
  rw [show (x + 1).toNat = x.toNat + 1 by omega, show (y + 1).toNat = y.toNat + 1 by omega, el_miss h3]
  omega
theorem elI_zero (y : Int) : elI a b 0 y = 0 := by unfold elI; rfl
theorem elI_none (x : Int) : elI a b x 0 = 0 := by unfold elI; rw [show (0 : Int).toNat = 0 from rfl, el_none]; rfl
theorem elI_le {x y : Int} (hx : 0 ≤ x) (hy : 0 ≤ y) : 0 ≤ elI a b x y ∧ elI a b x y ≤ x ∧ elI a b x y ≤ y := by
  unfold elI
  have := el_le a b x.toNat y.toNat
  omega
theorem elI_monoY (x : Int) {y y' : Int} (h : y ≤ y') : elI a b x y ≤ elI a b x y' := by
  unfold elI
  have := el_mono_y a b x.toNat (show y.toNat ≤ y'.toNat by omega)
  omega
theorem elI_monoX {x x' : Int} (y : Int) (h : x ≤ x') : elI a b x y ≤ elI a b x' y := by
  unfold elI
  have := el_mono_x a b y.toNat (show x.toNat ≤ x'.toNat by omega)
  omega
end

/-! ### how far -/
def Top (S : Int → Prop) (v : Int) : Prop := (v = -1 ∧ ∀ y, ¬ S y) ∨ (S v ∧ ∀ y, S y → y ≤ v)
/-- x on the diagonal k -/
def xOf (a : List Int) (k y : Int) : Int := y - k + a.length + 1
def slide (a b : List Int) (k : Int) : Nat → Int → Int
  | 0, y => y
  | f + 1, y => if mAt a b (xOf a k y) y then slide a b k f (y + 1) else y
section
variable {a b : List Int}
theorem slide_ge (k : Int) : ∀ (f : Nat) (y : Int), y ≤ slide a b k f y
  | 0, y => Int.le_refl _
  | f + 1, y => by
    rw [slide]
    split
    · have := slide_ge k f (y + 1); omega
    · exact Int.le_refl _
theorem slide_all (k : Int) : ∀ (f : Nat) (y j : Int), y ≤ j → j < slide a b k f y → mAt a b (xOf a k j) j = true
  | 0, y, j, h1, h2 => by rw [slide] at h2; omega
  | f + 1, y, j, h1, h2 => by
    rw [slide] at h2
    split at h2
    · next h =>
      by_cases e : j = y
      · rw [e]; exact h
      · exact slide_all k f (y + 1) j (by omega) h2
    · omega
theorem slide_stop (k : Int) : ∀ (f : Nat) (y : Int), (b.length : Int) - y < f → mAt a b (xOf a k (slide a b k f y)) (slide a b k f y) = false
  | 0, y, h => by
    rw [slide]
    cases hm : mAt a b (xOf a k y) y with
    | false => rfl
    | true => have := (mAt_lt hm).2; omega
  | f + 1, y, h => by
    rw [slide]
    split
    · exact slide_stop k f (y + 1) (by omega)
    · next h => simpa using h

theorem down_chain {C : Int → Prop} {k : Int} (dn : ∀ y, C (y + 1) → 0 ≤ y → 0 ≤ xOf a k y → C y) : ∀ (n : Nat) (y : Int), C (y + n) → 0 ≤ y → 0 ≤ xOf a k y → C y
  | 0, y, h, _, _ => by simpa using h
  | n + 1, y, h, h1, h2 => by
    refine dn y (down_chain dn n (y + 1) ?_ (by omega) (by unfold xOf at *; omega)) h1 h2
    rw [show y + 1 + (n : Int) = y + ((n + 1 : Nat) : Int) by omega]
    exact h
/-- one step: the furthest of three diagonals -/
theorem step_top {A B C : Int → Prop} {k u v : Int} (f : Nat) (hu : Top A u) (hv : Top B v) (ap : ∀ y, A y → 0 ≤ y) (bp : ∀ y, B y → 0 ≤ y)
    (s1 : ∀ y, A y → C (y + 1)) (s2 : ∀ y, B y → C y)
    (hpos : ∀ y, C y → 0 ≤ y ∧ 0 ≤ xOf a k y ∧ y ≤ b.length)
    (s3 : ∀ y, C y → mAt a b (xOf a k y) y = true → C (y + 1))
    (cc : ∀ y, C (y + 1) → 0 ≤ y → 0 ≤ xOf a k y → mAt a b (xOf a k y) y = false → A y ∨ B (y + 1))
    (dn : ∀ y, C (y + 1) → 0 ≤ y → 0 ≤ xOf a k y → C y)
    (bd : ∀ y, C y → (y = 0 ∨ xOf a k y = 0) → (y = 0 ∧ xOf a k y = 0) ∨ A (y - 1) ∨ B y)
    (hne : ∃ y, C y) (hf : b.length < f) :
    C (if v < u + 1 then u + 1 else v) ∧ C (slide a b k f (if v < u + 1 then u + 1 else v)) ∧ (∀ y, C y → y ≤ slide a b k f (if v < u + 1 then u + 1 else v)) ∧ (u < 0 → v < 0 → xOf a k 0 = 0) := by
  have hz : u < 0 → v < 0 → C 0 ∧ xOf a k 0 = 0 := fun hu0 hv0 => by
    have hu2 : ∀ y, ¬ A y := by
      rcases hu with ⟨_, h⟩ | ⟨h, _⟩
      · exact h
      · have := ap u h; omega
    have hv2 : ∀ y, ¬ B y := by
      rcases hv with ⟨_, h⟩ | ⟨h, _⟩
      · exact h
      · have := bp v h; omega
    obtain ⟨y, hy⟩ := hne
    obtain ⟨p1, p2, p3⟩ := hpos y hy
    have hedge : ∃ z, C z ∧ (z = 0 ∨ xOf a k z = 0) := by
      by_cases hx : y ≤ xOf a k y
      · exact ⟨0, down_chain dn y.toNat 0 (by rw [show (0 : Int) + (y.toNat : Int) = y by omega]; exact hy) (Int.le_refl _) (by unfold xOf at *; omega), .inl rfl⟩
      · have e : xOf a k (y - xOf a k y) = 0 := by unfold xOf; omega
        exact ⟨y - xOf a k y, down_chain dn (xOf a k y).toNat _ (by rw [show y - xOf a k y + ((xOf a k y).toNat : Int) = y by omega]; exact hy) (by omega) (by omega), .inr e⟩
    obtain ⟨z, hz, he⟩ := hedge
    rcases bd z hz he with ⟨rfl, h⟩ | h | h
    · exact ⟨hz, h⟩
    · exact absurd h (hu2 _)
    · exact absurd h (hv2 _)
  have h0 : C (if v < u + 1 then u + 1 else v) := by
    rcases hu with ⟨hu1, hu2⟩ | ⟨hu1, hu2⟩
    · rcases hv with ⟨hv1, hv2⟩ | ⟨hv1, hv2⟩
      · subst hu1 hv1
        rw [if_pos (by omega)]
        exact (hz (by omega) (by omega)).1
      · subst hu1
        have := bp v hv1
        rw [if_neg (by omega)]
        exact s2 v hv1
    · rcases hv with ⟨hv1, hv2⟩ | ⟨hv1, hv2⟩
      · subst hv1
        have := ap u hu1
        rw [if_pos (by omega)]
        exact s1 u hu1
      · split
        · exact s1 u hu1
        · exact s2 v hv1
  generalize hy0 : (if v < u + 1 then u + 1 else v) = y0 at *
  have hge := slide_ge (a := a) (b := b) k f y0
  have h1 : C (slide a b k f y0) := by
    have key : ∀ (n : Nat), y0 + n ≤ slide a b k f y0 → C (y0 + n) := by
      intro n
      induction n with
      | zero => intro _; simpa using h0
      | succ n ih =>
        intro h
        have hc := ih (by omega)
        have := s3 _ hc (slide_all k f y0 (y0 + n) (by omega) (by omega))
        rw [show y0 + ((n + 1 : Nat) : Int) = y0 + (n : Int) + 1 by omega]
        exact this
    have := key (slide a b k f y0 - y0).toNat (by omega)
    rwa [show y0 + (((slide a b k f y0 - y0).toNat : Nat) : Int) = slide a b k f y0 by omega] at this
  refine ⟨h0, h1, fun y hy => ?_, fun q1 q2 => (hz q1 q2).2⟩
  rcases Int.lt_or_le (slide a b k f y0) y with hlt | hle
  · obtain ⟨q1, q2, q3⟩ := hpos _ h1
    obtain ⟨p1, _, _⟩ := hpos _ h0
    have hn : C (slide a b k f y0 + 1) := down_chain dn (y - (slide a b k f y0 + 1)).toNat _ (by rw [show slide a b k f y0 + 1 + (((y - (slide a b k f y0 + 1)).toNat : Nat) : Int) = y by omega]; exact hy) (by omega) (by unfold xOf at *; omega)
    have hst := slide_stop (a := a) (b := b) k f y0 (by omega)
    rcases cc _ hn q1 q2 hst with h | h
    · rcases hu with ⟨_, hu2⟩ | ⟨_, hu2⟩
      · exact absurd h (hu2 _)
      · have := hu2 _ h
        split at hy0 <;> omega
    · rcases hv with ⟨_, hv2⟩ | ⟨_, hv2⟩
      · exact absurd h (hv2 _)
      · have := hv2 _ h
        split at hy0 <;> omega
  · exact hle
end

/-! ### the ways with so few steps away -/
def c1 (a b : List Int) : Int := if b.length < a.length then (a.length : Int) - b.length else 0
def c2 (a b : List Int) : Int := if a.length < b.length then (b.length : Int) - a.length else 0
theorem c12 (a b : List Int) : c1 a b - c2 a b = (a.length : Int) - b.length ∧ 0 ≤ c1 a b ∧ 0 ≤ c2 a b ∧ (c1 a b = 0 ∨ c2 a b = 0) := by
  unfold c1 c2
  split <;> split <;> omega
def Good (a b : List Int) (p k y : Int) : Prop :=
  0 ≤ y ∧ 0 ≤ xOf a k y ∧ xOf a k y ≤ a.length ∧ y ≤ b.length ∧ (k ≤ b.length + 1 → xOf a k y - elI a b (xOf a k y) y ≤ p + c1 a b) ∧ ((b.length : Int) + 1 ≤ k → y - elI a b (xOf a k y) y ≤ p + c2 a b)
/-- not ended with so few -/
def Not (a b : List Int) (p : Int) : Prop := p - 1 + c1 a b < (a.length : Int) - elI a b a.length b.length
section
variable {a b : List Int}
theorem good_down {p k y : Int} (h : Good a b p k (y + 1)) (hy : 0 ≤ y) (hx : 0 ≤ xOf a k y) : Good a b p k y := by
  obtain ⟨h1, h2, h3, h4, h5, h6⟩ := h
  have e : xOf a k (y + 1) = xOf a k y + 1 := by unfold xOf; omega
  rw [e] at h2 h3 h5 h6
  have := elI_both (a := a) (b := b) hx hy
  exact ⟨hy, hx, by omega, by omega, fun hk => by have := h5 hk; omega, fun hk => by have := h6 hk; omega⟩
theorem good_match {p k y : Int} (h : Good a b p k y) (hm : mAt a b (xOf a k y) y = true) : Good a b p k (y + 1) := by
  obtain ⟨h1, h2, h3, h4, h5, h6⟩ := h
  have e : xOf a k (y + 1) = xOf a k y + 1 := by unfold xOf; omega
  obtain ⟨m1, m2⟩ := mAt_lt hm
  have hE := elI_match hm
  unfold Good
  rw [e, hE]
  exact ⟨by omega, by omega, by omega, by omega, fun hk => by have := h5 hk; omega, fun hk => by have := h6 hk; omega⟩
theorem good_out {p k y : Int} (h : Good a b p k y) : (a.length : Int) + 1 - c1 a b - p ≤ k ∧ k ≤ (a.length : Int) + 1 + c2 a b + p := by
  obtain ⟨h1, h2, h3, h4, h5, h6⟩ := h
  obtain ⟨e1, e2, e3, e4⟩ := c12 a b
  have hl := elI_le (a := a) (b := b) h2 h1
  unfold xOf at *
  constructor
  · rcases Int.lt_or_le ((b.length : Int) + 1) k with q | q
    · have := h6 (by omega)
      omega
    · have := h5 q
      omega
  · rcases Int.lt_or_le k ((b.length : Int) + 1) with q | q
    · have := h5 (by omega)
      omega
    · have := h6 q
      omega
theorem good_neg {k y : Int} : ¬ Good a b (-1) k y := by
  intro h
  have := good_out h
  obtain ⟨h1, h2, h3, h4, h5, h6⟩ := h
  obtain ⟨e1, e2, e3, e4⟩ := c12 a b
  have hl := elI_le (a := a) (b := b) h2 h1
  unfold xOf at *
  rcases Int.lt_or_le ((b.length : Int) + 1) k with q | q
  · have := h6 (by omega)
    omega
  · have := h5 q
    omega
/-- left of the ends' diagonal -/
theorem left_top {p k u v : Int} (f : Nat) (hk : k ≤ b.length) (hu : Top (Good a b p (k - 1)) u) (hv : Top (Good a b (p - 1) (k + 1)) v) (hN : Not a b p) (hne : ∃ y, Good a b p k y) (hf : b.length < f) :
    Good a b p k (if v < u + 1 then u + 1 else v) ∧ Good a b p k (slide a b k f (if v < u + 1 then u + 1 else v)) ∧ (∀ y, Good a b p k y → y ≤ slide a b k f (if v < u + 1 then u + 1 else v)) ∧ (u < 0 → v < 0 → xOf a k 0 = 0) := by
  obtain ⟨e1, e2, e3, e4⟩ := c12 a b
  refine step_top f hu hv (fun y h => h.1) (fun y h => h.1) ?_ ?_ (fun y h => ⟨h.1, h.2.1, h.2.2.2.1⟩) (fun y h hm => good_match h hm) ?_ (fun y h h1 h2 => good_down h h1 h2) ?_ hne hf
  · intro y ⟨h1, h2, h3, h4, h5, h6⟩
    have e : xOf a (k - 1) y = xOf a k (y + 1) := by unfold xOf; omega
    rw [e] at h2 h3 h5
    have hd := elI_down (a := a) (b := b) (xOf a k (y + 1)) h1
    have := h5 (by omega)
    exact ⟨by omega, h2, h3, by unfold xOf at h3; omega, fun _ => by omega, fun q => by omega⟩
  · intro y ⟨h1, h2, h3, h4, h5, h6⟩
    have e : xOf a (k + 1) y = xOf a k y - 1 := by unfold xOf; omega
    rw [e] at h2 h3 h5 h6
    have h7 := h5 (by omega)
    have hr := elI_right (a := a) (b := b) y h2
    rw [show xOf a k y - 1 + 1 = xOf a k y by omega] at hr
    have hx : xOf a k y ≤ a.length := by
      rcases Int.lt_or_le (a.length : Int) (xOf a k y) with q | q
      · have e5 : xOf a k y - 1 = a.length := by omega
        rw [e5] at h7
        have hm := elI_monoY (a := a) (b := b) (a.length : Int) h4
        unfold Not at hN
        omega
      · exact q
    exact ⟨h1, by omega, hx, h4, fun _ => by omega, fun q => by omega⟩
  · intro y ⟨h1, h2, h3, h4, h5, h6⟩ hy hx hm
    have e : xOf a k (y + 1) = xOf a k y + 1 := by unfold xOf; omega
    rw [e] at h2 h3 h5 h6
    have h7 := h5 (by omega)
    rcases elI_miss hx hy hm with g | g
    · right
      have e5 : xOf a (k + 1) (y + 1) = xOf a k y := by unfold xOf; omega
      unfold Good
      rw [e5]
      exact ⟨by omega, hx, by omega, h4, fun _ => by omega, fun q => by unfold xOf at *; omega⟩
    · left
      have e5 : xOf a (k - 1) y = xOf a k y + 1 := by unfold xOf; omega
      unfold Good
      rw [e5]
      exact ⟨hy, by omega, h3, by omega, fun _ => by omega, fun q => by omega⟩
  · intro y ⟨h1, h2, h3, h4, h5, h6⟩ he
    have h7 := h5 (by omega)
    by_cases hx : xOf a k y = 0
    · by_cases hy : y = 0
      · exact .inl ⟨hy, hx⟩
      · right; left
        have e5 : xOf a (k - 1) (y - 1) = xOf a k y := by unfold xOf; omega
        unfold Good
        rw [e5, hx, elI_zero]
        rw [hx, elI_zero] at h7
        exact ⟨by omega, by omega, by omega, by omega, fun _ => by omega, fun q => by omega⟩
    · have hy : y = 0 := by omega
      right; right
      subst hy
      have e5 : xOf a (k + 1) 0 = xOf a k 0 - 1 := by unfold xOf; omega
      unfold Good
      rw [e5, elI_none]
      rw [elI_none] at h7
      exact ⟨by omega, by omega, by omega, by omega, fun _ => by omega, fun q => by unfold xOf at *; omega⟩
/-- right of it -/
theorem right_top {p k u v : Int} (f : Nat) (hk : (b.length : Int) + 2 ≤ k) (hu : Top (Good a b (p - 1) (k - 1)) u) (hv : Top (Good a b p (k + 1)) v) (hN : Not a b p) (hne : ∃ y, Good a b p k y) (hf : b.length < f) :
    Good a b p k (if v < u + 1 then u + 1 else v) ∧ Good a b p k (slide a b k f (if v < u + 1 then u + 1 else v)) ∧ (∀ y, Good a b p k y → y ≤ slide a b k f (if v < u + 1 then u + 1 else v)) ∧ (u < 0 → v < 0 → xOf a k 0 = 0) := by
  obtain ⟨e1, e2, e3, e4⟩ := c12 a b
  refine step_top f hu hv (fun y h => h.1) (fun y h => h.1) ?_ ?_ (fun y h => ⟨h.1, h.2.1, h.2.2.2.1⟩) (fun y h hm => good_match h hm) ?_ (fun y h h1 h2 => good_down h h1 h2) ?_ hne hf
  · intro y ⟨h1, h2, h3, h4, h5, h6⟩
    have e : xOf a (k - 1) y = xOf a k (y + 1) := by unfold xOf; omega
    rw [e] at h2 h3 h5 h6
    have hd := elI_down (a := a) (b := b) (xOf a k (y + 1)) h1
    have h7 := h6 (by omega)
    have hy : y + 1 ≤ b.length := by
      rcases Int.lt_or_le (b.length : Int) (y + 1) with q | q
      · have e5 : y = b.length := by omega
        rw [e5] at h7
        have hm := elI_monoX (a := a) (b := b) (b.length : Int) (show xOf a k ((b.length : Int) + 1) ≤ a.length by rw [← e5]; exact h3)
        unfold Not at hN
        omega
      · exact q
    exact ⟨by omega, h2, h3, hy, fun _ => by omega, fun q => by omega⟩
  · intro y ⟨h1, h2, h3, h4, h5, h6⟩
    have e : xOf a (k + 1) y = xOf a k y - 1 := by unfold xOf; omega
    rw [e] at h2 h3 h5 h6
    have h7 := h6 (by omega)
    have hr := elI_right (a := a) (b := b) y h2
    rw [show xOf a k y - 1 + 1 = xOf a k y by omega] at hr
    exact ⟨h1, by omega, by unfold xOf; omega, h4, fun _ => by omega, fun q => by omega⟩
  · intro y ⟨h1, h2, h3, h4, h5, h6⟩ hy hx hm
    have e : xOf a k (y + 1) = xOf a k y + 1 := by unfold xOf; omega
    rw [e] at h2 h3 h5 h6
    have h7 := h6 (by omega)
    rcases elI_miss hx hy hm with g | g
    · right
      have e5 : xOf a (k + 1) (y + 1) = xOf a k y := by unfold xOf; omega
      unfold Good
      rw [e5]
      exact ⟨by omega, hx, by omega, h4, fun _ => by omega, fun q => by omega⟩
    · left
      have e5 : xOf a (k - 1) y = xOf a k y + 1 := by unfold xOf; omega
      unfold Good
      rw [e5]
      exact ⟨hy, by omega, h3, by omega, fun _ => by unfold xOf at *; omega, fun q => by omega⟩
  · intro y ⟨h1, h2, h3, h4, h5, h6⟩ he
    have h7 := h6 (by omega)
    by_cases hy : y = 0
    · by_cases hx : xOf a k y = 0
      · exact .inl ⟨hy, hx⟩
      · right; right
        subst hy
        have e5 : xOf a (k + 1) 0 = xOf a k 0 - 1 := by unfold xOf; omega
        unfold Good
        rw [e5, elI_none]
        rw [elI_none] at h7
        exact ⟨by omega, by omega, by omega, by omega, fun _ => by omega, fun q => by omega⟩
    · have hx : xOf a k y = 0 := by omega
      right; left
      have e5 : xOf a (k - 1) (y - 1) = xOf a k y := by unfold xOf; omega
      unfold Good
      rw [e5, hx, elI_zero]
      rw [hx, elI_zero] at h7
      exact ⟨by omega, by omega, by omega, by omega, fun _ => by unfold xOf at *; omega, fun q => by omega⟩
/-- on it -/
theorem goal_top {p k u v : Int} (f : Nat) (hk : k = (b.length : Int) + 1) (hu : Top (Good a b p (k - 1)) u) (hv : Top (Good a b p (k + 1)) v) (hne : ∃ y, Good a b p k y) (hf : b.length < f) :
    Good a b p k (if v < u + 1 then u + 1 else v) ∧ Good a b p k (slide a b k f (if v < u + 1 then u + 1 else v)) ∧ (∀ y, Good a b p k y → y ≤ slide a b k f (if v < u + 1 then u + 1 else v)) ∧ (u < 0 → v < 0 → xOf a k 0 = 0) := by
  obtain ⟨e1, e2, e3, e4⟩ := c12 a b
  refine step_top f hu hv (fun y h => h.1) (fun y h => h.1) ?_ ?_ (fun y h => ⟨h.1, h.2.1, h.2.2.2.1⟩) (fun y h hm => good_match h hm) ?_ (fun y h h1 h2 => good_down h h1 h2) ?_ hne hf
  · intro y ⟨h1, h2, h3, h4, h5, h6⟩
    have e : xOf a (k - 1) y = xOf a k (y + 1) := by unfold xOf; omega
    rw [e] at h2 h3 h5 h6
    have hd := elI_down (a := a) (b := b) (xOf a k (y + 1)) h1
    have h7 := h5 (by omega)
    exact ⟨by omega, h2, h3, by unfold xOf at h3; omega, fun _ => by omega, fun q => by unfold xOf at *; omega⟩
  · intro y ⟨h1, h2, h3, h4, h5, h6⟩
    have e : xOf a (k + 1) y = xOf a k y - 1 := by unfold xOf; omega
    rw [e] at h2 h3 h5 h6
    have h7 := h6 (by omega)
    have hr := elI_right (a := a) (b := b) y h2
    rw [show xOf a k y - 1 + 1 = xOf a k y by omega] at hr
    exact ⟨h1, by omega, by unfold xOf; omega, h4, fun _ => by unfold xOf at *; omega, fun q => by omega⟩
  · intro y ⟨h1, h2, h3, h4, h5, h6⟩ hy hx hm
    have e : xOf a k (y + 1) = xOf a k y + 1 := by unfold xOf; omega
    rw [e] at h2 h3 h5 h6
    have h7 := h6 (by omega)
    have h8 := h5 (by omega)
    rcases elI_miss hx hy hm with g | g
    · right
      have e5 : xOf a (k + 1) (y + 1) = xOf a k y := by unfold xOf; omega
      unfold Good
      rw [e5]
      exact ⟨by omega, hx, by omega, h4, fun _ => by omega, fun q => by omega⟩
    · left
      have e5 : xOf a (k - 1) y = xOf a k y + 1 := by unfold xOf; omega
      unfold Good
      rw [e5]
      exact ⟨hy, by omega, h3, by omega, fun _ => by omega, fun q => by omega⟩
  · intro y ⟨h1, h2, h3, h4, h5, h6⟩ he
    have h7 := h6 (by omega)
    have h8 := h5 (by omega)
    by_cases hy : y = 0
    · by_cases hx : xOf a k y = 0
      · exact .inl ⟨hy, hx⟩
      · right; right
        subst hy
        have e5 : xOf a (k + 1) 0 = xOf a k 0 - 1 := by unfold xOf; omega
        unfold Good
        rw [e5, elI_none]
        rw [elI_none] at h7 h8
        exact ⟨by omega, by omega, by omega, by omega, fun _ => by omega, fun q => by omega⟩
    · have hx : xOf a k y = 0 := by omega
      right; left
      have e5 : xOf a (k - 1) (y - 1) = xOf a k y := by unfold xOf; omega
      unfold Good
      rw [e5, hx, elI_zero]
      rw [hx, elI_zero] at h7 h8
      exact ⟨by omega, by omega, by omega, by omega, fun _ => by omega, fun q => by omega⟩
/-- each diagonal within the bounds is come to -/
theorem good_some {p k : Int} (h1 : (a.length : Int) + 1 - c1 a b - p ≤ k) (h2 : k ≤ (a.length : Int) + 1 + c2 a b + p) (hp : 0 ≤ p) (hpa : p ≤ a.length) (hpb : p ≤ b.length) : ∃ y, Good a b p k y := by
  obtain ⟨e1, e2, e3, e4⟩ := c12 a b
  rcases Int.lt_or_le (a.length + 1 : Int) k with q | q
  · refine ⟨k - a.length - 1, by omega, by unfold xOf; omega, by unfold xOf; omega, by omega, fun _ => ?_, fun _ => ?_⟩
    · rw [show xOf a k (k - a.length - 1) = 0 by unfold xOf; omega, elI_zero]; omega
    · rw [show xOf a k (k - a.length - 1) = 0 by unfold xOf; omega, elI_zero]; omega
  · refine ⟨0, by omega, by unfold xOf; omega, by unfold xOf; omega, by omega, fun _ => ?_, fun _ => ?_⟩
    · rw [elI_none]; unfold xOf; omega
    · rw [elI_none]; omega
/-- where the ways end -/
theorem good_end {p : Int} : Good a b p (b.length + 1) b.length ↔ (a.length : Int) - elI a b a.length b.length ≤ p + c1 a b := by
  obtain ⟨e1, e2, e3, e4⟩ := c12 a b
  have e : xOf a (b.length + 1) b.length = a.length := by unfold xOf; omega
  unfold Good
  rw [e]
  constructor
  · intro h; exact h.2.2.2.2.1 (by omega)
  · intro h; exact ⟨by omega, by omega, by omega, by omega, fun _ => h, fun _ => by omega⟩
end
end Go.Proofs.Ytdilmgcdebobaaa.My
