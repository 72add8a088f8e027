/-
  Plain: the sweeps and the rounds; the middle of a shortest way.
-/
import Derived.Test.YtdilmgcdebobaaaM2
namespace Go.Proofs.Ytdilmgcdebobaaa.My

def put (t : Ats) (k : Int) (e : En) : Ats := fun j => if j = k then e else t j
theorem put_same (t : Ats) (k : Int) (e : En) : put t k e k = e := by unfold put; rw [if_pos rfl]
theorem put_other (t : Ats) {k j : Int} (e : En) (h : j ≠ k) : put t k e j = t j := by unfold put; rw [if_neg h]
def swU (a b : List Int) : Nat → Ats → Int → Ats
  | 0, t, _ => t
  | n + 1, t, k => swU a b n (put t k (stepE a b k (t (k - 1)) (t (k + 1)))) (k + 1)
def swD (a b : List Int) : Nat → Ats → Int → Ats
  | 0, t, _ => t
  | n + 1, t, k => swD a b n (put t k (stepE a b k (t (k - 1)) (t (k + 1)))) (k - 1)
def lowP (a b : List Int) (p : Int) : Int := (a.length : Int) + 1 - c1 a b - p
def highP (a b : List Int) (p : Int) : Int := (a.length : Int) + 1 + c2 a b + p
def rnd (a b : List Int) (p : Int) (t : Ats) : Ats :=
  swU a b 1 (swD a b (highP a b p - (b.length + 1)).toNat (swU a b ((b.length : Int) + 1 - lowP a b p).toNat t (lowP a b p)) (highP a b p)) (b.length + 1)
section
variable {a b : List Int}
theorem low_goal {p : Int} (hp : 0 ≤ p) : lowP a b p ≤ b.length + 1 ∧ (b.length : Int) + 1 ≤ highP a b p := by
  obtain ⟨e1, e2, e3, e4⟩ := c12 a b
  unfold lowP highP
  omega
theorem swU_left {p : Int} (hN : Not a b p) (hp : 0 ≤ p) (hpa : p ≤ a.length) (hpb : p ≤ b.length) : ∀ (n : Nat) (t : Ats) (k : Int), lowP a b p ≤ k → k + n = b.length + 1 →
    (∀ j, lowP a b p - 1 ≤ j → j < k → Ent a b p j (t j)) → (∀ j, k ≤ j → j ≤ highP a b p + 1 → Ent a b (p - 1) j (t j)) →
    (∀ j, lowP a b p - 1 ≤ j → j < b.length + 1 → Ent a b p j (swU a b n t k j)) ∧ (∀ j, (b.length : Int) + 1 ≤ j → j ≤ highP a b p + 1 → Ent a b (p - 1) j (swU a b n t k j))
  | 0, t, k, h1, h2, h3, h4 => ⟨fun j q1 q2 => h3 j q1 (by omega), fun j q1 q2 => h4 j (by omega) q2⟩
  | n + 1, t, k, h1, h2, h3, h4 => by
    obtain ⟨g1, g2⟩ := low_goal (a := a) (b := b) hp
    rw [swU]
    have hok : Ok a b p k (stepE a b k (t (k - 1)) (t (k + 1))) := left_ent (by omega) (h3 (k - 1) (by omega) (by omega)) (h4 (k + 1) (by omega) (by omega)) hN (good_some (by unfold lowP at h1; exact h1) (by unfold highP at g2; omega) hp hpa hpb)
    refine swU_left hN hp hpa hpb n _ (k + 1) (by omega) (by omega) (fun j q1 q2 => ?_) (fun j q1 q2 => ?_)
    · by_cases e : j = k
      · rw [e, put_same]; exact .inr hok
      · rw [put_other _ _ e]; exact h3 j q1 (by omega)
    · rw [put_other _ _ (by omega)]; exact h4 j (by omega) q2
theorem swD_right {p : Int} (hN : Not a b p) (hp : 0 ≤ p) (hpa : p ≤ a.length) (hpb : p ≤ b.length) : ∀ (n : Nat) (t : Ats) (k : Int), k ≤ highP a b p → k - n = b.length + 1 →
    (∀ j, lowP a b p - 1 ≤ j → j < b.length + 1 → Ent a b p j (t j)) → (∀ j, (b.length : Int) + 1 ≤ j → j ≤ k → Ent a b (p - 1) j (t j)) → (∀ j, k < j → j ≤ highP a b p + 1 → Ent a b p j (t j)) →
    (∀ j, lowP a b p - 1 ≤ j → j < b.length + 1 → Ent a b p j (swD a b n t k j)) ∧ (∀ j, (b.length : Int) + 1 < j → j ≤ highP a b p + 1 → Ent a b p j (swD a b n t k j))
  | 0, t, k, h1, h2, h3, h4, h5 => ⟨h3, fun j q1 q2 => h5 j (by omega) q2⟩
  | n + 1, t, k, h1, h2, h3, h4, h5 => by
    obtain ⟨g1, g2⟩ := low_goal (a := a) (b := b) hp
    rw [swD]
    have hok : Ok a b p k (stepE a b k (t (k - 1)) (t (k + 1))) := right_ent (by omega) (h4 (k - 1) (by omega) (by omega)) (h5 (k + 1) (by omega) (by omega)) hN (good_some (by unfold lowP at g1; omega) (by unfold highP at h1; exact h1) hp hpa hpb)
    refine swD_right hN hp hpa hpb n _ (k - 1) (by omega) (by omega) (fun j q1 q2 => ?_) (fun j q1 q2 => ?_) (fun j q1 q2 => ?_)
    · rw [put_other _ _ (by omega)]; exact h3 j q1 q2
    · rw [put_other _ _ (by omega)]; exact h4 j q1 (by omega)
    · by_cases e : j = k
      · rw [e, put_same]; exact .inr hok
      · rw [put_other _ _ e]; exact h5 j (by omega) q2
theorem rnd_ent {p : Int} {t : Ats} (hN : Not a b p) (hp : 0 ≤ p) (hpa : p ≤ a.length) (hpb : p ≤ b.length) (h : ∀ j, lowP a b p - 1 ≤ j → j ≤ highP a b p + 1 → Ent a b (p - 1) j (t j)) (hl : Ent a b p (lowP a b p - 1) (t (lowP a b p - 1))) (hh : Ent a b p (highP a b p + 1) (t (highP a b p + 1))) :
    (∀ j, lowP a b p - 1 ≤ j → j ≤ highP a b p + 1 → Ent a b p j (rnd a b p t j)) ∧ Ok a b p (b.length + 1) (rnd a b p t (b.length + 1)) := by
  obtain ⟨g1, g2⟩ := low_goal (a := a) (b := b) hp
  obtain ⟨h1, h2⟩ := swU_left hN hp hpa hpb ((b.length : Int) + 1 - lowP a b p).toNat t (lowP a b p) (Int.le_refl _) (by omega) (fun j q1 q2 => by rw [show j = lowP a b p - 1 by omega]; exact hl) (fun j q1 q2 => h j (by omega) q2)
  -- the last sentinel is as it was
  have hs : ∀ (n : Nat) (t : Ats) (k j : Int), k + n ≤ j → swU a b n t k j = t j := by
    intro n
    induction n with
    | zero => intro t k j _; rfl
    | succ n ih => intro t k j hj; rw [swU, ih _ _ _ (by omega), put_other _ _ (by omega)]
  have hh' := hh
  rw [← hs ((b.length : Int) + 1 - lowP a b p).toNat t (lowP a b p) (highP a b p + 1) (by omega)] at hh'
  unfold rnd
  generalize swU a b ((b.length : Int) + 1 - lowP a b p).toNat t (lowP a b p) = t1 at *
  obtain ⟨h3, h4⟩ := swD_right hN hp hpa hpb (highP a b p - (b.length + 1)).toNat t1 (highP a b p) (Int.le_refl _) (by omega) h1 (fun j q1 q2 => h2 j q1 (by omega)) (fun j q1 q2 => by rw [show j = highP a b p + 1 by omega]; exact hh')
  generalize swD a b (highP a b p - (b.length + 1)).toNat t1 (highP a b p) = t2 at *
  have hok : Ok a b p (b.length + 1) (stepE a b (b.length + 1) (t2 ((b.length : Int) + 1 - 1)) (t2 ((b.length : Int) + 1 + 1))) := goal_ent rfl (h3 _ (by omega) (by omega)) (h4 _ (by omega) (by omega)) (good_some (by unfold lowP at g1; exact g1) (by unfold highP at g2; exact g2) hp hpa hpb)
  show (∀ j, lowP a b p - 1 ≤ j → j ≤ highP a b p + 1 → Ent a b p j (put t2 (b.length + 1) _ j)) ∧ Ok a b p (b.length + 1) (put t2 (b.length + 1) _ (b.length + 1))
  refine ⟨fun j q1 q2 => ?_, by rw [put_same]; exact hok⟩
  by_cases e : j = b.length + 1
  · rw [e, put_same]; exact .inr hok
  · rw [put_other _ _ e]
    rcases Int.lt_or_le j (b.length + 1) with q | q
    · exact h3 j q1 q
    · exact h4 j (by omega) q2

/-! ### the rounds -/
def mid (a b : List Int) : Nat → Ats → Int → Int × Int
  | 0, _, _ => (0, 0)
  | f + 1, t, p => if (rnd a b p t (b.length + 1)).1 = b.length then (crX a b (rnd a b p t (b.length + 1)).2, crY a b (rnd a b p t (b.length + 1)).2)
    else mid a b f (put (put (rnd a b p t) (lowP a b (p + 1) - 1) (-1, 0)) (highP a b (p + 1) + 1) (-1, 0)) (p + 1)
/-- halves that are shortest too -/
def Half (a b : List Int) (c : Int × Int) : Prop :=
  0 ≤ c.1 ∧ c.1 ≤ a.length ∧ 0 ≤ c.2 ∧ c.2 ≤ b.length ∧ hf a b ≤ c.1 + c.2 ∧ c.1 + c.2 ≤ hf a b + 1 ∧ (c.1 + c.2 = hf a b + 1 → mAt a b (c.1 - 1) (c.2 - 1) = true) ∧
  lcs a b = lcs (a.take c.1.toNat) (b.take c.2.toNat) + lcs (a.drop c.1.toNat) (b.drop c.2.toNat)
theorem elI_all : elI a b a.length b.length = lcs a b := by unfold elI lcs; simp
theorem mid_end {p : Int} {e : En} (hN : Not a b p) (hok : Ok a b p (b.length + 1) e) (he : e.1 = b.length) : Half a b (crX a b e.2, crY a b e.2) := by
  obtain ⟨h1, _, hov⟩ := hok
  rw [he] at h1
  have hE := good_end.1 h1
  have hx : xOf a (b.length + 1) b.length = a.length := by unfold xOf; omega
  unfold Not at hN
  rw [elI_all] at hN hE
  have hh : hf a b ≤ (a.length : Int) + b.length := by unfold hf; omega
  unfold Ov at hov
  rw [he, hx] at hov
  rcases hov with ⟨_, h2⟩ | ⟨_, hV⟩
  · omega
  · obtain ⟨v1, v2, v3, v4, v5, v6, v7⟩ := hV
    rw [hx] at v3 v6
    have v8 := v6 (by omega)
    have hsum : hf a b ≤ crX a b e.2 + crY a b e.2 ∧ crX a b e.2 + crY a b e.2 ≤ hf a b + 1 := by unfold crX crY; omega
    refine ⟨v1, v3, v2, v4, hsum.1, hsum.2, v5, ?_⟩
    simp only
    have e1 : (lcs (a.take (crX a b e.2).toNat) (b.take (crY a b e.2).toNat) : Int) = elI a b (crX a b e.2) (crY a b e.2) := by rw [lcs_take]; rfl
    have e2 : (lcs (a.drop (crX a b e.2).toNat) (b.drop (crY a b e.2).toNat) : Int) = em a b (crX a b e.2) (crY a b e.2) a.length b.length := by
      unfold em elI lcs
      rw [List.length_drop, List.length_drop, show ((a.length : Int) - crX a b e.2).toNat = a.length - (crX a b e.2).toNat by omega, show ((b.length : Int) - crY a b e.2).toNat = b.length - (crY a b e.2).toNat by omega]
    have hle := lcs_app (a.take (crX a b e.2).toNat) (a.drop (crX a b e.2).toNat) (b.take (crY a b e.2).toNat) (b.drop (crY a b e.2).toNat)
    rw [List.take_append_drop, List.take_append_drop] at hle
    omega
theorem mid_half : ∀ (f : Nat) (t : Ats) (p : Int), Not a b p → 0 ≤ p → p ≤ a.length → p ≤ b.length → ((a.length : Int) - p < f ∨ (b.length : Int) - p < f) →
    (∀ j, lowP a b p - 1 ≤ j → j ≤ highP a b p + 1 → Ent a b (p - 1) j (t j)) → t (lowP a b p - 1) = (-1, 0) → t (highP a b p + 1) = (-1, 0) → Half a b (mid a b f t p)
  | 0, t, p, hN, hp, hpa, hpb, hfu, h, hl, hh => by omega
  | f + 1, t, p, hN, hp, hpa, hpb, hfu, h, hl, hh => by
    obtain ⟨e1, e2, e3, e4⟩ := c12 a b
    have hempty : ∀ j, j < lowP a b p ∨ highP a b p < j → ∀ y, ¬ Good a b p j y := fun j hj y hg => by
      have := good_out hg
      unfold lowP highP at hj
      omega
    obtain ⟨hall, hok⟩ := rnd_ent hN hp hpa hpb h (.inl ⟨hl, hempty _ (by omega)⟩) (.inl ⟨hh, hempty _ (by omega)⟩)
    rw [mid]
    split
    · next he => exact mid_end hN hok he
    · next he =>
      have hng : ¬ Good a b p (b.length + 1) b.length := fun hg => by
        have h1 := hok.2.1 _ hg
        have h2 := hok.1.2.2.2.1
        omega
      rw [good_end, elI_all] at hng
      have hll := lcs_le a b
      have hp1 : p + 1 ≤ a.length ∧ p + 1 ≤ b.length := by omega
      refine mid_half f _ (p + 1) (by unfold Not; rw [elI_all]; omega) (by omega) (by omega) (by omega) (by omega) (fun j q1 q2 => ?_) ?_ ?_
      · rw [show p + 1 - 1 = p by omega]
        have el : lowP a b (p + 1) = lowP a b p - 1 := by unfold lowP; omega
        have eh : highP a b (p + 1) = highP a b p + 1 := by unfold highP; omega
        rw [el] at q1
        rw [eh] at q2
        rw [el, eh]
        by_cases q3 : j = highP a b p + 1 + 1
        · rw [q3, put_same]; exact .inl ⟨rfl, hempty _ (by omega)⟩
        · rw [put_other _ _ q3]
          by_cases q4 : j = lowP a b p - 1 - 1
          · rw [q4, put_same]; exact .inl ⟨rfl, hempty _ (by omega)⟩
          · rw [put_other _ _ q4]; exact hall j (by omega) (by omega)
      · rw [put_other _ _ (by unfold lowP highP; omega), put_same]
      · rw [put_same]
def midP (a b : List Int) : Int × Int := mid a b (a.length + 1) (fun _ => (-1, 0)) 0
theorem midP_half (a b : List Int) : Half a b (midP a b) := by
  obtain ⟨e1, e2, e3, e4⟩ := c12 a b
  have hll := lcs_le a b
  exact mid_half _ _ 0 (by unfold Not; rw [elI_all]; omega) (Int.le_refl _) (by omega) (by omega) (by omega) (fun j _ _ => .inl ⟨rfl, fun y => good_neg⟩) rfl rfl
theorem half_in {c : Int × Int} (h : Half a b c) (ha : a ≠ []) (hb : b ≠ []) (hm : mAt a b 0 0 = false) : 0 < c.1 + c.2 ∧ c.1 + c.2 < (a.length : Int) + b.length := by
  obtain ⟨h1, h2, h3, h4, h5, h6, h7, _⟩ := h
  have l1 := List.length_pos_iff.2 ha
  have l2 := List.length_pos_iff.2 hb
  have e : hf a b = ((a.length : Int) + b.length) / 2 := rfl
  refine ⟨by omega, ?_⟩
  rcases Int.lt_or_le (c.1 + c.2) ((a.length : Int) + b.length) with q | q
  · exact q
  · have q1 : a.length = 1 := by omega
    have q2 : b.length = 1 := by omega
    have q3 : c.1 = 1 := by omega
    have q4 : c.2 = 1 := by omega
    have := h7 (by omega)
    rw [q3, q4] at this
    rw [show (1 : Int) - 1 = 0 by omega, hm] at this
    cases this
end
end Go.Proofs.Ytdilmgcdebobaaa.My
