/-
  Plain: the search with the place at which each way came over the middle; the middle of a shortest way.
-/
import Derived.Test.YtdilmgcdebobaaaM1
namespace Go.Proofs.Ytdilmgcdebobaaa.My

abbrev En := Int × Int
abbrev Ats := Int → En
def hf (a b : List Int) : Int := ((a.length : Int) + b.length) / 2
def crY (a b : List Int) (ov : Int) : Int := (hf a b + (ov - a.length - 1) + 1) / 2
def crX (a b : List Int) (ov : Int) : Int := crY a b ov - (ov - a.length - 1)
def em (a b : List Int) (x0 y0 x y : Int) : Int := elI (a.drop x0.toNat) (b.drop y0.toNat) (x - x0) (y - y0)
def Via (a b : List Int) (p k y ov : Int) : Prop :=
  0 ≤ crX a b ov ∧ 0 ≤ crY a b ov ∧ crX a b ov ≤ xOf a k y ∧ crY a b ov ≤ y ∧ (crX a b ov + crY a b ov = hf a b + 1 → mAt a b (crX a b ov - 1) (crY a b ov - 1) = true) ∧
  (k ≤ b.length + 1 → xOf a k y - (elI a b (crX a b ov) (crY a b ov) + em a b (crX a b ov) (crY a b ov) (xOf a k y) y) ≤ p + c1 a b) ∧
  ((b.length : Int) + 1 ≤ k → y - (elI a b (crX a b ov) (crY a b ov) + em a b (crX a b ov) (crY a b ov) (xOf a k y) y) ≤ p + c2 a b)
def Ov (a b : List Int) (p k : Int) (e : En) : Prop := (e.2 = 0 ∧ xOf a k e.1 + e.1 < hf a b) ∨ (1 ≤ e.2 ∧ Via a b p k e.1 e.2)
section
variable {a b : List Int}
theorem em_right {x0 y0 x : Int} (y : Int) (h : x0 ≤ x) : em a b x0 y0 x y ≤ em a b x0 y0 (x + 1) y := by
  unfold em
  rw [show x + 1 - x0 = x - x0 + 1 by omega]
  exact (elI_right _ (by omega)).1
theorem em_down {x0 y0 y : Int} (x : Int) (h : y0 ≤ y) : em a b x0 y0 x y ≤ em a b x0 y0 x (y + 1) := by
  unfold em
  rw [show y + 1 - y0 = y - y0 + 1 by omega]
  exact (elI_down _ (by omega)).1
theorem mAt_drop {x0 y0 x y : Int} (h1 : 0 ≤ x0) (h2 : 0 ≤ y0) (h3 : x0 ≤ x) (h4 : y0 ≤ y) (h : mAt a b x y = true) : mAt (a.drop x0.toNat) (b.drop y0.toNat) (x - x0) (y - y0) = true := by
  obtain ⟨_, _, h5⟩ := mAt_iff.1 h
  refine mAt_iff.2 ⟨by omega, by omega, ?_⟩
  unfold eqAt at *
  rw [List.getElem?_drop, List.getElem?_drop, show x0.toNat + (x - x0).toNat = x.toNat by omega, show y0.toNat + (y - y0).toNat = y.toNat by omega]
  exact h5
theorem em_match {x0 y0 x y : Int} (h1 : 0 ≤ x0) (h2 : 0 ≤ y0) (h3 : x0 ≤ x) (h4 : y0 ≤ y) (h : mAt a b x y = true) : em a b x0 y0 (x + 1) (y + 1) = em a b x0 y0 x y + 1 := by
  unfold em
  rw [show x + 1 - x0 = x - x0 + 1 by omega, show y + 1 - y0 = y - y0 + 1 by omega]
  exact elI_match (mAt_drop h1 h2 h3 h4 h)
theorem em_self (x0 y0 : Int) : em a b x0 y0 x0 y0 = 0 := by
  unfold em
  rw [Int.sub_self, elI_zero]
theorem via_ins {p k y ov : Int} (h : Via a b p (k - 1) y ov) (hk : k ≤ b.length + 1) : Via a b p k (y + 1) ov := by
  obtain ⟨e1, e2, e3, e4⟩ := c12 a b
  obtain ⟨h1, h2, h3, h4, h5, h6, h7⟩ := h
  have e : xOf a (k - 1) y = xOf a k (y + 1) := by unfold xOf; omega
  rw [e] at h3 h6 h7
  have hd := em_down (a := a) (b := b) (x0 := crX a b ov) (xOf a k (y + 1)) h4
  have := h6 (by omega)
  exact ⟨h1, h2, h3, by omega, h5, fun _ => by omega, fun q => by have : xOf a k (y + 1) = y + 1 - k + a.length + 1 := rfl; omega⟩
theorem via_insR {p k y ov : Int} (h : Via a b (p - 1) (k - 1) y ov) (hk : (b.length : Int) + 2 ≤ k) : Via a b p k (y + 1) ov := by
  obtain ⟨h1, h2, h3, h4, h5, h6, h7⟩ := h
  have e : xOf a (k - 1) y = xOf a k (y + 1) := by unfold xOf; omega
  rw [e] at h3 h6 h7
  have hd := em_down (a := a) (b := b) (x0 := crX a b ov) (xOf a k (y + 1)) h4
  have := h7 (by omega)
  exact ⟨h1, h2, h3, by omega, h5, fun _ => by omega, fun q => by omega⟩
theorem via_delL {p k y ov : Int} (h : Via a b (p - 1) (k + 1) y ov) (hk : k ≤ b.length) : Via a b p k y ov := by
  obtain ⟨h1, h2, h3, h4, h5, h6, h7⟩ := h
  have e : xOf a k y = xOf a (k + 1) y + 1 := by unfold xOf; omega
  have hd := em_right (a := a) (b := b) (y0 := crY a b ov) y h3
  have := h6 (by omega)
  unfold Via
  rw [e]
  exact ⟨h1, h2, by omega, h4, h5, fun _ => by omega, fun q => by omega⟩
theorem via_delR {p k y ov : Int} (h : Via a b p (k + 1) y ov) (hk : (b.length : Int) + 1 ≤ k) : Via a b p k y ov := by
  obtain ⟨e1, e2, e3, e4⟩ := c12 a b
  obtain ⟨h1, h2, h3, h4, h5, h6, h7⟩ := h
  have e : xOf a k y = xOf a (k + 1) y + 1 := by unfold xOf; omega
  have hd := em_right (a := a) (b := b) (y0 := crY a b ov) y h3
  have := h7 (by omega)
  unfold Via
  rw [e]
  exact ⟨h1, h2, by omega, h4, h5, fun _ => by have : xOf a (k + 1) y = y - (k + 1) + a.length + 1 := rfl; omega, fun q => by omega⟩
theorem via_match {p k y ov : Int} (h : Via a b p k y ov) (hm : mAt a b (xOf a k y) y = true) : Via a b p k (y + 1) ov := by
  obtain ⟨h1, h2, h3, h4, h5, h6, h7⟩ := h
  have e : xOf a k (y + 1) = xOf a k y + 1 := by unfold xOf; omega
  have hd := em_match (a := a) (b := b) h1 h2 h3 h4 hm
  unfold Via
  rw [e, hd]
  exact ⟨h1, h2, by omega, by omega, h5, fun q => by have := h6 q; omega, fun q => by have := h7 q; omega⟩
theorem via_along {p k y ov : Int} : ∀ (n : Nat), Via a b p k y ov → (∀ j, y ≤ j → j < y + n → mAt a b (xOf a k j) j = true) → Via a b p k (y + n) ov
  | 0, h, _ => by simpa using h
  | n + 1, h, hm => by
    have h1 := via_along n h (fun j q1 q2 => hm j q1 (by omega))
    have := via_match h1 (hm _ (by omega) (by omega))
    rw [show y + ((n + 1 : Nat) : Int) = y + (n : Int) + 1 by omega]
    exact this
theorem em_along {k : Int} {y0 : Int} (hx : 0 ≤ xOf a k y0) (hy : 0 ≤ y0) : ∀ (n : Nat), (∀ j, y0 ≤ j → j < y0 + n → mAt a b (xOf a k j) j = true) → em a b (xOf a k y0) y0 (xOf a k (y0 + n)) (y0 + n) = n
  | 0, _ => by
    rw [show y0 + ((0 : Nat) : Int) = y0 by omega]
    exact em_self _ _
  | n + 1, hm => by
    have h1 := em_along hx hy n (fun j q1 q2 => hm j q1 (by omega))
    have e : xOf a k (y0 + ((n + 1 : Nat) : Int)) = xOf a k (y0 + n) + 1 := by unfold xOf; omega
    rw [e, show y0 + ((n + 1 : Nat) : Int) = y0 + (n : Int) + 1 by omega, em_match hx hy (by unfold xOf; omega) (by omega) (hm _ (by omega) (by omega)), h1]
    omega
theorem crX_k (k : Int) : crX a b k = xOf a k (crY a b k) := by unfold crX xOf; omega
/-- the way comes over the middle on this very diagonal -/
theorem via_new {p k y0 Y : Int} (hG : Good a b p k y0) (hGY : Good a b p k Y) (hs : xOf a k y0 + y0 ≤ hf a b) (hS : hf a b ≤ xOf a k Y + Y) (hm : ∀ j, y0 ≤ j → j < Y → mAt a b (xOf a k j) j = true) : Via a b p k Y k := by
  obtain ⟨g1, g2, g3, g4, g5, g6⟩ := hG
  have hlo : y0 ≤ crY a b k := by unfold crY; unfold xOf at hs; omega
  have hhi : crY a b k ≤ Y := by unfold crY; unfold xOf at hS; omega
  have hx0 : 0 ≤ xOf a k (crY a b k) := by unfold xOf at *; omega
  have hGc : Good a b p k (crY a b k) := by
    have := down_chain (a := a) (C := Good a b p k) (k := k) (fun y h h1 h2 => good_down h h1 h2) (Y - crY a b k).toNat (crY a b k) (by rw [show crY a b k + (((Y - crY a b k).toNat : Nat) : Int) = Y by omega]; exact hGY) (by omega) hx0
    exact this
  obtain ⟨q1, q2, q3, q4, q5, q6⟩ := hGc
  have hem := em_along (a := a) (b := b) (k := k) hx0 q1 (Y - crY a b k).toNat (fun j h1 h2 => hm j (by omega) (by omega))
  rw [show crY a b k + (((Y - crY a b k).toNat : Nat) : Int) = Y by omega] at hem
  unfold Via
  rw [crX_k, hem]
  refine ⟨hx0, q1, by unfold xOf; omega, hhi, fun hsum => ?_, fun q => ?_, fun q => ?_⟩
  · have h1 : y0 ≤ crY a b k - 1 := by unfold xOf at *; omega
    have := hm (crY a b k - 1) h1 (by omega)
    rwa [show xOf a k (crY a b k - 1) = xOf a k (crY a b k) - 1 by unfold xOf; omega] at this
  · have := q5 q
    have e : xOf a k Y = xOf a k (crY a b k) + (Y - crY a b k) := by unfold xOf; omega
    omega
  · have := q6 q
    omega

/-! ### one step -/
def stepE (a b : List Int) (k : Int) (ins way : En) : En :=
  let w0 : En := if way.1 < ins.1 + 1 then (ins.1 + 1, ins.2) else way
  let Y := slide a b k (b.length + 1) w0.1
  (Y, if w0.2 = 0 ∧ hf a b ≤ xOf a k Y + Y then k else w0.2)
theorem ov_slide {p k y0 ov : Int} (hk : 1 ≤ k) (hG : Good a b p k y0) (hGY : Good a b p k (slide a b k (b.length + 1) y0)) (h : (ov = 0 ∧ xOf a k y0 + y0 ≤ hf a b) ∨ (1 ≤ ov ∧ Via a b p k y0 ov)) :
    Ov a b p k (slide a b k (b.length + 1) y0, if ov = 0 ∧ hf a b ≤ xOf a k (slide a b k (b.length + 1) y0) + slide a b k (b.length + 1) y0 then k else ov) := by
  have hge := slide_ge (a := a) (b := b) k (b.length + 1) y0
  have hall := fun j => slide_all (a := a) (b := b) k (b.length + 1) y0 j
  generalize slide a b k (b.length + 1) y0 = Y at *
  unfold Ov
  rcases h with ⟨rfl, hs⟩ | ⟨h1, hV⟩
  · by_cases hS : hf a b ≤ xOf a k Y + Y
    · right
      simp only [true_and]
      rw [if_pos hS]
      exact ⟨hk, via_new hG hGY hs hS hall⟩
    · left
      simp only [true_and]
      rw [if_neg hS]
      exact ⟨rfl, by omega⟩
  · right
    simp only
    rw [if_neg (fun h => by omega)]
    refine ⟨h1, ?_⟩
    have := via_along (Y - y0).toNat hV (fun j q1 q2 => hall j q1 (by omega))
    rwa [show y0 + (((Y - y0).toNat : Nat) : Int) = Y by omega] at this
/-- what stands on a diagonal -/
def Ok (a b : List Int) (p k : Int) (e : En) : Prop := Good a b p k e.1 ∧ (∀ y, Good a b p k y → y ≤ e.1) ∧ Ov a b p k e
def Ent (a b : List Int) (p k : Int) (e : En) : Prop := (e = (-1, 0) ∧ ∀ y, ¬ Good a b p k y) ∨ Ok a b p k e
theorem Ent.top {p k : Int} {e : En} (h : Ent a b p k e) : Top (Good a b p k) e.1 := by
  rcases h with ⟨rfl, h⟩ | ⟨h1, h2, _⟩
  · exact .inl ⟨rfl, h⟩
  · exact .inr ⟨h1, h2⟩
theorem hf_nonneg : 0 ≤ hf a b := by unfold hf; omega
theorem good_k {p k y : Int} (h : Good a b p k y) : 1 ≤ k := by
  obtain ⟨h1, h2, h3, _⟩ := h
  unfold xOf at *
  omega
/-- a step, whatever the two neighbours are -/
theorem ent_step {p p1 p2 k : Int} {ins way : En} (h1 : Ent a b p1 (k - 1) ins) (h2 : Ent a b p2 (k + 1) way)
    (ht : Good a b p k (if way.1 < ins.1 + 1 then ins.1 + 1 else way.1) ∧ Good a b p k (slide a b k (b.length + 1) (if way.1 < ins.1 + 1 then ins.1 + 1 else way.1)) ∧ (∀ y, Good a b p k y → y ≤ slide a b k (b.length + 1) (if way.1 < ins.1 + 1 then ins.1 + 1 else way.1)) ∧ (ins.1 < 0 → way.1 < 0 → xOf a k 0 = 0))
    (v1 : ∀ y ov, Via a b p1 (k - 1) y ov → Via a b p k (y + 1) ov) (v2 : ∀ y ov, Via a b p2 (k + 1) y ov → Via a b p k y ov) : Ok a b p k (stepE a b k ins way) := by
  obtain ⟨t1, t2, t3, t4⟩ := ht
  have hk := good_k t1
  have hh := hf_nonneg (a := a) (b := b)
  unfold stepE
  by_cases hc : way.1 < ins.1 + 1
  · rw [if_pos hc] at t1 t2 t3
    simp only [if_pos hc]
    refine ⟨t2, t3, ov_slide hk t1 t2 ?_⟩
    rcases h1 with ⟨rfl, _⟩ | ⟨g1, _, gov⟩
    · left
      have := t4 (by simp) (by simpa using hc)
      refine ⟨rfl, ?_⟩
      simp only [Int.reduceNeg, Int.reduceAdd]
      omega
    · rcases gov with ⟨o1, o2⟩ | ⟨o1, o2⟩
      · left
        refine ⟨o1, ?_⟩
        have e : xOf a k (ins.1 + 1) = xOf a (k - 1) ins.1 := by unfold xOf; omega
        rw [e]; omega
      · right; exact ⟨o1, v1 _ _ o2⟩
  · rw [if_neg hc] at t1 t2 t3
    simp only [if_neg hc]
    refine ⟨t2, t3, ov_slide hk t1 t2 ?_⟩
    rcases h2 with ⟨rfl, _⟩ | ⟨g1, _, gov⟩
    · have := t1.1
      simp at this
    · rcases gov with ⟨o1, o2⟩ | ⟨o1, o2⟩
      · left
        refine ⟨o1, ?_⟩
        have e : xOf a k way.1 = xOf a (k + 1) way.1 + 1 := by unfold xOf; omega
        rw [e]; omega
      · right; exact ⟨o1, v2 _ _ o2⟩
theorem left_ent {p k : Int} {ins way : En} (hk : k ≤ b.length) (h1 : Ent a b p (k - 1) ins) (h2 : Ent a b (p - 1) (k + 1) way) (hN : Not a b p) (hne : ∃ y, Good a b p k y) : Ok a b p k (stepE a b k ins way) :=
  ent_step h1 h2 (left_top (b.length + 1) hk h1.top h2.top hN hne (Nat.lt_succ_self _)) (fun _ _ h => via_ins h (by omega)) (fun _ _ h => via_delL h hk)
theorem right_ent {p k : Int} {ins way : En} (hk : (b.length : Int) + 2 ≤ k) (h1 : Ent a b (p - 1) (k - 1) ins) (h2 : Ent a b p (k + 1) way) (hN : Not a b p) (hne : ∃ y, Good a b p k y) : Ok a b p k (stepE a b k ins way) :=
  ent_step h1 h2 (right_top (b.length + 1) hk h1.top h2.top hN hne (Nat.lt_succ_self _)) (fun _ _ h => via_insR h hk) (fun _ _ h => via_delR h (by omega))
theorem goal_ent {p k : Int} {ins way : En} (hk : k = (b.length : Int) + 1) (h1 : Ent a b p (k - 1) ins) (h2 : Ent a b p (k + 1) way) (hne : ∃ y, Good a b p k y) : Ok a b p k (stepE a b k ins way) :=
  ent_step h1 h2 (goal_top (b.length + 1) hk h1.top h2.top hne (Nat.lt_succ_self _)) (fun _ _ h => via_ins h (by omega)) (fun _ _ h => via_delR h (by omega))
end
end Go.Proofs.Ytdilmgcdebobaaa.My
