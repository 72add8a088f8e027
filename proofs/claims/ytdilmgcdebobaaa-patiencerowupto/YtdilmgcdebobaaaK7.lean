/-
  The walk of middle.
-/
import Derived.Test.YtdilmgcdebobaaaK6
namespace Go.Proofs.Ytdilmgcdebobaaa
open Go.RowKit
open Ed (Ch Run Pr)
open My (Ats En)

/-- the row up to i -/
def AtU (w : World) (gr cap : Nat) (t : Ats) (lo i : Nat) : Prop :=
  ∃ cur, w.heap[gr]? = some (.cells cur 146) ∧ cur.size = cap * 2 ∧ ∀ k : Nat, lo ≤ k → k < i → cur[k * 2]? = some (.int .i64 (t k).1) ∧ cur[k * 2 + 1]? = some (.int .i64 (t k).2)
def t00 : Ats := fun _ => (-1, 0)
theorem AtU.set {w : World} {gr cap lo i : Nat} (h : AtU w gr cap t00 lo i) (hi : i < cap) : AtU ((w.setCell ⟨gr, i * 2, none⟩ (.int .i64 (-1))).setCell ⟨gr, i * 2 + 1, none⟩ (.int .i64 0)) gr cap t00 lo (i + 1) := by
  obtain ⟨cur, g1, g2, g3⟩ := h
  have h1 := set_heap _ gr (i * 2) _ _ (.int .i64 (-1)) g1
  have h2 := set_heap _ gr (i * 2 + 1) _ _ (.int .i64 0) h1
  refine ⟨_, h2, by simpa using g2, fun j q1 q2 => ?_⟩
  by_cases hj : j = i
  · subst hj
    constructor
    · rw [Array.getElem?_setIfInBounds_ne (by omega), Array.getElem?_setIfInBounds_self_of_lt (by omega)]; rfl
    · rw [Array.getElem?_setIfInBounds_self_of_lt (by simp; omega)]; rfl
  · obtain ⟨e1, e2⟩ := g3 j q1 (by omega)
    constructor
    · rw [Array.getElem?_setIfInBounds_ne (by omega), Array.getElem?_setIfInBounds_ne (by omega)]; exact e1
    · rw [Array.getElem?_setIfInBounds_ne (by omega), Array.getElem?_setIfInBounds_ne (by omega)]; exact e2
theorem AtU.cells {w : World} {gr cap lo i : Nat} {t : Ats} (h : AtU w gr cap t lo i) {k : Nat} (hk : k < cap) : (∃ x, w.cell? ⟨gr, k * 2, none⟩ = some x) ∧ (∃ x, w.cell? ⟨gr, k * 2 + 1, none⟩ = some x) ∧ ∀ o, w.frozen? ⟨gr, o, none⟩ = false := by
  obtain ⟨cur, g1, g2, _⟩ := h
  exact ⟨⟨_, (cell_of_blk g1 _).trans (Array.getElem?_eq_getElem (by omega))⟩, ⟨_, (cell_of_blk g1 _).trans (Array.getElem?_eq_getElem (by omega))⟩, fun o => frozen_of_blk g1 o⟩
theorem AtU.all {w : World} {gr cap lo i : Nat} {t : Ats} (h : AtU w gr cap t lo (i + 1)) : AtR w gr cap t lo i := by
  obtain ⟨cur, g1, g2, g3⟩ := h
  exact ⟨cur, g1, g2, fun k q1 q2 => g3 k q1 (by omega)⟩
/-- one more on either side -/
theorem AtR.widen {w : World} {gr cap lo hi : Nat} {t : Ats} (h : AtR w gr cap t (lo + 1) hi) (hc : hi + 1 < cap) (hlh : lo < hi) :
    AtR ((((w.setCell ⟨gr, lo * 2, none⟩ (.int .i64 (-1))).setCell ⟨gr, lo * 2 + 1, none⟩ (.int .i64 0)).setCell ⟨gr, (hi + 1) * 2, none⟩ (.int .i64 (-1))).setCell ⟨gr, (hi + 1) * 2 + 1, none⟩ (.int .i64 0)) gr cap (My.put (My.put t (lo : Int) (-1, 0)) ((hi : Int) + 1) (-1, 0)) lo (hi + 1) := by
  obtain ⟨cur, g1, g2, g3⟩ := h
  have h1 := set_heap _ gr (lo * 2) _ _ (.int .i64 (-1)) g1
  have h2 := set_heap _ gr (lo * 2 + 1) _ _ (.int .i64 0) h1
  have h3 := set_heap _ gr ((hi + 1) * 2) _ _ (.int .i64 (-1)) h2
  have h4 := set_heap _ gr ((hi + 1) * 2 + 1) _ _ (.int .i64 0) h3
  refine ⟨_, h4, by simpa using g2, fun j q1 q2 => ?_⟩
  by_cases hj : j = hi + 1
  · subst hj
    rw [show ((hi + 1 : Nat) : Int) = (hi : Int) + 1 by omega, My.put_same]
    constructor
    · rw [Array.getElem?_setIfInBounds_ne (by omega), Array.getElem?_setIfInBounds_self_of_lt (by simp; omega)]
    · rw [Array.getElem?_setIfInBounds_self_of_lt (by simp; omega)]
  · rw [My.put_other _ _ (by omega)]
    by_cases hl : j = lo
    · subst hl
      rw [My.put_same]
      constructor
      · rw [Array.getElem?_setIfInBounds_ne (by omega), Array.getElem?_setIfInBounds_ne (by omega), Array.getElem?_setIfInBounds_ne (by omega), Array.getElem?_setIfInBounds_self_of_lt (by omega)]
      · rw [Array.getElem?_setIfInBounds_ne (by omega), Array.getElem?_setIfInBounds_ne (by omega), Array.getElem?_setIfInBounds_self_of_lt (by simp; omega)]
    · rw [My.put_other _ _ (by omega)]
      obtain ⟨e1, e2⟩ := g3 j (by omega) (by omega)
      constructor
      · rw [Array.getElem?_setIfInBounds_ne (by omega), Array.getElem?_setIfInBounds_ne (by omega), Array.getElem?_setIfInBounds_ne (by omega), Array.getElem?_setIfInBounds_ne (by omega)]; exact e1
      · rw [Array.getElem?_setIfInBounds_ne (by omega), Array.getElem?_setIfInBounds_ne (by omega), Array.getElem?_setIfInBounds_ne (by omega), Array.getElem?_setIfInBounds_ne (by omega)]; exact e2
theorem AtR.any {w : World} {gr cap lo hi : Nat} {t : Ats} (h : AtR w gr cap t lo hi) {k : Nat} (hk : k < cap) : (∃ x, w.cell? ⟨gr, k * 2, none⟩ = some x) ∧ (∃ x, w.cell? ⟨gr, k * 2 + 1, none⟩ = some x) := by
  obtain ⟨cur, g1, g2, _⟩ := h
  exact ⟨⟨_, (cell_of_blk g1 _).trans (Array.getElem?_eq_getElem (by omega))⟩, ⟨_, (cell_of_blk g1 _).trans (Array.getElem?_eq_getElem (by omega))⟩⟩
/-- what a round begins with -/
structure RdS (a b : List Int) (p : Nat) (f : Nat) (t : Ats) : Prop where
  not : My.Not a b p
  pa : p ≤ a.length
  pb : p ≤ b.length
  ent : ∀ j, My.lowP a b p - 1 ≤ j → j ≤ My.highP a b p + 1 → My.Ent a b ((p : Int) - 1) j (t j)
  low : t (My.lowP a b p - 1) = (-1, 0)
  high : t (My.highP a b p + 1) = (-1, 0)
  fuel : a.length + 1 = f + 1 + p
  same : My.mid a b (f + 1) t p = My.midP a b
theorem RdS.ends {a b : List Int} {p f : Nat} {t : Ats} (h : RdS a b p f t) : My.Ent a b p (My.lowP a b p - 1) (t (My.lowP a b p - 1)) ∧ My.Ent a b p (My.highP a b p + 1) (t (My.highP a b p + 1)) := by
  obtain ⟨e1, e2, e3, e4⟩ := My.c12 a b
  have hempty : ∀ j, j < My.lowP a b p ∨ My.highP a b p < j → ∀ y, ¬ My.Good a b p j y := fun j hj y hg => by
    have := My.good_out hg
    unfold My.lowP My.highP at hj
    omega
  exact ⟨.inl ⟨h.low, hempty _ (by omega)⟩, .inl ⟨h.high, hempty _ (by omega)⟩⟩
theorem RdS.begin (a b : List Int) : RdS a b 0 a.length t00 := by
  obtain ⟨e1, e2, e3, e4⟩ := My.c12 a b
  have hll := My.lcs_le a b
  exact ⟨by unfold My.Not; rw [My.elI_all]; push_cast; omega, Nat.zero_le _, Nat.zero_le _, fun j _ _ => .inl ⟨rfl, fun y => My.good_neg⟩, rfl, rfl, rfl, rfl⟩
/-- a round: over, or on with one more step away -/
theorem RdS.next {a b : List Int} {p f : Nat} {t : Ats} (h : RdS a b p f t) :
    ((My.rnd a b p t (b.length + 1)).1 = b.length ∧ My.midP a b = (My.crX a b (My.rnd a b p t (b.length + 1)).2, My.crY a b (My.rnd a b p t (b.length + 1)).2) ∧ My.Half a b (My.midP a b)) ∨
    ((My.rnd a b p t (b.length + 1)).1 ≠ b.length ∧ p + 1 ≤ a.length ∧ p + 1 ≤ b.length ∧ ∃ f', f = f' + 1 ∧ RdS a b (p + 1) f' (My.put (My.put (My.rnd a b p t) (My.lowP a b p - 2) (-1, 0)) (My.highP a b p + 2) (-1, 0))) := by
  obtain ⟨e1, e2, e3, e4⟩ := My.c12 a b
  have hp0 : (0 : Int) ≤ (p : Int) := by omega
  have hpa : (p : Int) ≤ a.length := by have := h.pa; omega
  have hpb : (p : Int) ≤ b.length := by have := h.pb; omega
  obtain ⟨hall, hok⟩ := My.rnd_ent h.not hp0 hpa hpb h.ent h.ends.1 h.ends.2
  have hs := h.same
  rw [My.mid] at hs
  by_cases he : (My.rnd a b p t (b.length + 1)).1 = b.length
  · left
    rw [if_pos he] at hs
    exact ⟨he, hs.symm, My.midP_half a b⟩
  · right
    rw [if_neg he] at hs
    have hng : ¬ My.Good a b p (b.length + 1) b.length := fun hg => by
      have h1 := hok.2.1 _ hg
      have h2 := hok.1.2.2.2.1
      omega
    rw [My.good_end, My.elI_all] at hng
    have hll := My.lcs_le a b
    have hp1 : p + 1 ≤ a.length ∧ p + 1 ≤ b.length := by omega
    have hfu := h.fuel
    obtain ⟨f', rfl⟩ : ∃ f', f = f' + 1 := ⟨f - 1, by omega⟩
    have el : My.lowP a b ((p + 1 : Nat) : Int) = My.lowP a b p - 1 := by unfold My.lowP; omega
    have eh : My.highP a b ((p + 1 : Nat) : Int) = My.highP a b p + 1 := by unfold My.highP; omega
    have el2 : My.lowP a b ((p : Int) + 1) - 1 = My.lowP a b p - 2 := by unfold My.lowP; omega
    have eh2 : My.highP a b ((p : Int) + 1) + 1 = My.highP a b p + 2 := by unfold My.highP; omega
    rw [el2, eh2] at hs
    refine ⟨he, hp1.1, hp1.2, f', rfl, ?_, hp1.1, hp1.2, fun j q1 q2 => ?_, ?_, ?_, by omega, by rw [← hs]; push_cast; rfl⟩
    · unfold My.Not; rw [My.elI_all]; push_cast; omega
    · rw [el] at q1
      rw [eh] at q2
      rw [show ((p + 1 : Nat) : Int) - 1 = p by omega]
      have hempty : ∀ j, j < My.lowP a b p ∨ My.highP a b p < j → ∀ y, ¬ My.Good a b p j y := fun j hj y hg => by
        have := My.good_out hg
        unfold My.lowP My.highP at hj
        omega
      by_cases q3 : j = My.highP a b p + 2
      · rw [q3, My.put_same]; exact .inl ⟨rfl, hempty _ (by omega)⟩
      · rw [My.put_other _ _ q3]
        by_cases q4 : j = My.lowP a b p - 2
        · rw [q4, My.put_same]; exact .inl ⟨rfl, hempty _ (by omega)⟩
        · rw [My.put_other _ _ q4]; exact hall j (by omega) (by omega)
    · rw [el, show My.lowP a b p - 1 - 1 = My.lowP a b p - 2 by omega, My.put_other _ _ (by unfold My.lowP My.highP; omega), My.put_same]
    · rw [eh, show My.highP a b p + 1 + 1 = My.highP a b p + 2 by omega, My.put_same]
end Go.Proofs.Ytdilmgcdebobaaa
