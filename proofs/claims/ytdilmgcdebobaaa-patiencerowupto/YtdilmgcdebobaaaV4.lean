/-
  The walk of Rising.
-/
import Derived.Test.YtdilmgcdebobaaaV3
namespace Go.Proofs.Ytdilmgcdebobaaa.Pn

theorem least_ex (X : Nat → Prop) (hd : ∀ i, X i ∨ ¬ X i) : ∀ n, (∃ i, i < n ∧ X i) → ∃ i, i < n ∧ X i ∧ ∀ j, j < i → ¬ X j
  | 0, h => by obtain ⟨i, h, _⟩ := h; omega
  | n + 1, h => by
    rcases Classical.em (∃ i, i < n ∧ X i) with h1 | h1
    · obtain ⟨i, a, b, c⟩ := least_ex X hd n h1
      exact ⟨i, by omega, b, c⟩
    · obtain ⟨i, hi, hx⟩ := h
      exact ⟨i, hi, hx, fun j hj hxj => h1 ⟨j, by omega, hxj⟩⟩
theorem below_next {f : Nat → Int} {n : Nat} {B : List Int} (hB : BelowOk f n B) {s i : Nat} (h1 : s < i) (h2 : i < n) (h3 : lg f i = lg f s) : ∃ s' : Nat, B[s]? = some (s' : Int) ∧ s < s' ∧ s' ≤ i ∧ lg f s' = lg f s ∧ ∀ r, s < r → r < s' → lg f r ≠ lg f s := by
  obtain ⟨r, r1, ⟨r2, r3⟩, r4⟩ := least_ex (fun r => s < r ∧ lg f r = lg f s) (fun _ => Classical.em _) (i + 1) ⟨i, by omega, h1, h3⟩
  have r5 : ∀ q, s < q → q < r → lg f q ≠ lg f s := fun q q1 q2 e => r4 q q2 ⟨q1, e⟩
  exact ⟨r, hB s r r2 (by omega) r3.symm r5, r2, by omega, r3, r5⟩
/-- the row from a place on -/
def DoneFrom (f : Nat → Int) (n m : Nat) (R : List Int) : Prop := ∀ k : Nat, m ≤ k → k < R.length → ∃ p : Nat, R[k]? = some (p : Int) ∧ p < n ∧ lg f p = k + 1 ∧ (k + 1 = R.length → ∀ i, i < p → lg f i ≠ k + 1) ∧ (∀ q : Nat, R[k + 1]? = some (q : Int) → p < q ∧ f p < f q ∧ ∀ i, i < p → lg f i = k + 1 → f q ≤ f i)
theorem done_none (f : Nat → Int) (n : Nat) (R : List Int) : DoneFrom f n R.length R := fun k h1 h2 => by omega
theorem done_set {f : Nat → Int} {n k : Nat} {R : List Int} (h : DoneFrom f n (k + 1) R) (hk : k < R.length) {s : Nat} (h1 : s < n) (h2 : lg f s = k + 1) (h3 : k + 1 = R.length → ∀ i, i < s → lg f i ≠ k + 1) (h4 : ∀ q : Nat, R[k + 1]? = some (q : Int) → s < q ∧ f s < f q ∧ ∀ i, i < s → lg f i = k + 1 → f q ≤ f i) : DoneFrom f n k (R.set k (s : Int)) := by
  intro j hj hjl
  rw [List.length_set] at hjl
  by_cases e : j = k
  · subst e
    refine ⟨s, List.getElem?_set_self hk, h1, h2, by rw [List.length_set]; exact h3, fun q hq => h4 q (by rw [List.getElem?_set_ne (by omega)] at hq; exact hq)⟩
  · obtain ⟨p, p1, p2, p3, p4, p5⟩ := h j (by omega) hjl
    refine ⟨p, by rw [List.getElem?_set_ne (Ne.symm e)]; exact p1, p2, p3, by rw [List.length_set]; exact p4, fun q hq => p5 q (by rw [List.getElem?_set_ne (by omega)] at hq; exact hq)⟩
theorem done_row {f : Nat → Int} {n : Nat} {R : List Int} (h : DoneFrom f n 0 R) (hm : ∀ i, i < n → lg f i ≤ R.length) : ∃ S : List Nat, R = S.map (fun p : Nat => (p : Int)) ∧ RowOk f n S := by
  have hnat : ∀ x ∈ R, ∃ p : Nat, x = (p : Int) := fun x hx => by
    obtain ⟨k, hk, e⟩ := List.getElem_of_mem hx
    obtain ⟨p, p1, _⟩ := h k (Nat.zero_le _) hk
    rw [List.getElem?_eq_getElem hk, e] at p1
    exact ⟨p, Option.some.inj p1⟩
  have e : R = (R.map Int.toNat).map (fun p : Nat => (p : Int)) := by
    rw [List.map_map]
    conv => lhs; rw [← List.map_id R]
    apply List.map_congr_left
    intro x hx
    obtain ⟨p, rfl⟩ := hnat x hx
    simp
  have hg : ∀ k p : Nat, (R.map Int.toNat)[k]? = some p → R[k]? = some (p : Int) := fun k p hp => by
    rw [e, List.getElem?_map, hp]; rfl
  refine ⟨R.map Int.toNat, e, by rw [List.length_map]; exact hm, ?_, ?_⟩
  · intro p hp
    rw [List.length_map] at hp ⊢
    have hp' := hg _ p hp
    have hl : R.length - 1 < R.length := by
      rcases Nat.lt_or_ge (R.length - 1) R.length with q | q
      · exact q
      · rw [List.getElem?_eq_none q] at hp'; cases hp'
    obtain ⟨p', p1, p2, p3, p4, _⟩ := h (R.length - 1) (Nat.zero_le _) hl
    rw [hp'] at p1
    have e1 : p = p' := by have := Option.some.inj p1; omega
    subst e1
    rw [show R.length - 1 + 1 = R.length by omega] at p3 p4
    exact ⟨p2, p3, p4 rfl⟩
  · intro k p q hp hq
    have hp' := hg _ p hp
    have hq' := hg _ q hq
    have hl : k < R.length := by
      rcases Nat.lt_or_ge k R.length with r | r
      · exact r
      · rw [List.getElem?_eq_none r] at hp'; cases hp'
    obtain ⟨p', p1, p2, p3, _, p5⟩ := h k (Nat.zero_le _) hl
    rw [hp'] at p1
    have e1 : p = p' := by have := Option.some.inj p1; omega
    subst e1
    obtain ⟨a1, a2, a3⟩ := p5 q hq'
    exact ⟨a1, a2, p3, a3⟩
end Go.Proofs.Ytdilmgcdebobaaa.Pn
namespace Go.Proofs.Ytdilmgcdebobaaa
open Go.RowKit
open Ed (Ch Run Pr)

set_option maxHeartbeats 4000000 in
theorem isLong_any {w : World} {v : Value} {l : List Int} (hv : RdI w v l) : Calls Try.prog 22 #[v] w fun e w' => e = .returned (.bool (decide ((l.length : Int) > 4194304))) ∧ w' = w := by
  obtain ⟨a0, c0, rfl⟩ := hv.shape
  clear hv
  go_enter Try.func22, Try.ntmps22
  go_wp2
  go_ret
  exact ⟨rfl, rfl⟩
theorem IlR.own {w : World} {B g : Nat} {l : List Int} (h : IlR w g l) (hB : B ≤ g) (hn : l.length ≤ maxLen) : w.ownsRow B 3 1 (.slice (some ⟨g, 0, none⟩) l.length l.length) l.length (isC l) :=
  ⟨by rw [isC_length, Nat.mul_one], .inr ⟨g, l.length, (isC l).toArray, rfl, hB, h, Nat.le_refl _, hn, by rw [List.size_toArray, isC_length, Nat.mul_one], by rw [List.toList_toArray]; exact List.take_of_length_le (by rw [isC_length, Nat.mul_one]; exact Nat.le_refl _)⟩⟩
end Go.Proofs.Ytdilmgcdebobaaa
