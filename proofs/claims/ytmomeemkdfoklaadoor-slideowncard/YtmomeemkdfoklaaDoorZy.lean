/-
  Plain: how far the document's change slides; the walk of its Slide.
-/
import Derived.Test.YtmomeemkdfoklaaDoorZw
import Derived.Test.YtmomeemkdfoklaaDoorZt
namespace Go.Proofs.YtmomeemkdfoklaaDoor
open Go.RowKit
open Ed (Ch Run Pr)

theorem slid_far {a b : List Int} {xA xN xB xM yA yB : Nat} (h1 : xA + xN ≤ yA) (h2 : xB + xM ≤ yB) (hg : yA + xB + xM = yB + xA + xN) (hp : 0 < xN + xM) :
    ∃ K : Nat, Ed.slid a b yA yB ⟨xA, xN, xB, xM⟩ = Ed.mv ⟨xA, xN, xB, xM⟩ K ∧ xA + xN + K ≤ yA ∧ xB + xM + K ≤ yB ∧ ∀ t, t ≤ K → slP a b (xA + t) xN (xB + t) xM yA yB = decide (t < K) := by
  have tn : ∀ (p i : Nat), ((p : Int) + (i : Int)).toNat = p + i := fun p i => by omega
  have tn2 : ∀ (p i j : Nat), ((p : Int) + (i : Int) + (j : Int)).toNat = p + i + j := fun p i j => by omega
  by_cases hm : xM = 0
  · have hF := Ed.farI_far a xA xN yA
    obtain ⟨K, hK⟩ : ∃ K, K = Ed.farI a xA xN yA := ⟨_, rfl⟩
    rw [← hK] at hF
    have hl : xA + xN + K ≤ yA := by
      rcases Nat.eq_zero_or_pos K with e | e
      · omega
      · have := (hF.1 (K - 1) (by omega)).1; omega
    refine ⟨K, by unfold Ed.slid; rw [if_pos (by simp; omega), hK], hl, by omega, fun t ht => ?_⟩
    unfold slP
    rcases Nat.lt_or_eq_of_le ht with q | q
    · have h := hF.1 t q
      rw [tn, tn2] at h
      rw [if_pos ⟨hm, by omega⟩, decide_eq_true q, decide_eq_true h.2]
    · subst q
      rw [decide_eq_false (Nat.lt_irrefl _)]
      split
      · rename_i hc
        refine decide_eq_false (fun e => hF.2 ⟨by omega, ?_⟩)
        rw [tn, tn2]
        exact e
      · rw [if_neg (by omega)]
  · by_cases hn : xN = 0
    · have hF := Ed.farI_far b xB xM yB
      obtain ⟨K, hK⟩ : ∃ K, K = Ed.farI b xB xM yB := ⟨_, rfl⟩
      rw [← hK] at hF
      have hl : xB + xM + K ≤ yB := by
        rcases Nat.eq_zero_or_pos K with e | e
        · omega
        · have := (hF.1 (K - 1) (by omega)).1; omega
      refine ⟨K, by unfold Ed.slid; rw [if_neg (by simp; omega), if_pos (by simp; omega), hK], by omega, hl, fun t ht => ?_⟩
      unfold slP
      rw [if_neg (by omega)]
      rcases Nat.lt_or_eq_of_le ht with q | q
      · have h := hF.1 t q
        rw [tn, tn2] at h
        rw [if_pos ⟨hn, by omega⟩, decide_eq_true q, decide_eq_true h.2]
      · subst q
        rw [decide_eq_false (Nat.lt_irrefl _)]
        split
        · rename_i hc
          refine decide_eq_false (fun e => hF.2 ⟨by omega, ?_⟩)
          rw [tn, tn2]
          exact e
        · rfl
    · refine ⟨0, by unfold Ed.slid; rw [if_neg (by simp; omega), if_neg (by simp; omega)]; simp [Ed.mv], by omega, by omega, fun t ht => ?_⟩
      unfold slP
      rw [if_neg (by omega), if_neg (by omega), decide_eq_false (by omega)]
theorem put1_rev (c : Ch) (out : List Ch) : (Ed.put1 c out).reverse = match out with
    | [] => [c]
    | d :: t => if c.a + c.n = d.a then t.reverse ++ [⟨c.a, c.n + d.n, c.b, c.m + d.m⟩] else t.reverse ++ [d] ++ [c] := by
  cases out with
  | nil => rfl
  | cons d t =>
    unfold Ed.put1
    simp only
    split <;> simp
end Go.Proofs.YtmomeemkdfoklaaDoor
