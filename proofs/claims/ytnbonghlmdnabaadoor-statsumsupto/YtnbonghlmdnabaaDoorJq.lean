/-
  A region that draws its order and whose last operations alone write: walked once, in the order of the text.
-/
import Derived.Test.YtnbonghlmdnabaaDoorJ2
import Derived.StillTailTactics
import Derived.BigQuiet
namespace Go.Proofs.YtnbonghlmdnabaaDoor
open Go.RowKit

theorem still_of_quiet {P : Program} {ops : Array Oper} {w1 : World} {Q : Act → Prop} : ∀ (l : List Oper) (a : Act), wpQuiet P ops (fun w' => w' = w1) Q l a → wpStill P ops w1 Q l a
  | [], _, h => h
  | o :: rest, a, h => by
    unfold wpQuiet at h
    unfold wpStill
    split
    · next hw =>
      rw [if_pos hw] at h
      obtain ⟨v, h1, h2⟩ := h
      have h3 := h1 w1 rfl
      have h4 := still_of_quiet rest _ h2
      unfold Oper.quietAt at h3
      unfold Oper.still
      generalize (execOp a.eval o).run P w1 = r at h3 ⊢
      unfold Oper.quietUpon at h3
      unfold Oper.stillUpon
      split at h3
      · obtain ⟨e1, e2⟩ := h3
        subst e2
        exact ⟨e1, h4⟩
      · obtain ⟨e1, e2⟩ := h3
        subst e2
        exact ⟨e1, h4⟩
      · obtain ⟨e1, e2⟩ := h3
        exact ⟨e1, v, e2, h4⟩
      · exact h3.elim
    · next hw =>
      rw [if_neg hw] at h
      exact still_of_quiet rest _ h
theorem wp_region_qtail {P : Program} {id : Nat} {Q : Exit → Act → World → Prop} {a : Act} {w : World} {l : List Oper} (n : Nat) (hm : P.follows .mixedOrders = true) (hB : Region.lexTailB .any l.toArray n = true)
    (h : wpQuiet P l.toArray (fun w' => w' = w.drewN 1) (fun a' => wpList P l.toArray Q (l.drop n) a' (w.drewN 1)) (l.take n) a) : (Code.region id l.toArray true).wp P Q a w :=
  wp_region_still_tail n hm hB (still_of_quiet _ _ h)
end Go.Proofs.YtnbonghlmdnabaaDoor
