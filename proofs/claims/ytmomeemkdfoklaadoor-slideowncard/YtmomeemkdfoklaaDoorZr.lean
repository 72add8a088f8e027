/-
  A range over a function whose rounds write what the function reads: each round is told how many came ahead of it.
-/
import Derived.RangeFuncNested
import Derived.RangeFuncBound
import Derived.RangeFuncCalls
import Derived.RangeFuncLeaves
import Derived.Shelf.Abstract
import Derived.Shelf.RegionOpen
import Derived.WalkKit
import Derived.OwnWalkIn
import Derived.TacticsInMore
import Derived.LoopNIn
import Derived.LoopIn
import Derived.Test.YtmomeemkdfoklaaDoorZ2
namespace Go.Proofs.YtmomeemkdfoklaaDoor
open Go.RowKit Go.Shelf

theorem below_put {B l : Nat} {W : World} {o : Obj} (h : B ≤ l) : Below B W (W.putObj l o) :=
  ⟨rfl, rfl, rfl, by simp, fun j hj => World.putObj_heap_other (by omega)⟩
/-- a round: what it must do, and what it must leave alone -/
structure Rounds (P : Program) (n : Nat) (assign body : Code) (ps : Array Tmp) (tm : Array Value) (B N : Nat) (enc : Nat → Array Value) (I : Nat → World → Prop) (Ax : Nat → Act → World → Prop) : Prop where
  low : ∀ k W W', I k W → Below B W W' → I k W'
  box : ∀ k a W l o o', Ax k a W → W.heap[l]? = some o → o.isCells = false → Ax k a (W.putObj l o')
  fits : ∀ k, (enc k).size = ps.size
  assign : ∀ (l k : Nat) (W : World) (K : Act → World → Prop), I k W → k < N → (∀ a' W', KeepsFrom B W W' → I k W' → Ax k a' W' → K a' W') →
    assign.wpIn (Fence.wide.inRound l) n P (Exit.then K (fun _ _ _ => False)) { tmps := (ps.zip (enc k)).foldl (fun t (p, v) => t.setIfInBounds p v) tm, defers := [] } W
  body : ∀ (l k : Nat) (a' : Act) (W : World), B ≤ l → I k W → Ax k a' W → k < N → body.wpIn (Fence.wide.inRound l) n P (fun e _ W' => e = .normal ∧ KeepsFrom B W W' ∧ I (k + 1) W') a' W

theorem range_plain {P : Program} {n : Nat} {g : Operand} {ps : Array Tmp} {assign body : Code} {Q : Exit → Act → World → Prop} {a : Act} {w : World} {gf : Nat} {lb : Array Value}
    (hg : a.eval g = .func (.func gf) #[] lb) (eg : ∀ args w, (callFunc gf args).run P w = .ok (.enter gf args) w) (N : Nat) (enc : Nat → Array Value) (I : Nat → World → Prop) (Ax : Nat → Act → World → Prop)
    (hR : Rounds P (n - 1 - 1) assign body ps a.tmps w.heap.size N enc I Ax) (h0 : I 0 w)
    (hseq : ∀ (l : Nat) (J : Nat → World → Prop) (W : World), (∀ k W, J k W → I k W) → (∀ k W, J k W → k < N → YieldAt Fence.wide (n - 1 - 1) P l (enc k) W fun e W' => e = .returned (.bool true) ∧ J (k + 1) W') → J 0 W →
      CallsIn Fence.wide (n - 1) P gf (#[.func (.yield l) #[] #[]] ++ lb) W fun e W' => (∃ v, e = .returned v) ∧ J N W')
    (hdone : ∀ (D : Nat) (W : World), w.heap.size ≤ D → I N W → W.heap[D]? = some (.deferred (some [])) → Q .normal { a with defers := { target := .collected D, args := #[] } :: a.defers } W) :
    (Code.rangeFunc g ps assign body).wpIn Fence.wide n P Q a w := by
  refine wpIn_rangeFunc (fun fn hfn => ?_)
  obtain ⟨R, hRd⟩ : ∃ R : Loop, R = { state := .ready, pending := none, fn, tmps := a.tmps, params := ps, assign, body, defers := w.heap.size } := ⟨_, rfl⟩
  obtain ⟨L, hL⟩ : ∃ L, L = w.heap.size + 1 := ⟨_, rfl⟩
  obtain ⟨W1, hW1⟩ : ∃ W1, W1 = (w.alloc (.deferred (some []))).alloc (.loop R) := ⟨_, rfl⟩
  have b1 : Below w.heap.size w W1 := by rw [hW1]; exact ((Below.refl _ _).alloc (Nat.le_refl _) _).alloc (by simp) _
  have l1 : W1.heap[L]? = some (.loop R) := by
    rw [hW1, hL]
    have := World.alloc_heap_new (w.alloc (.deferred (some []))) (.loop R)
    rwa [World.size_alloc] at this
  have k1 : W1.heap[w.heap.size]? = some (.deferred (some [])) := by
    rw [hW1]
    exact (Below.heap_alloc _ _ _ (by simp)).trans (World.alloc_heap_new w _)
  -- what holds between two rounds
  let J : Nat → World → Prop := fun k W => I k W ∧ W.heap[L]? = some (.loop R) ∧ W.heap[w.heap.size]? = some (.deferred (some []))
  have round : ∀ k W, J k W → k < N → YieldAt Fence.wide (n - 1 - 1) P L (enc k) W fun e W' => e = .returned (.bool true) ∧ J (k + 1) W' := by
    rintro k W ⟨hi, hl, hk⟩ hlt
    have y := run_yield (P := P) (args := enc k) hl (by rw [hRd]; exact hR.fits k)
    rw [hRd] at y
    refine ⟨fn, _, assign, body, y, roundIn_of_wpIn hfn (hR.assign L k W _ hi hlt (fun a' W2 kf hi2 hax => ?_))⟩
    have hl2 := kf.same L _ (by omega) hl rfl
    have hk2 := kf.same w.heap.size _ (Nat.le_refl _) hk rfl
    have lt2 : L < W2.heap.size := (Array.getElem?_eq_some_iff.1 hl2).1
    refine ⟨_, run_beginRound hl2 (by rw [hRd]), ?_⟩
    have hi3 := hR.low k _ _ hi2 (below_put (W := W2) (l := L) (o := .loop { R with state := .busy }) (by omega))
    have hax3 := hR.box k a' W2 L _ (.loop { R with state := .busy }) hax hl2 rfl
    have hl3 : (W2.putObj L (.loop { R with state := .busy })).heap[L]? = some (.loop { R with state := .busy }) := World.putObj_heap_same lt2
    have hk3 : (W2.putObj L (.loop { R with state := .busy })).heap[w.heap.size]? = some (.deferred (some [])) := (World.putObj_heap_other (by omega)).trans hk2
    refine wpIn_mono (hR.body L k a' _ (by omega) hi3 hax3 hlt) ?_
    rintro e a4 W4 ⟨rfl, kf4, hi4⟩
    have hl4 := kf4.same L _ (by omega) hl3 rfl
    have hk4 := kf4.same w.heap.size _ (Nat.le_refl _) hk3 rfl
    have e4 := run_endRound (P := P) none hl4
    refine ⟨_, _, e4, rfl, hR.low _ _ _ hi4 (below_put (by omega)), ?_, (World.putObj_heap_other (by omega)).trans hk4⟩
    rw [World.putObj_heap_same (Array.getElem?_eq_some_iff.1 hl4).1, hRd]
    rfl
  have seq := hseq L J W1 (fun k W h => h.1) round ⟨hR.low 0 _ _ h0 b1, l1, k1⟩
  refine ⟨L, [{ target := .collected w.heap.size, args := #[] }], W1, { target := .fn (.func gf) lb, args := #[.func (.yield L) #[] #[]] }, W1, gf, #[.func (.yield L) #[] #[]] ++ lb, W1, ?_, ?_, fun _ _ => trivial, ?_, fun h => by simp [Fence.wide] at h, ?_⟩
  · rw [hW1, hRd, hL]
    exact run_enterLoop_outer _ _ _ _ _
  · simp only [resolve, hg]
    simp [go_sem]
  · simp [invoke, go_sem, eg]
  · refine seq.mono ?_
    rintro e W2 ⟨⟨v, rfl⟩, hi, hl, hk⟩
    have e2 := run_endLoop (P := P) hl (by rw [hRd]; simp)
    refine ⟨none, _, by rw [hRd] at e2; exact e2, ?_⟩
    refine hdone w.heap.size _ (Nat.le_refl _) (hR.low N _ _ hi (below_put (by omega))) ((World.putObj_heap_other (by omega)).trans hk)
end Go.Proofs.YtmomeemkdfoklaaDoor
