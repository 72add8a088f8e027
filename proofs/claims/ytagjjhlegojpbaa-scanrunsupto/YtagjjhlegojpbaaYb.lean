/-
  Inside the wide fence: a region that draws its order and whose last operations alone write, walked once in the order of the text. A range over a function whose rounds go on or break.
-/
import Derived.RangeFuncNested
import Derived.RangeFuncBound
import Derived.RangeFuncCalls
import Derived.RangeFuncLeaves
import Derived.Shelf.Abstract
import Derived.Shelf.RegionOpen
import Derived.WalkKit
import Derived.OwnWalkIn
import Derived.TacticsInMore
import Derived.LoopNIn
import Derived.LoopIn
import Derived.StillTailTactics
import Derived.BigQuiet
import Derived.OrdersIn
import Derived.Sort.CutIn
import Derived.Test.YtagjjhlegojpbaaC2
namespace Go.Proofs.Ytagjjhlegojpbaa
open Go.RowKit Go.Shelf

theorem still_of_quietY {P : Program} {ops : Array Oper} {w1 : World} {Q : Act → Prop} : ∀ (l : List Oper) (a : Act), wpQuiet P ops (fun w' => w' = w1) Q l a → wpStill P ops w1 Q l a
  | [], _, h => h
  | o :: rest, a, h => by
    unfold wpQuiet at h
    unfold wpStill
    split
    · next hw =>
      rw [if_pos hw] at h
      obtain ⟨v, h1, h2⟩ := h
      have h3 := h1 w1 rfl
      have h4 := still_of_quietY rest _ h2
      unfold Oper.quietAt at h3
      unfold Oper.still
      generalize (execOp a.eval o).run P w1 = r at h3 ⊢
      unfold Oper.quietUpon at h3
      unfold Oper.stillUpon
      split at h3
      · obtain ⟨e1, e2⟩ := h3
        subst e2
        exact ⟨e1, h4⟩
      · obtain ⟨e1, e2⟩ := h3
        subst e2
        exact ⟨e1, h4⟩
      · obtain ⟨e1, e2⟩ := h3
        exact ⟨e1, v, e2, h4⟩
      · exact h3.elim
    · next hw =>
      rw [if_neg hw] at h
      exact still_of_quietY rest _ h
section
/-- a fence that lets all pass: the wide one, or within a round of a loop over a function -/
structure Wide (F : Fence) : Prop where
  fn : ∀ f, F.fn f
  depth : ¬ F.depth.isSome = true
  calls : ∀ {n : Nat} {P : Program} {f : FuncId} {args : Array Value} {w : World} {R : Ending → World → Prop}, Calls P f args w R → CallsIn F n P f args w R
theorem wide_wide : Wide Fence.wide := ⟨fun _ => trivial, by simp [Fence.wide], fun h => callsIn_wide.2 h⟩
theorem wide_round (l : Nat) : Wide (Fence.wide.inRound l) := ⟨fun _ => trivial, by simp [Fence.wide, Fence.inRound], fun h => CallsIn.inRound l (callsIn_wide.2 h)⟩
theorem still_op {P : Program} {o : Oper} {a : Act} {w : World} {K : Act → Prop} (h : o.still P a w K) : ∀ c, o.op ≠ .defer c := by
  intro c hc
  unfold Oper.still at h
  simp only [execOp, hc] at h
  rw [Sem.run_bind] at h
  generalize (resolve a.eval c o.type).run P w = r at h
  cases r with
  | ok v w' => exact h
  | halt x w' => exact h
variable {F : Fence} {P : Program} {ops : Array Oper} {md : Region.Mode} {w : World} {d : Nat} {Q : Exit → Act → World → Prop}
theorem wpOpIn_of_stOp (hF : Wide F) {i : Nat} {a : Act} {K : Act → Prop} {K' : Act → World → Prop} (h : ∀ a, K a → K' a w) (hh : stOp P ops w i K a) : wpOpIn F d P ops Q i K' a w := by
  unfold stOp at hh
  unfold wpOpIn
  split
  · rename_i ho; simp only [ho] at hh; exact h _ hh
  · rename_i o ho
    simp only [ho] at hh
    split
    · rename_i hw
      simp only [hw, if_true] at hh
      refine ⟨fun f _ => hF.fn f, ?_⟩
      rw [Oper.semAt_plain F _ _ (still_op hh)]
      unfold Oper.still at hh
      generalize (execOp a.eval o).run P w = r at hh ⊢
      unfold Oper.stillUpon at hh
      split at hh
      · obtain ⟨e1, e2⟩ := hh
        subst e1
        exact h _ e2
      · obtain ⟨e1, e2⟩ := hh
        subst e1
        exact h _ e2
      · obtain ⟨e1, v, hc, hn⟩ := hh
        subst e1
        refine ⟨fun q => absurd q hF.depth, (hF.calls hc).mono ?_⟩
        rintro e w2 ⟨rfl, rfl⟩
        exact h _ hn
      · exact hh.elim
    · rename_i hw
      simp only [hw] at hh
      exact ⟨fun f _ => hF.fn f, h _ hh⟩
theorem wpAnyIn_of_head (hF : Wide F) {n g : Nat} {L : Array Bool → Act → Prop} (hL : ∀ listed a, L listed a → wpAnyIn F d P md ops Q g listed a w) :
    ∀ (f : Nat) (listed : Array Bool) (a : Act), wpAnyL P md ops w n L f listed a → wpAnyIn F d P md ops Q (f + g) listed a w
  | 0, listed, a, h => by rw [Nat.zero_add]; exact hL _ _ h
  | f + 1, listed, a, h => by
    rw [show f + 1 + g = (f + g) + 1 by omega]
    exact ⟨fun h0 => absurd h0 h.1, fun i hi => wpOpIn_of_stOp hF (fun a' h' => wpAnyIn_of_head hF hL f _ a' h') (h.2 i hi).2⟩
theorem wpAnyIn_of_seq : ∀ (l : List Oper) (k : Nat) (listed : Array Bool) (a : Act) (w : World), (∀ j, l[j]? = ops[k + j]?) →
    Region.seqB md ops l.length k listed = true → wpListIn F d P ops Q l a w → wpAnyIn F d P md ops Q l.length listed a w
  | [], _, _, _, _, _, hB, h => ⟨by simpa [Region.seqB] using hB, h⟩
  | o :: l, k, listed, a, w, hl, hB, h => by
    have h0 : ops[k]? = some o := by simpa using (hl 0).symm
    simp only [List.length_cons, Region.seqB, Bool.and_eq_true, decide_eq_true_eq] at hB
    refine ⟨fun h1 => (by rw [hB.1] at h1; cases h1), fun i hi => ?_⟩
    rw [hB.1] at hi
    have hik : i = k := by simpa using hi
    subst hik
    have hw : wpOpIn F d P ops Q i (wpListIn F d P ops Q l) a w := by unfold wpOpIn; simp only [h0]; exact h
    exact wpOpIn_mono (fun a' w' h' => wpAnyIn_of_seq l (i + 1) _ a' w' (fun j => by have := hl (j + 1); simpa [Nat.add_assoc, Nat.add_comm 1 j] using this) hB.2 h') hw
end
theorem wpIn_region_qtailF {F : Fence} (hF : Wide F) {P : Program} {id d : Nat} {Q : Exit → Act → World → Prop} {a : Act} {w : World} {l : List Oper} (n : Nat) (hm : P.follows .mixedOrders = true) (hB : Region.lexTailB .any l.toArray n = true)
    (h0 : wpQuiet P l.toArray (fun w' => w' = w.drewN 1) (fun a' => wpListIn F d P l.toArray Q (l.drop n) a' (w.drewN 1)) (l.take n) a) : (Code.region id l.toArray true).wpIn F d P Q a w := by
  have h := still_of_quietY _ _ h0
  simp only [Region.lexTailB, Bool.and_eq_true, decide_eq_true_eq] at hB
  obtain ⟨⟨⟨⟨hsel, hn⟩, hs⟩, hc⟩, hlex⟩ := hB
  have hn' : n < l.length := by simpa using hn
  have htl : (l.take n).length = n := by simp; omega
  have hdl : (l.drop n).length = l.toArray.size - n := by simp
  have inv0 : HeadInv .any l.toArray n (Array.replicate l.toArray.size false) :=
    ⟨by simp, fun j oj _ hl => (by rw [getD_replicate_false] at hl; cases hl), fun t _ ht => getD_in (by simpa using ht) (getD_replicate_false _ _)⟩
  have H := wpAnyL_lex (md := .any) (g := l.toArray.size - n) hsel hs hc hn (l.take n) 0 _ a (fun j hj => by
    have hj' : j < n := by rw [htl] at hj; exact hj
    simp [hj']) (by simpa using htl) inv0 (by rw [htl]; exact hlex) h
  refine wpIn_region_any hm ?_
  have := wpAnyIn_of_head hF (Q := Q) (d := d) (g := l.toArray.size - n) (fun listed a' hL => by
    have := wpAnyIn_of_seq (F := F) (md := .any) (Q := Q) (d := d) (l.drop n) n listed a' (w.drewN 1) (fun j => by simp [List.getElem?_drop]) (by rw [hdl]; exact hL.1) hL.2
    rwa [hdl] at this) _ _ _ H
  rw [htl, show n + (l.toArray.size - n) = l.toArray.size by omega] at this
  exact this
theorem wpIn_region_qtail {P : Program} {id d : Nat} {Q : Exit → Act → World → Prop} {a : Act} {w : World} {l : List Oper} (n : Nat) (hm : P.follows .mixedOrders = true) (hB : Region.lexTailB .any l.toArray n = true)
    (h0 : wpQuiet P l.toArray (fun w' => w' = w.drewN 1) (fun a' => wpListIn Fence.wide d P l.toArray Q (l.drop n) a' (w.drewN 1)) (l.take n) a) : (Code.region id l.toArray true).wpIn Fence.wide d P Q a w := wpIn_region_qtailF wide_wide n hm hB h0
theorem wpIn_region_qtailR {L : Nat} {P : Program} {id d : Nat} {Q : Exit → Act → World → Prop} {a : Act} {w : World} {l : List Oper} (n : Nat) (hm : P.follows .mixedOrders = true) (hB : Region.lexTailB .any l.toArray n = true)
    (h0 : wpQuiet P l.toArray (fun w' => w' = w.drewN 1) (fun a' => wpListIn (Fence.wide.inRound L) d P l.toArray Q (l.drop n) a' (w.drewN 1)) (l.take n) a) : (Code.region id l.toArray true).wpIn (Fence.wide.inRound L) d P Q a w := wpIn_region_qtailF (wide_round L) n hm hB h0
/-! ### a range over a function whose rounds go on or break -/
structure RoundsB (P : Program) (n id : Nat) (assign body : Code) (ps : Array Tmp) (tm : Array Value) (B N : Nat) (enc : Nat → Array Value) (I IX : Nat → World → Prop) (Ax : Nat → Act → World → Prop) : Prop where
  put : ∀ k W l o o', B ≤ l → I k W → W.heap[l]? = some o → o.isCells = false → I k (W.putObj l o')
  putX : ∀ k W l o o', B ≤ l → IX k W → W.heap[l]? = some o → o.isCells = false → IX k (W.putObj l o')
  ext : ∀ k W W', I k W → Below W.heap.size W W' → I k W'
  extX : ∀ k W W', IX k W → Below W.heap.size W W' → IX k W'
  box : ∀ k a W l o o', Ax k a W → W.heap[l]? = some o → o.isCells = false → Ax k a (W.putObj l o')
  fits : ∀ k, (enc k).size = ps.size
  assign : ∀ (l k : Nat) (W : World) (K : Act → World → Prop), I k W → k < N → (∀ a' W', KeepsFrom B W W' → I k W' → Ax k a' W' → K a' W') →
    assign.wpIn (Fence.wide.inRound l) n P (Exit.then K (fun _ _ _ => False)) { tmps := (ps.zip (enc k)).foldl (fun t (p, v) => t.setIfInBounds p v) tm, defers := [] } W
  body : ∀ (l k : Nat) (a' : Act) (W : World), B ≤ l → I k W → Ax k a' W → k < N → body.wpIn (Fence.wide.inRound l) n P (fun e _ W' => KeepsFrom B W W' ∧ ((e = .normal ∧ I (k + 1) W') ∨ (e = .exit id ∧ IX (k + 1) W'))) a' W

theorem range_brk {P : Program} {n id : Nat} {g : Operand} {ps : Array Tmp} {assign body : Code} {Q : Exit → Act → World → Prop} {a : Act} {w : World} {gf : Nat} {lb : Array Value}
    (hg : a.eval g = .func (.func gf) #[] lb) (eg : ∀ args w, (callFunc gf args).run P w = .ok (.enter gf args) w) (N : Nat) (enc : Nat → Array Value) (I IX : Nat → World → Prop) (Ax : Nat → Act → World → Prop)
    (hR : RoundsB P (n - 1 - 1) id assign body ps a.tmps w.heap.size N enc I IX Ax) (h0 : I 0 w)
    (hseq : ∀ (l : Nat) (J JX : Nat → World → Prop) (W : World), (∀ k W, J k W → I k W) → (∀ k W W', J k W → Below W.heap.size W W' → J k W') → (∀ k W W', JX k W → Below W.heap.size W W' → JX k W') → (∀ k W, J k W → k < N → YieldAt Fence.wide (n - 1 - 1) P l (enc k) W fun e W' => (e = .returned (.bool true) ∧ J (k + 1) W') ∨ (e = .returned (.bool false) ∧ JX (k + 1) W')) → J 0 W →
      CallsIn Fence.wide (n - 1) P gf (#[.func (.yield l) #[] #[]] ++ lb) W fun e W' => (∃ v, e = .returned v) ∧ (J N W' ∨ ∃ k, JX k W'))
    (hdone : ∀ (D : Nat) (W : World), w.heap.size ≤ D → I N W → W.heap[D]? = some (.deferred (some [])) → Q .normal { a with defers := { target := .collected D, args := #[] } :: a.defers } W)
    (hstop : ∀ (D k : Nat) (W : World), w.heap.size ≤ D → IX k W → W.heap[D]? = some (.deferred (some [])) → Q (.exit id) { a with defers := { target := .collected D, args := #[] } :: a.defers } W) :
    (Code.rangeFunc g ps assign body).wpIn Fence.wide n P Q a w := by
  refine wpIn_rangeFunc (fun fn hfn => ?_)
  obtain ⟨R, hRd⟩ : ∃ R : Loop, R = { state := .ready, pending := none, fn, tmps := a.tmps, params := ps, assign, body, defers := w.heap.size } := ⟨_, rfl⟩
  obtain ⟨L, hL⟩ : ∃ L, L = w.heap.size + 1 := ⟨_, rfl⟩
  obtain ⟨W1, hW1⟩ : ∃ W1, W1 = (w.alloc (.deferred (some []))).alloc (.loop R) := ⟨_, rfl⟩
  have b1 : Below w.heap.size w W1 := by rw [hW1]; exact ((Below.refl _ _).alloc (Nat.le_refl _) _).alloc (by simp) _
  have l1 : W1.heap[L]? = some (.loop R) := by
    rw [hW1, hL]
    have := World.alloc_heap_new (w.alloc (.deferred (some []))) (.loop R)
    rwa [World.size_alloc] at this
  have k1 : W1.heap[w.heap.size]? = some (.deferred (some [])) := by
    rw [hW1]
    exact (Below.heap_alloc _ _ _ (by simp)).trans (World.alloc_heap_new w _)
  obtain ⟨R2, hR2⟩ : ∃ R2 : Loop, R2 = { R with state := .done, pending := some (.exit id) } := ⟨_, rfl⟩
  let J : Nat → World → Prop := fun k W => I k W ∧ W.heap[L]? = some (.loop R) ∧ W.heap[w.heap.size]? = some (.deferred (some []))
  let JX : Nat → World → Prop := fun k W => IX k W ∧ W.heap[L]? = some (.loop R2) ∧ W.heap[w.heap.size]? = some (.deferred (some []))
  have lt_of : ∀ {W : World} {j : Nat} {o : Obj}, W.heap[j]? = some o → j < W.heap.size := fun h => (Array.getElem?_eq_some_iff.1 h).1
  have round : ∀ k W, J k W → k < N → YieldAt Fence.wide (n - 1 - 1) P L (enc k) W fun e W' => (e = .returned (.bool true) ∧ J (k + 1) W') ∨ (e = .returned (.bool false) ∧ JX (k + 1) W') := by
    rintro k W ⟨hi, hl, hk⟩ hlt
    have y := run_yield (P := P) (args := enc k) hl (by rw [hRd]; exact hR.fits k)
    rw [hRd] at y
    refine ⟨fn, _, assign, body, y, roundIn_of_wpIn hfn (hR.assign L k W _ hi hlt (fun a' W2 kf hi2 hax => ?_))⟩
    have hl2 := kf.same L _ (by omega) hl rfl
    have hk2 := kf.same w.heap.size _ (Nat.le_refl _) hk rfl
    have lt2 : L < W2.heap.size := (Array.getElem?_eq_some_iff.1 hl2).1
    refine ⟨_, run_beginRound hl2 (by rw [hRd]), ?_⟩
    have hi3 := hR.put k _ L _ (.loop { R with state := .busy }) (by omega) hi2 hl2 rfl
    have hax3 := hR.box k a' W2 L _ (.loop { R with state := .busy }) hax hl2 rfl
    have hl3 : (W2.putObj L (.loop { R with state := .busy })).heap[L]? = some (.loop { R with state := .busy }) := World.putObj_heap_same lt2
    have hk3 : (W2.putObj L (.loop { R with state := .busy })).heap[w.heap.size]? = some (.deferred (some [])) := (World.putObj_heap_other (by omega)).trans hk2
    refine wpIn_mono (hR.body L k a' _ (by omega) hi3 hax3 hlt) ?_
    rintro e a4 W4 ⟨kf4, hx⟩
    have hl4 := kf4.same L _ (by omega) hl3 rfl
    have hk4 := kf4.same w.heap.size _ (Nat.le_refl _) hk3 rfl
    rcases hx with ⟨rfl, hi4⟩ | ⟨rfl, hi4⟩
    · have e4 := run_endRound (P := P) none hl4
      refine ⟨_, _, e4, .inl ⟨rfl, hR.put _ _ _ _ _ (by omega) hi4 hl4 rfl, ?_, (World.putObj_heap_other (by omega)).trans hk4⟩⟩
      rw [World.putObj_heap_same (Array.getElem?_eq_some_iff.1 hl4).1, hRd]
      rfl
    · have e4 := run_endRound (P := P) (some (.exit id)) hl4
      refine ⟨_, _, e4, .inr ⟨rfl, hR.putX _ _ _ _ _ (by omega) hi4 hl4 rfl, ?_, (World.putObj_heap_other (by omega)).trans hk4⟩⟩
      rw [World.putObj_heap_same (Array.getElem?_eq_some_iff.1 hl4).1, hR2]
      rfl
  have lowJ : ∀ k W W', J k W → Below W.heap.size W W' → J k W' := fun k W W' ⟨h1, h2, h3⟩ hb =>
    ⟨hR.ext _ _ _ h1 hb, (hb.block _ (lt_of h2)).trans h2, (hb.block _ (lt_of h3)).trans h3⟩
  have lowJX : ∀ k W W', JX k W → Below W.heap.size W W' → JX k W' := fun k W W' ⟨h1, h2, h3⟩ hb =>
    ⟨hR.extX _ _ _ h1 hb, (hb.block _ (lt_of h2)).trans h2, (hb.block _ (lt_of h3)).trans h3⟩
  have seq := hseq L J JX W1 (fun k W h => h.1) lowJ lowJX round ⟨hR.ext 0 _ _ h0 b1, l1, k1⟩
  refine ⟨L, [{ target := .collected w.heap.size, args := #[] }], W1, { target := .fn (.func gf) lb, args := #[.func (.yield L) #[] #[]] }, W1, gf, #[.func (.yield L) #[] #[]] ++ lb, W1, ?_, ?_, fun _ _ => trivial, ?_, fun h => by simp [Fence.wide] at h, ?_⟩
  · rw [hW1, hRd, hL]
    exact run_enterLoop_outer _ _ _ _ _
  · simp only [resolve, hg]
    simp [go_sem]
  · simp [invoke, go_sem, eg]
  · refine seq.mono ?_
    rintro e W2 ⟨⟨v, rfl⟩, ⟨hi, hl, hk⟩ | ⟨k, hi, hl, hk⟩⟩
    · have e2 := run_endLoop (P := P) hl (by rw [hRd]; simp)
      refine ⟨none, _, by rw [hRd] at e2; exact e2, ?_⟩
      refine hdone w.heap.size _ (Nat.le_refl _) (hR.put N _ _ _ _ (by omega) hi hl rfl) ((World.putObj_heap_other (by omega)).trans hk)
    · have e2 := run_endLoop (P := P) hl (by rw [hR2]; simp)
      refine ⟨some (.exit id), _, by rw [hR2] at e2; exact e2, ?_⟩
      have hd := hstop w.heap.size k (W2.putObj L (.loop { R2 with state := .exhausted })) (Nat.le_refl _) (hR.putX _ _ _ _ _ (by omega) hi hl rfl) ((World.putObj_heap_other (by omega)).trans hk)
      rw [hR2] at hd
      exact wpIn_exit hd
end Go.Proofs.Ytagjjhlegojpbaa
