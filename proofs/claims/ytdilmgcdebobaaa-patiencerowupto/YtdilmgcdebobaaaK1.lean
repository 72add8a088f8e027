/-
  What the walks lean on, besides C0: worlds of which only some blocks change; parts of rows; append; a region whose last operations alone write.
-/
import Derived.Test.YtdilmgcdebobaaaC0
import Derived.Test.YtdilmgcdebobaaaM5
import Derived.Deep.RegionHeld3
import Derived.Deep.DrawnRows
import Derived.BigRegion
import Derived.StillTactics
import Derived.OwnWalk
import Derived.StillTailTactics
import Derived.Deep.DeepCutAuto
import Derived.Deep.Cut
import Derived.Deep.CutRange
namespace Go.Proofs.Ytdilmgcdebobaaa
open Go.RowKit
open Ed (Ch Run Pr)

/-- of what was there only these blocks may have changed -/
structure Kept (X : Nat → Prop) (w w' : World) : Prop where
  os : w'.os = w.os
  tape : w'.tape = w.tape
  output : w'.output = w.output
  size : w.heap.size ≤ w'.heap.size
  block : ∀ g, g < w.heap.size → ¬ X g → w'.heap[g]? = w.heap[g]?
theorem Kept.below {X : Nat → Prop} {w w' : World} {B : Nat} (h : Kept X w w') (hX : ∀ g, X g → B ≤ g) (hB : B ≤ w.heap.size) : Below B w w' :=
  ⟨h.os, h.tape, h.output, h.size, fun i hi => h.block i (by omega) (fun hx => by have := hX i hx; omega)⟩
theorem cell_of_blk {w : World} {g : Nat} {cs : Array Value} {t : TypeId} (h : w.heap[g]? = some (.cells cs t)) (o : Nat) : w.cell? ⟨g, o, none⟩ = cs[o]? := by
  simp [World.cell?, h]
theorem Kept.cell {X : Nat → Prop} {w w' : World} (h : Kept X w w') {g o : Nat} (hg : g < w.heap.size) (hx : ¬ X g) : w'.cell? ⟨g, o, none⟩ = w.cell? ⟨g, o, none⟩ := by
  unfold World.cell?
  rw [show (⟨g, o, none⟩ : Addr).block = g from rfl, h.block g hg hx]
theorem Kept.refl (X : Nat → Prop) (w : World) : Kept X w w := ⟨rfl, rfl, rfl, Nat.le_refl _, fun _ _ _ => rfl⟩
theorem Kept.drewN {X : Nat → Prop} {w w' : World} (h : Kept X w w') (q : Nat) : Kept X w (w'.drewN q) := ⟨h.os, h.tape, h.output, h.size, h.block⟩
theorem Kept.step {X X' : Nat → Prop} {w w1 w2 : World} (h : Kept X w w1) (h' : Kept X' w1 w2) (hX : ∀ k, X' k → X k ∨ w.heap.size ≤ k) : Kept X w w2 :=
  ⟨h'.os.trans h.os, h'.tape.trans h.tape, h'.output.trans h.output, Nat.le_trans h.size h'.size, fun g hg hx => (h'.block g (Nat.lt_of_lt_of_le hg h.size) (fun hx' => by
    rcases hX g hx' with q | q
    · exact hx q
    · omega)).trans (h.block g hg hx)⟩
theorem Kept.of_below {X : Nat → Prop} {w w' : World} (h : Below w.heap.size w w') : Kept X w w' := ⟨h.os, h.tape, h.output, h.size, fun g hg _ => h.block g hg⟩
theorem RdX.kept {w w' : World} {a : Option Addr} {n c : Nat} {cs : List Value} {X : Nat → Prop} (h : RdX w (.slice a n c) n cs) (hK : Kept X w w') (hx : ∀ g o, a = some ⟨g, o, none⟩ → ¬ X g) : RdX w' (.slice a n c) n cs := by
  rcases h with h | ⟨b, o, c', hv, hc, hlt, hcell⟩
  · exact .inl h
  · refine .inr ⟨b, o, c', hv, hc, Nat.lt_of_lt_of_le hlt hK.size, fun j x hj => ?_⟩
    cases hv
    exact (hK.cell hlt (hx b o rfl)).trans (hcell j x hj)
theorem set_heap (w : World) (g k : Nat) (cs : Array Value) (t : TypeId) (u : Value) (h : w.heap[g]? = some (.cells cs t)) : (w.setCell ⟨g, k, none⟩ u).heap[g]? = some (.cells (cs.setIfInBounds k u) t) := by
  have hl := lt_of_heap h
  have he : w.heap[g] = .cells cs t := by rw [Array.getElem?_eq_getElem hl] at h; exact Option.some.inj h
  simp [World.setCell, hl, Array.getElem_modify, he]
theorem set_other (w : World) {g k j : Nat} {u : Value} (h : j ≠ g) : (w.setCell ⟨g, k, none⟩ u).heap[j]? = w.heap[j]? := by
  simp [World.setCell, Array.getElem?_modify, Ne.symm h]
theorem set_size (w : World) (g k : Nat) (u : Value) : (w.setCell ⟨g, k, none⟩ u).heap.size = w.heap.size := by simp [World.setCell]
theorem Kept.set {X : Nat → Prop} {w w' : World} (h : Kept X w w') {g k : Nat} (hx : X g) (u : Value) : Kept X w (w'.setCell ⟨g, k, none⟩ u) :=
  ⟨h.os, h.tape, h.output, by rw [set_size]; exact h.size, fun j hj hn => (set_other w' (fun e => hn (by rw [e]; exact hx))).trans (h.block j hj hn)⟩
theorem wrapOk {n : Int} (h1 : -9223372036854775808 ≤ n) (h2 : n ≤ 9223372036854775807) : IntKind.i64.wrap n = n := by
  rw [IntKind.wrap_i64]; omega
theorem frozen_of_blk {w : World} {g : Nat} {cs : Array Value} {t : TypeId} (h : w.heap[g]? = some (.cells cs t)) (o : Nat) : w.frozen? ⟨g, o, none⟩ = false := by
  simp [World.frozen?, h]
theorem ret_two {a b : Value} {p q : Int} (h1 : a = .int .i64 p) (h2 : b = .int .i64 q) : Ending.returned (.tuple #[a, b]) = .returned (.tuple #[.int .i64 p, .int .i64 q]) := by rw [h1, h2]
theorem still_of_quiet {P : Program} {ops : Array Oper} {w1 : World} {Q : Act → Prop} : ∀ (l : List Oper) (a : Act), wpQuiet P ops (fun w' => w' = w1) Q l a → wpStill P ops w1 Q l a
  | [], _, h => h
  | o :: rest, a, h => by
    unfold wpQuiet at h
    unfold wpStill
    split
    · next hw =>
      rw [if_pos hw] at h
      obtain ⟨v, h1, h2⟩ := h
      have h3 := h1 w1 rfl
      have h4 := still_of_quiet rest _ h2
      unfold Oper.quietAt at h3
      unfold Oper.still
      generalize (execOp a.eval o).run P w1 = r at h3 ⊢
      unfold Oper.quietUpon at h3
      unfold Oper.stillUpon
      split at h3
      · obtain ⟨e1, e2⟩ := h3
        subst e2
        exact ⟨e1, h4⟩
      · obtain ⟨e1, e2⟩ := h3
        subst e2
        exact ⟨e1, h4⟩
      · obtain ⟨e1, e2⟩ := h3
        exact ⟨e1, v, e2, h4⟩
      · exact h3.elim
    · next hw =>
      rw [if_neg hw] at h
      exact still_of_quiet rest _ h
theorem wp_region_qtail {P : Program} {id : Nat} {Q : Exit → Act → World → Prop} {a : Act} {w : World} {l : List Oper} (n : Nat) (hm : P.follows .mixedOrders = true) (hB : Region.lexTailB .any l.toArray n = true)
    (h : wpQuiet P l.toArray (fun w' => w' = w.drewN 1) (fun a' => wpList P l.toArray Q (l.drop n) a' (w.drewN 1)) (l.take n) a) : (Code.region id l.toArray true).wp P Q a w :=
  wp_region_still_tail n hm hB (still_of_quiet _ _ h)
/-- what an argument's row is -/
def ArgS (v : Value) : Prop := v = .slice none 0 0 ∨ ∃ ad n c, v = .slice (some ad) n c
/-- a part of a row, one cell an element -/
theorem rd_part {w : World} {a : Option Addr} {n c : Nat} {cs : List Value} (h : RdX w (.slice a n c) n cs) {x y : Nat} (hxy : x ≤ y) (hy : y ≤ n) :
    RdX w (.slice (if c = x then a else a.map (·.add x)) (y - x) (c - x)) (y - x) ((cs.drop x).take (y - x)) := by
  rcases Nat.eq_or_lt_of_le hxy with rfl | hlt
  · rw [Nat.sub_self]
    exact .inl ⟨rfl, _, _, rfl⟩
  · rcases h with ⟨hn, _⟩ | ⟨b, o, c', hv, hc, hb, hX⟩
    · omega
    · cases hv
      rw [if_neg (by omega)]
      refine .inr ⟨b, o + x, c - x, ?_, by omega, hb, fun j u hj => ?_⟩
      · show Value.slice (some ((⟨b, o, none⟩ : Addr).add x)) _ _ = _
        rw [Go.WideShapes.add_plain]
      · have hj' : cs[x + j]? = some u := by
          rw [List.getElem?_take] at hj
          split at hj
          · rw [List.getElem?_drop] at hj; exact hj
          · cases hj
        have := hX (x + j) u hj'
        rw [Nat.add_assoc]; exact this
/-- rows of marks -/
def bsC (l : List Bool) : List Value := l.map fun v => .bool v
theorem bsC_length (l : List Bool) : (bsC l).length = l.length := List.length_map _
abbrev RdB (w : World) (v : Value) (l : List Bool) : Prop := RdX w v l.length (bsC l)
theorem rdB_at {w : World} {a : Option Addr} {n c : Nat} {l : List Bool} (h : RdB w (.slice a n c) l) {k : Nat} {x : Bool} (hk : l[k]? = some x) :
    ∃ b o, a = some ⟨b, o, none⟩ ∧ b < w.heap.size ∧ w.cell? ⟨b, o + k, none⟩ = some (.bool x) := by
  rcases h with ⟨hn, _⟩ | ⟨b, o, c', hv, _, hb, hX⟩
  · rw [List.length_eq_zero_iff.1 hn] at hk; simp at hk
  · cases hv
    exact ⟨b, o, rfl, hb, hX k _ (by unfold bsC; rw [List.getElem?_map, hk]; rfl)⟩
theorem rdI_part {w : World} {a : Option Addr} {n c : Nat} {l : List Int} (h : RdI w (.slice a n c) l) (hn : n = l.length) {x y : Nat} (hxy : x ≤ y) (hy : y ≤ l.length) :
    RdI w (.slice (if c = x then a else a.map (·.add x)) (y - x) (c - x)) ((l.drop x).take (y - x)) := by
  subst hn
  have := rd_part h hxy hy
  have hl : ((l.drop x).take (y - x)).length = y - x := by rw [List.length_take, List.length_drop]; omega
  show RdX _ _ _ _
  rw [hl]
  have e : isC ((l.drop x).take (y - x)) = ((isC l).drop x).take (y - x) := by unfold isC; rw [List.map_take, List.map_drop]
  rw [e]; exact this
theorem rdB_part {w : World} {a : Option Addr} {n c : Nat} {l : List Bool} (h : RdB w (.slice a n c) l) (hn : n = l.length) {x : Nat} (hx : x ≤ l.length) :
    RdB w (.slice (if c = x then a else a.map (·.add x)) (l.length - x) (c - x)) (l.drop x) := by
  subst hn
  have := rd_part h hx (Nat.le_refl _)
  have hl : (l.drop x).length = l.length - x := List.length_drop
  show RdX _ _ _ _
  rw [hl]
  have e : bsC (l.drop x) = ((bsC l).drop x).take (l.length - x) := by
    unfold bsC
    rw [List.map_drop, List.take_of_length_le]
    rw [List.length_drop, List.length_map]; omega
  rw [e]; exact this
theorem rd_cap {w : World} {a : Option Addr} {n c : Nat} {cs : List Value} (h : RdX w (.slice a n c) n cs) : n ≤ c := by
  rcases h with ⟨hn, _⟩ | ⟨b, o, c', hv, hc, _⟩
  · omega
  · cases hv; exact hc
end Go.Proofs.Ytdilmgcdebobaaa
