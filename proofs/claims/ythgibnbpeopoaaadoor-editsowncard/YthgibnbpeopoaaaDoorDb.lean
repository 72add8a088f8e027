/-
  Rows of the call's own that are written over: what stays.
-/
import Derived.Test.YthgibnbpeopoaaaDoorD7
namespace Go.Proofs.YthgibnbpeopoaaaDoor
open Go.RowKit
open Ed (Ch Run Pr)

/-- n elements of so many cells that may be written -/
def Wt (sz : Nat) (t : TypeId) (w : World) (a : Option Addr) (n : Nat) : Prop := n = 0 ∨ ∃ g cur, a = some ⟨g, 0, none⟩ ∧ w.heap[g]? = some (.cells cur t) ∧ n * sz ≤ cur.size
theorem wt_own {w : World} {B n c : Nat} {t : TypeId} {sz : Nat} {a : Option Addr} {xs : List Value} (h : w.ownsRow B t sz (.slice a n c) n xs) : Wt sz t w a n := by
  rcases h.2 with ⟨hv, hn⟩ | ⟨g, cap, cur, hv, hg, hh, hc, _, hsz, _⟩
  · exact .inl hn
  · cases hv
    refine .inr ⟨g, cur, rfl, hh, ?_⟩
    rw [hsz]
    exact Nat.mul_le_mul_right _ hc
theorem own_at {w : World} {B n c : Nat} {t : TypeId} {sz : Nat} {a : Option Addr} {xs : List Value} (h : w.ownsRow B t sz (.slice a n c) n xs) {g o : Nat} (ha : a = some ⟨g, o, none⟩) : B ≤ g ∧ g < w.heap.size := by
  rcases h.2 with ⟨hv, hn⟩ | ⟨g', cap, cur, hv, hg, hh, _⟩
  · cases hv; cases ha
  · cases hv; cases ha; exact ⟨hg, lt_of_heap hh⟩
theorem Wt.kept {sz : Nat} {t : TypeId} {w w' : World} {a : Option Addr} {n : Nat} {X : Nat → Prop} (h : Wt sz t w a n) (hK : Kept X w w') (hx : ∀ g, a = some ⟨g, 0, none⟩ → ¬ X g) : Wt sz t w' a n := by
  rcases h with h | ⟨g, cur, ha, hh, hs⟩
  · exact .inl h
  · exact .inr ⟨g, cur, ha, (hK.block g (lt_of_heap hh) (hx g ha)).trans hh, hs⟩
theorem RdX.kept {w w' : World} {a : Option Addr} {n c : Nat} {cs : List Value} {X : Nat → Prop} (h : RdX w (.slice a n c) n cs) (hK : Kept X w w') (hx : ∀ g o, a = some ⟨g, o, none⟩ → ¬ X g) : RdX w' (.slice a n c) n cs := by
  rcases h with h | ⟨b, o, c', hv, hc, hlt, hcell⟩
  · exact .inl h
  · refine .inr ⟨b, o, c', hv, hc, Nat.lt_of_lt_of_le hlt hK.size, fun j x hj => ?_⟩
    cases hv
    exact (hK.cell hlt (hx b o rfl)).trans (hcell j x hj)
theorem Kept.refl (X : Nat → Prop) (w : World) : Kept X w w := ⟨rfl, rfl, rfl, Nat.le_refl _, fun _ _ _ => rfl⟩
theorem Kept.set {X : Nat → Prop} {w w' : World} (h : Kept X w w') {g k : Nat} (hx : X g) (u : Value) : Kept X w (w'.setCell ⟨g, k, none⟩ u) :=
  ⟨h.os, h.tape, h.output, by rw [set_size]; exact h.size, fun j hj hn => (set_other w' (fun e => hn (by rw [e]; exact hx))).trans (h.block j hj hn)⟩
theorem Wt.set {sz : Nat} {t : TypeId} {w : World} {g n : Nat} (h : Wt sz t w (some ⟨g, 0, none⟩) n) (k : Nat) (u : Value) : Wt sz t (w.setCell ⟨g, k, none⟩ u) (some ⟨g, 0, none⟩) n := by
  rcases h with h | ⟨g', cur, ha, hh, hs⟩
  · exact .inl h
  · cases ha
    refine .inr ⟨g, _, rfl, set_heap w g k _ _ u hh, ?_⟩
    simpa using hs
theorem Kept.below' {X : Nat → Prop} {w w' : World} (h : Kept X w w') {B : Nat} {w0 : World} (hb : Below B w0 w) (hX : ∀ g, X g → B ≤ g) (hB : B ≤ w0.heap.size) : Below B w0 w' :=
  hb.trans (h.below hX (Nat.le_trans hB hb.size))
end Go.Proofs.YthgibnbpeopoaaaDoor
