/-
  A row of changes of the call's own that is written over.
-/
import Derived.Test.YtpedbnghhmnjjaaT4
namespace Go.Proofs.Ytpedbnghhmnjjaa
open Go.RowKit
open Ed (Ch Run Pr)

theorem csC_set (l : List Ch) (k : Nat) (c : Ch) (hk : k < l.length) : ((((csC l).set (k * 4) (.int .i64 c.a)).set (k * 4 + 1) (.int .i64 c.n)).set (k * 4 + 2) (.int .i64 c.b)).set (k * 4 + 3) (.int .i64 c.m) = csC (l.set k c) := by
  induction l generalizing k with
  | nil => simp at hk
  | cons x l ih =>
    cases k with
    | zero => rfl
    | succ k =>
      have ih' := ih k (by simpa using hk)
      rw [List.set_cons_succ]
      show (((((cC x ++ csC l).set ((k + 1) * 4) _).set ((k + 1) * 4 + 1) _).set ((k + 1) * 4 + 2) _).set ((k + 1) * 4 + 3) _) = cC x ++ csC (l.set k c)
      rw [← ih']
      have e : ∀ (j : Nat) (y : List Value) (u : Value), (cC x ++ y).set ((k + 1) * 4 + j) u = cC x ++ y.set (k * 4 + j) u := fun j y u => by
        rw [List.set_append, if_neg (by show ¬ (k + 1) * 4 + j < 4; omega)]
        congr 2
        show (k + 1) * 4 + j - 4 = k * 4 + j
        omega
      have e0 : ∀ (y : List Value) (u : Value), (cC x ++ y).set ((k + 1) * 4) u = cC x ++ y.set (k * 4) u := fun y u => e 0 y u
      rw [e0, e, e, e]
/-- an element of a row of changes written over -/
def set4 (w : World) (g k : Nat) (c : Ch) : World := (((w.setCell ⟨g, k * 4, none⟩ (.int .i64 c.a)).setCell ⟨g, k * 4 + 1, none⟩ (.int .i64 c.n)).setCell ⟨g, k * 4 + 2, none⟩ (.int .i64 c.b)).setCell ⟨g, k * 4 + 3, none⟩ (.int .i64 c.m)
theorem own_setC {w : World} {B g n c k : Nat} {l : List Ch} (h : w.ownsRow B 35 4 (.slice (some ⟨g, 0, none⟩) n c) n (csC l)) (z : Ch) (hk : k < l.length) : (set4 w g k z).ownsRow B 35 4 (.slice (some ⟨g, 0, none⟩) n c) n (csC (l.set k z)) := by
  obtain ⟨h1, h2⟩ := h
  rcases h2 with ⟨hv, _⟩ | ⟨g', cap, cur, hv, hg, hh, hc, hm, hsz, ht⟩
  · cases hv
  · cases hv
    refine ⟨by rw [csC_length, List.length_set, ← csC_length]; exact h1, .inr ⟨g, c, _, rfl, hg, set_heap _ g (k * 4 + 3) _ _ _ (set_heap _ g (k * 4 + 2) _ _ _ (set_heap _ g (k * 4 + 1) _ _ _ (set_heap _ g (k * 4) _ _ _ hh))), hc, hm, by simpa using hsz, ?_⟩⟩
    rw [← csC_set l k z hk, ← ht]
    simp only [Array.toList_setIfInBounds, List.take_set]
theorem own_some {w : World} {B n c : Nat} {t : TypeId} {sz : Nat} {a : Option Addr} {xs : List Value} (h : w.ownsRow B t sz (.slice a n c) n xs) (hn : 0 < n) : ∃ g, a = some ⟨g, 0, none⟩ := by
  rcases h.2 with ⟨hv, h0⟩ | ⟨g, cap, cur, hv, _⟩
  · omega
  · cases hv; exact ⟨g, rfl⟩
theorem own_at {w : World} {B n c : Nat} {t : TypeId} {sz : Nat} {a : Option Addr} {xs : List Value} (h : w.ownsRow B t sz (.slice a n c) n xs) {g o : Nat} (ha : a = some ⟨g, o, none⟩) : B ≤ g ∧ g < w.heap.size := by
  rcases h.2 with ⟨hv, hn⟩ | ⟨g', cap, cur, hv, hg, hh, _⟩
  · cases hv; cases ha
  · cases hv; cases ha; exact ⟨hg, lt_of_heap hh⟩
theorem own_frozen {w : World} {B n c g : Nat} {t : TypeId} {sz : Nat} {xs : List Value} (h : w.ownsRow B t sz (.slice (some ⟨g, 0, none⟩) n c) n xs) (o : Nat) : w.frozen? ⟨g, o, none⟩ = false := by
  rcases h.2 with ⟨hv, hn⟩ | ⟨g', cap, cur, hv, hg, hh, _⟩
  · cases hv
  · cases hv; exact frozen_of_blk hh o
theorem kept_of_grown' {w w' : World} {ob : Option Nat} (h : w.grownBy w' ob) : Kept (fun j => ob = some j) w w' :=
  ⟨h.os, h.tape, h.output, h.size, fun i hi hx => h.block i hi (fun e => hx e.symm)⟩
theorem Kept.mono {X Y : Nat → Prop} {w w' : World} (h : Kept X w w') (hX : ∀ g, X g → Y g) : Kept Y w w' := ⟨h.os, h.tape, h.output, h.size, fun g hg hy => h.block g hg (fun hx => hy (hX g hx))⟩
theorem Kept.set4 {X : Nat → Prop} {w w' : World} (h : Kept X w w') {g k : Nat} (hx : X g) (c : Ch) : Kept X w (set4 w' g k c) := (((h.set hx _).set hx _).set hx _).set hx _
/-- the first so many written over -/
def ovr (z : Ch) (S : List Ch) (k : Nat) : List Ch := List.replicate k z ++ S.drop k
theorem ovr_len (z : Ch) {S : List Ch} {k : Nat} (h : k ≤ S.length) : (ovr z S k).length = S.length := by unfold ovr; simp; omega
theorem ovr_get (z : Ch) (S : List Ch) (k : Nat) : (ovr z S k)[k]? = S[k]? := by
  unfold ovr
  rw [List.getElem?_append_right (by simp), List.length_replicate, Nat.sub_self, List.getElem?_drop, Nat.add_zero]
theorem ovr_set (z : Ch) {S : List Ch} {k : Nat} (h : k < S.length) : (ovr z S k).set k z = ovr z S (k + 1) := by
  unfold ovr
  rw [List.set_append, if_neg (by simp), List.length_replicate, Nat.sub_self, List.drop_eq_getElem_cons h, List.set_cons_zero, List.replicate_succ', List.append_assoc]
  rfl
end Go.Proofs.Ytpedbnghhmnjjaa
