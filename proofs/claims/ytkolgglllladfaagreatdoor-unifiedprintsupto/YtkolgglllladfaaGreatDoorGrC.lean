/-
  Several texts in one: C0, C1, C2, J2, C9.
-/
import Derived.Test.YtkolgglllladfaaGreatDoorRows
import Derived.Test.YtkolgglllladfaaGreatDoorGrPl
import Derived.WalkKit
import Derived.WalkSpells
import Derived.WalkLawsBesides
import Derived.Deep.QuietTactic
import Derived.BigQuiet
import Derived.Deep.AppendLies
import Derived.ProofKit
import Derived.OpenShut
import Derived.SizedLaws
import Derived.Deep.Slices
/-
  What the walks of edit scripts lean on: worlds, rows of cells, changes, pairs and numbers as cells.
-/
namespace Go.Proofs.YtkolgglllladfaaGreatDoor
open Go.RowKit
open Ed (Ch Run Pr)

theorem hid {p : Prop} (h : p) : Hid p := h
theorem ieq {n : Nat} {m : Int} (h : (n : Int) = m) : ((n : Int) == m) = true := beq_iff_eq.2 h
theorem ine {n : Nat} {m : Int} (h : (n : Int) ≠ m) : ((n : Int) == m) = false := beq_eq_false_iff_ne.2 h
theorem zeq {n m : Int} (h : n = m) : (n == m) = true := beq_iff_eq.2 h
theorem zne {n m : Int} (h : n ≠ m) : (n == m) = false := beq_eq_false_iff_ne.2 h
theorem lt_of_heap {w : World} {g : Nat} {o : Obj} (h : w.heap[g]? = some o) : g < w.heap.size := by
  rcases Nat.lt_or_ge g w.heap.size with k | k
  · exact k
  · rw [Array.getElem?_eq_none k] at h; cases h
theorem lt_of_cell {w : World} {b o : Nat} {v : Value} (h : w.cell? ⟨b, o, none⟩ = some v) : b < w.heap.size := World.block_lt_of_cell? w ⟨b, o, none⟩ h
theorem below_drewN {B : Nat} {a w : World} (h : Below B a w) (m : Nat) : Below B a (w.drewN m) := ⟨h.os, h.tape, h.output, h.size, h.block⟩
/-- an error by its number; 0: none -/
def errV (n : Nat) : Value := if n = 0 then .nilIface else .iface 42 (.int .i64 n)
theorem errV_zero : errV 0 = .nilIface := rfl
theorem ret1 {a b : Value} (h : a = b) : Ending.returned a = .returned b := by rw [h]
theorem ret_bool {a b : Bool} (h : a = b) : Ending.returned (.bool a) = .returned (.bool b) := by rw [h]
theorem own_ge {w : World} {base n : Nat} {e : TypeId} {size : Nat} {v : Value} {xs : List Value} (h : w.ownsRow base e size v n xs) : ∀ k, v.ownBlock = some k → base ≤ k := by
  intro k hk
  rcases h.2 with ⟨hv, _⟩ | ⟨g, cap, cur, hv, hg, _⟩
  · subst hv; cases hk
  · subst hv; cases hk; exact hg
theorem own_lt {w : World} {base n : Nat} {e : TypeId} {size : Nat} {v : Value} {xs : List Value} (h : w.ownsRow base e size v n xs) : ∀ k, v.ownBlock = some k → k < w.heap.size := by
  intro k hk
  rcases h.2 with ⟨hv, _⟩ | ⟨g, cap, cur, hv, hg, hh, _⟩
  · subst hv; cases hk
  · subst hv; cases hk; exact lt_of_heap hh
theorem own_shape {w : World} {base n : Nat} {e : TypeId} {size : Nat} {v : Value} {xs : List Value} (h : w.ownsRow base e size v n xs) : ∃ a c, v = .slice a n c := by
  rcases h.2 with ⟨hv, hn⟩ | ⟨g, cap, cur, hv, _⟩
  · exact ⟨_, _, by rw [hv, hn]⟩
  · exact ⟨_, _, hv⟩
theorem own_far {w w' : World} {base n : Nat} {e : TypeId} {size : Nat} {v : Value} {xs : List Value} (h : w.ownsRow base e size v n xs) (hb : ∀ g, v.ownBlock = some g → w'.heap[g]? = w.heap[g]?) : w'.ownsRow base e size v n xs := by
  refine ⟨h.1, ?_⟩
  rcases h.2 with h | ⟨g, cap, cur, hv, hg, hh, r⟩
  · exact .inl h
  · exact .inr ⟨g, cap, cur, hv, hg, (hb g (by rw [hv]; rfl)).trans hh, r⟩
theorem own_stays {w w' : World} {base n : Nat} {e : TypeId} {size : Nat} {v : Value} {xs : List Value} (h : w.ownsRow base e size v n xs) (hb : Below w.heap.size w w') : w'.ownsRow base e size v n xs :=
  own_far h fun g hg => hb.block g (own_lt h g hg)
theorem own_mono {w : World} {base base' n : Nat} {e : TypeId} {size : Nat} {v : Value} {xs : List Value} (h : w.ownsRow base e size v n xs) (hb : base' ≤ base) : w.ownsRow base' e size v n xs := by
  refine ⟨h.1, ?_⟩
  rcases h.2 with h | ⟨g, cap, cur, hv, hg, r⟩
  · exact .inl h
  · exact .inr ⟨g, cap, cur, hv, Nat.le_trans hb hg, r⟩

/-! ### cells -/
def cC (c : Ch) : List Value := [.int .i64 c.a, .int .i64 c.n, .int .i64 c.b, .int .i64 c.m]
def csC (l : List Ch) : List Value := l.flatMap cC
def pC (p : Pr) : List Value := [.int .i64 p.1, .int .i64 p.2]
def psC (l : List Pr) : List Value := l.flatMap pC
def rC (r : Run) : List Value := [.int .i64 r.1, .int .i64 r.2.1, .int .i64 r.2.2]
def rsC (l : List Run) : List Value := l.flatMap rC
def isC (l : List Int) : List Value := l.map fun n => .int .i64 n
theorem csC_length (l : List Ch) : (csC l).length = l.length * 4 := by
  induction l with
  | nil => rfl
  | cons c l ih => show (cC c ++ csC l).length = _; rw [List.length_append, ih, List.length_cons]; show 4 + _ = _; omega
theorem psC_length (l : List Pr) : (psC l).length = l.length * 2 := by
  induction l with
  | nil => rfl
  | cons c l ih => show (pC c ++ psC l).length = _; rw [List.length_append, ih, List.length_cons]; show 2 + _ = _; omega
theorem rsC_length (l : List Run) : (rsC l).length = l.length * 3 := by
  induction l with
  | nil => rfl
  | cons c l ih => show (rC c ++ rsC l).length = _; rw [List.length_append, ih, List.length_cons]; show 3 + _ = _; omega
theorem isC_length (l : List Int) : (isC l).length = l.length := List.length_map _
theorem flat_get {α : Type} (f : α → List Value) (sz : Nat) (hf : ∀ x, (f x).length = sz) : ∀ (l : List α) (k i : Nat) (x : α), l[k]? = some x → i < sz → (l.flatMap f)[k * sz + i]? = (f x)[i]?
  | [], k, i, x, h, _ => by simp at h
  | y :: l, 0, i, x, h, hi => by
    simp at h
    subst h
    rw [List.flatMap_cons, Nat.zero_mul, Nat.zero_add, List.getElem?_append_left (by rw [hf]; exact hi)]
  | y :: l, k + 1, i, x, h, hi => by
    rw [List.getElem?_cons_succ] at h
    rw [List.flatMap_cons, List.getElem?_append_right (by rw [hf, Nat.add_mul, Nat.one_mul]; omega), hf, show (k + 1) * sz + i - sz = k * sz + i by rw [Nat.add_mul, Nat.one_mul]; omega]
    exact flat_get f sz hf l k i x h hi
theorem csC_get {l : List Ch} {k : Nat} {c : Ch} (h : l[k]? = some c) (i : Nat) (hi : i < 4) : (csC l)[k * 4 + i]? = (cC c)[i]? := flat_get cC 4 (fun _ => rfl) l k i c h hi
theorem psC_get {l : List Pr} {k : Nat} {c : Pr} (h : l[k]? = some c) (i : Nat) (hi : i < 2) : (psC l)[k * 2 + i]? = (pC c)[i]? := flat_get pC 2 (fun _ => rfl) l k i c h hi
theorem rsC_get {l : List Run} {k : Nat} {c : Run} (h : l[k]? = some c) (i : Nat) (hi : i < 3) : (rsC l)[k * 3 + i]? = (rC c)[i]? := flat_get rC 3 (fun _ => rfl) l k i c h hi
theorem isC_get {l : List Int} {k : Nat} {c : Int} (h : l[k]? = some c) : (isC l)[k]? = some (.int .i64 c) := by unfold isC; rw [List.getElem?_map, h]; rfl
theorem csC_append (l m : List Ch) : csC (l ++ m) = csC l ++ csC m := List.flatMap_append
theorem psC_append (l m : List Pr) : psC (l ++ m) = psC l ++ psC m := List.flatMap_append
theorem rsC_append (l m : List Run) : rsC (l ++ m) = rsC l ++ rsC m := List.flatMap_append
theorem isC_append (l m : List Int) : isC (l ++ m) = isC l ++ isC m := List.map_append
theorem csC_one (l : List Ch) : ∀ u ∈ csC l, u.oneCell' = true := by
  intro u hu
  obtain ⟨c, _, hc⟩ := List.mem_flatMap.1 hu
  unfold cC at hc
  simp at hc
  rcases hc with rfl | rfl | rfl | rfl <;> rfl
theorem psC_one (l : List Pr) : ∀ u ∈ psC l, u.oneCell' = true := by
  intro u hu
  obtain ⟨c, _, hc⟩ := List.mem_flatMap.1 hu
  unfold pC at hc
  simp at hc
  rcases hc with rfl | rfl <;> rfl
theorem rsC_one (l : List Run) : ∀ u ∈ rsC l, u.oneCell' = true := by
  intro u hu
  obtain ⟨c, _, hc⟩ := List.mem_flatMap.1 hu
  unfold rC at hc
  simp at hc
  rcases hc with rfl | rfl | rfl <;> rfl
theorem isC_one (l : List Int) : ∀ u ∈ isC l, u.oneCell' = true := by
  intro u hu
  obtain ⟨x, _, rfl⟩ := List.mem_map.1 hu
  rfl

/-! ### rows that are read -/
/-- the slice v, of n elements, reads as these cells -/
def RdX (w : World) (v : Value) (n : Nat) (cs : List Value) : Prop :=
  (n = 0 ∧ ∃ a c, v = .slice a 0 c) ∨
  (∃ b o c, v = .slice (some ⟨b, o, none⟩) n c ∧ n ≤ c ∧ b < w.heap.size ∧ ∀ (j : Nat) u, cs[j]? = some u → w.cell? ⟨b, o + j, none⟩ = some u)
theorem RdX.shape {w : World} {v : Value} {n : Nat} {cs : List Value} (h : RdX w v n cs) : ∃ a c, v = .slice a n c := by
  rcases h with ⟨rfl, a, c, rfl⟩ | ⟨b, o, c, rfl, _⟩
  · exact ⟨_, _, rfl⟩
  · exact ⟨_, _, rfl⟩
/-- its block lies below B -/
def Under (B : Nat) (v : Value) : Prop := ∀ b o n c, v = .slice (some ⟨b, o, none⟩) n c → 0 < n → b < B
theorem RdX.under {w : World} {v : Value} {n : Nat} {cs : List Value} (h : RdX w v n cs) : Under w.heap.size v := by
  intro b o m c hv hm
  rcases h with ⟨rfl, a, c', rfl⟩ | ⟨b', o', c', rfl, _, hb, _⟩
  · cases hv; omega
  · cases hv; exact hb
theorem Under.mono {B B' : Nat} {v : Value} (h : Under B v) (hb : B ≤ B') : Under B' v := fun b o n c hv hn => Nat.lt_of_lt_of_le (h b o n c hv hn) hb
theorem RdX.keep {w w' : World} {v : Value} {n : Nat} {cs : List Value} {B : Nat} (h : RdX w v n cs) (hu : Under B v) (hb : Below B w w') : RdX w' v n cs := by
  rcases h with h | ⟨b, o, c, hv, hc, hlt, hcell⟩
  · exact .inl h
  · rcases Nat.eq_zero_or_pos n with rfl | hn
    · exact .inl ⟨rfl, _, _, hv⟩
    · have hB := hu b o n c hv hn
      exact .inr ⟨b, o, c, hv, hc, Nat.lt_of_lt_of_le hlt hb.size, fun j x hj => (hb.cell (p := ⟨b, o + j, none⟩) hB).trans (hcell j x hj)⟩
theorem RdX.below {w w' : World} {v : Value} {n : Nat} {cs : List Value} (h : RdX w v n cs) (hb : Below w.heap.size w w') : RdX w' v n cs := h.keep h.under hb
theorem own_rd {w : World} {B n : Nat} {e : TypeId} {size : Nat} {v : Value} {xs : List Value} (h : w.ownsRow B e size v n xs) : RdX w v n xs := by
  have h' := h
  rcases h.2 with ⟨hv, hn⟩ | ⟨g, cap, cur, hv, hg, hh, hcp, _⟩
  · exact .inl ⟨hn, none, 0, hv⟩
  · subst hv
    refine .inr ⟨g, 0, cap, rfl, hcp, lt_of_heap hh, fun j u hj => ?_⟩
    have hjl : j < n * size := by
      rw [← h'.1]
      rcases Nat.lt_or_ge j xs.length with k | k
      · exact k
      · rw [List.getElem?_eq_none k] at hj; cases hj
    rw [Nat.zero_add, World.ownsRow.cellAt h' j hjl, hj]
abbrev RdC (w : World) (v : Value) (l : List Ch) : Prop := RdX w v l.length (csC l)
abbrev RdP (w : World) (v : Value) (l : List Pr) : Prop := RdX w v l.length (psC l)
abbrev RdI (w : World) (v : Value) (l : List Int) : Prop := RdX w v l.length (isC l)
abbrev RdR (w : World) (v : Value) (l : List Run) : Prop := RdX w v l.length (rsC l)
theorem rdC_at {w : World} {a : Option Addr} {n c : Nat} {l : List Ch} (h : RdC w (.slice a n c) l) {k : Nat} {x : Ch} (hk : l[k]? = some x) :
    ∃ b o, a = some ⟨b, o, none⟩ ∧ b < w.heap.size ∧ w.cell? ⟨b, o + k * 4, none⟩ = some (.int .i64 x.a) ∧ w.cell? ⟨b, o + k * 4 + 1, none⟩ = some (.int .i64 x.n) ∧ w.cell? ⟨b, o + k * 4 + 2, none⟩ = some (.int .i64 x.b) ∧ w.cell? ⟨b, o + k * 4 + 3, none⟩ = some (.int .i64 x.m) := by
  rcases h with ⟨hn, _⟩ | ⟨b, o, c', hv, _, hb, hX⟩
  · rw [List.length_eq_zero_iff.1 hn] at hk; simp at hk
  · cases hv
    refine ⟨b, o, rfl, hb, ?_, ?_, ?_, ?_⟩
    · exact hX (k * 4) _ (csC_get hk 0 (by omega))
    · rw [Nat.add_assoc]; exact hX (k * 4 + 1) _ (csC_get hk 1 (by omega))
    · rw [Nat.add_assoc]; exact hX (k * 4 + 2) _ (csC_get hk 2 (by omega))
    · rw [Nat.add_assoc]; exact hX (k * 4 + 3) _ (csC_get hk 3 (by omega))
theorem rdP_at {w : World} {a : Option Addr} {n c : Nat} {l : List Pr} (h : RdP w (.slice a n c) l) {k : Nat} {x : Pr} (hk : l[k]? = some x) :
    ∃ b o, a = some ⟨b, o, none⟩ ∧ b < w.heap.size ∧ w.cell? ⟨b, o + k * 2, none⟩ = some (.int .i64 x.1) ∧ w.cell? ⟨b, o + k * 2 + 1, none⟩ = some (.int .i64 x.2) := by
  rcases h with ⟨hn, _⟩ | ⟨b, o, c', hv, _, hb, hX⟩
  · rw [List.length_eq_zero_iff.1 hn] at hk; simp at hk
  · cases hv
    refine ⟨b, o, rfl, hb, ?_, ?_⟩
    · exact hX (k * 2) _ (psC_get hk 0 (by omega))
    · rw [Nat.add_assoc]; exact hX (k * 2 + 1) _ (psC_get hk 1 (by omega))
theorem rdR_at {w : World} {a : Option Addr} {n c : Nat} {l : List Run} (h : RdR w (.slice a n c) l) {k : Nat} {x : Run} (hk : l[k]? = some x) :
    ∃ b o, a = some ⟨b, o, none⟩ ∧ b < w.heap.size ∧ w.cell? ⟨b, o + k * 3, none⟩ = some (.int .i64 x.1) ∧ w.cell? ⟨b, o + k * 3 + 1, none⟩ = some (.int .i64 x.2.1) ∧ w.cell? ⟨b, o + k * 3 + 2, none⟩ = some (.int .i64 x.2.2) := by
  rcases h with ⟨hn, _⟩ | ⟨b, o, c', hv, _, hb, hX⟩
  · rw [List.length_eq_zero_iff.1 hn] at hk; simp at hk
  · cases hv
    refine ⟨b, o, rfl, hb, ?_, ?_, ?_⟩
    · exact hX (k * 3) _ (rsC_get hk 0 (by omega))
    · rw [Nat.add_assoc]; exact hX (k * 3 + 1) _ (rsC_get hk 1 (by omega))
    · rw [Nat.add_assoc]; exact hX (k * 3 + 2) _ (rsC_get hk 2 (by omega))
theorem rdI_at {w : World} {a : Option Addr} {n c : Nat} {l : List Int} (h : RdI w (.slice a n c) l) {k : Nat} {x : Int} (hk : l[k]? = some x) :
    ∃ b o, a = some ⟨b, o, none⟩ ∧ b < w.heap.size ∧ w.cell? ⟨b, o + k, none⟩ = some (.int .i64 x) := by
  rcases h with ⟨hn, _⟩ | ⟨b, o, c', hv, _, hb, hX⟩
  · rw [List.length_eq_zero_iff.1 hn] at hk; simp at hk
  · cases hv
    exact ⟨b, o, rfl, hb, hX k _ (isC_get hk)⟩
/-- a number that an int may be -/
def I64 (n : Int) : Prop := -9223372036854775808 ≤ n ∧ n ≤ 9223372036854775807
def WfC (c : Ch) : Prop := I64 c.a ∧ I64 c.n ∧ I64 c.b ∧ I64 c.m
end Go.Proofs.YtkolgglllladfaaGreatDoor
/-
  The walks of isCount, isWithin, Valid.
-/
namespace Go.Proofs.YtkolgglllladfaaGreatDoor
open Go.RowKit
open Ed (Ch Run Pr)

theorem okC_split {a b n m : Int} {c : Ch} (h : ¬ Ed.okC a b n m c) : Ed.within c.a c.n a n = false ∨ (Ed.within c.a c.n a n = true ∧ Ed.within c.b c.m b m = false) ∨ (Ed.within c.a c.n a n = true ∧ Ed.within c.b c.m b m = true ∧ c.n = 0 ∧ c.m = 0) ∨
    (Ed.within c.a c.n a n = true ∧ Ed.within c.b c.m b m = true ∧ ¬(c.n = 0 ∧ c.m = 0) ∧ c.a - a ≠ c.b - b) := by
  cases h1 : Ed.within c.a c.n a n with
  | false => exact .inl rfl
  | true =>
    cases h2 : Ed.within c.b c.m b m with
    | false => exact .inr (.inl ⟨rfl, rfl⟩)
    | true =>
      by_cases h3 : c.n = 0 ∧ c.m = 0
      · exact .inr (.inr (.inl ⟨rfl, rfl, h3.1, h3.2⟩))
      · refine .inr (.inr (.inr ⟨rfl, rfl, h3, fun h4 => h ?_⟩))
        exact ⟨Ed.within_iff.1 h1, Ed.within_iff.1 h2, h3, h4⟩
theorem drop_at {α : Type} {l : List α} {k : Nat} {x : α} (h : l[k]? = some x) : l.drop k = x :: l.drop (k + 1) := by
  have hl : k < l.length := by
    rcases Nat.lt_or_ge k l.length with q | q
    · exact q
    · rw [List.getElem?_eq_none q] at h; cases h
  rw [List.drop_eq_getElem_cons hl]
  congr 1
  exact List.getElem_eq_iff hl |>.2 h

end Go.Proofs.YtkolgglllladfaaGreatDoor
/-
  The walk of eachRun: whatever the function does with each run, by what it keeps.
-/
namespace Go.Proofs.YtkolgglllladfaaGreatDoor
open Go.RowKit
open Ed (Ch Run Pr)

def rV (r : Run) : Value := .agg #[.int .i64 r.1, .int .i64 r.2.1, .int .i64 r.2.2]
/-- a run within two texts -/
def RunB (n m : Int) (r : Run) : Prop := 0 ≤ r.1 ∧ 0 ≤ r.2.1 ∧ 0 < r.2.2 ∧ r.1 + r.2.2 ≤ n ∧ r.2.1 + r.2.2 ≤ m
/-- of what was there only these blocks may have changed -/
structure Kept (X : Nat → Prop) (w w' : World) : Prop where
  os : w'.os = w.os
  tape : w'.tape = w.tape
  output : w'.output = w.output
  size : w.heap.size ≤ w'.heap.size
  block : ∀ g, g < w.heap.size → ¬ X g → w'.heap[g]? = w.heap[g]?
theorem Kept.below {X : Nat → Prop} {w w' : World} {B : Nat} (h : Kept X w w') (hX : ∀ g, X g → B ≤ g) (hB : B ≤ w.heap.size) : Below B w w' :=
  ⟨h.os, h.tape, h.output, h.size, fun i hi => h.block i (by omega) (fun hx => by have := hX i hx; omega)⟩
theorem cell_of_blk {w : World} {g : Nat} {cs : Array Value} {t : TypeId} (h : w.heap[g]? = some (.cells cs t)) (o : Nat) : w.cell? ⟨g, o, none⟩ = cs[o]? := by
  simp [World.cell?, h]
theorem Kept.cell {X : Nat → Prop} {w w' : World} (h : Kept X w w') {g o : Nat} (hg : g < w.heap.size) (hx : ¬ X g) : w'.cell? ⟨g, o, none⟩ = w.cell? ⟨g, o, none⟩ := by
  unfold World.cell?
  rw [show (⟨g, o, none⟩ : Addr).block = g from rfl, h.block g hg hx]

end Go.Proofs.YtkolgglllladfaaGreatDoor
/-
  Rows, hunks, lines in memory: read, of the call's own; append of one.
-/
namespace Go.Proofs.YtkolgglllladfaaGreatDoor
open Go.RowKit
open Hu (Rw Hk)

/-! ### lines -/
def stC (l : List ByteArray) : List Value := l.map Value.string
theorem stC_length (l : List ByteArray) : (stC l).length = l.length := List.length_map _
theorem stC_get {l : List ByteArray} {k : Nat} {x : ByteArray} (h : l[k]? = some x) : (stC l)[k]? = some (.string x) := by unfold stC; rw [List.getElem?_map, h]; rfl
theorem stC_append (l m : List ByteArray) : stC (l ++ m) = stC l ++ stC m := List.map_append
theorem stC_one (l : List ByteArray) : ∀ u ∈ stC l, u.oneCell' = true := by
  intro u hu
  obtain ⟨x, _, rfl⟩ := List.mem_map.1 hu
  rfl
abbrev RdT (w : World) (v : Value) (l : List ByteArray) : Prop := RdX w v l.length (stC l)
abbrev OwnT (w : World) (B : Nat) (v : Value) (l : List ByteArray) : Prop := w.ownsRow B 9 1 v l.length (stC l)
theorem rdT_at {w : World} {a : Option Addr} {n c : Nat} {l : List ByteArray} (h : RdT w (.slice a n c) l) {k : Nat} {x : ByteArray} (hk : l[k]? = some x) :
    ∃ b o, a = some ⟨b, o, none⟩ ∧ b < w.heap.size ∧ w.cell? ⟨b, o + k, none⟩ = some (.string x) := by
  rcases h with ⟨hn, _⟩ | ⟨b, o, c', hv, _, hb, hX⟩
  · rw [List.length_eq_zero_iff.1 hn] at hk; simp at hk
  · cases hv
    exact ⟨b, o, rfl, hb, hX k _ (stC_get hk)⟩
/-- a part of lines -/
theorem rdT_sliced {w : World} {a : Option Addr} {c : Nat} {l : List ByteArray} (h : RdT w (.slice a l.length c) l) {x y : Nat} (hxy : x ≤ y) (hy : y ≤ l.length) :
    RdT w (.slice (if c = x then a else a.map (·.add x)) (y - x) (c - x)) ((l.drop x).take (y - x)) := by
  have hlen : ((l.drop x).take (y - x)).length = y - x := by rw [List.length_take, List.length_drop]; omega
  show RdX _ _ _ _
  rw [hlen]
  rcases Nat.eq_or_lt_of_le hxy with rfl | hlt
  · rw [Nat.sub_self]
    exact .inl ⟨rfl, _, _, rfl⟩
  · rcases h with ⟨hn, _⟩ | ⟨b, o, c', hv, hc, hb, hX⟩
    · omega
    · cases hv
      rw [if_neg (by omega)]
      refine .inr ⟨b, o + x, c - x, ?_, by omega, hb, fun j u hj => ?_⟩
      · show Value.slice (some ((⟨b, o, none⟩ : Addr).add x)) _ _ = _
        rw [Go.WideShapes.add_plain]
      · have hj' : (stC l)[x + j]? = some u := by
          unfold stC at hj ⊢
          rw [List.getElem?_map] at hj ⊢
          rw [List.getElem?_take] at hj
          split at hj
          · rw [List.getElem?_drop] at hj; exact hj
          · cases hj
        have := hX (x + j) u hj'
        rw [Nat.add_assoc]; exact this
theorem rd_cap {w : World} {a : Option Addr} {n c : Nat} {cs : List Value} (h : RdX w (.slice a n c) n cs) : n ≤ c := by
  rcases h with ⟨h0, _⟩ | ⟨_, _, _, hv, hc, _⟩
  · omega
  · cases hv; exact hc

/-! ### rows -/
def rwC (r : Rw) : List Value := [.int .i64 r.k, .string r.t]
def rwsC (l : List Rw) : List Value := l.flatMap rwC
theorem rwsC_length (l : List Rw) : (rwsC l).length = l.length * 2 := by
  induction l with
  | nil => rfl
  | cons c l ih => show (rwC c ++ rwsC l).length = _; rw [List.length_append, ih, List.length_cons]; show 2 + _ = _; omega
theorem rwsC_get {l : List Rw} {k : Nat} {c : Rw} (h : l[k]? = some c) (i : Nat) (hi : i < 2) : (rwsC l)[k * 2 + i]? = (rwC c)[i]? := flat_get rwC 2 (fun _ => rfl) l k i c h hi
theorem rwsC_append (l m : List Rw) : rwsC (l ++ m) = rwsC l ++ rwsC m := List.flatMap_append
theorem rwsC_one (l : List Rw) : ∀ u ∈ rwsC l, u.oneCell' = true := by
  intro u hu
  obtain ⟨c, _, hc⟩ := List.mem_flatMap.1 hu
  unfold rwC at hc
  simp at hc
  rcases hc with rfl | rfl <;> rfl
abbrev RdW (w : World) (v : Value) (l : List Rw) : Prop := RdX w v l.length (rwsC l)
abbrev OwnW (w : World) (B : Nat) (v : Value) (l : List Rw) : Prop := w.ownsRow B 57 2 v l.length (rwsC l)
def RwV (r : Rw) : Value := .agg #[.int .i64 r.k, .string r.t]
theorem rdW_at {w : World} {a : Option Addr} {n c : Nat} {l : List Rw} (h : RdW w (.slice a n c) l) {k : Nat} {x : Rw} (hk : l[k]? = some x) :
    ∃ b o, a = some ⟨b, o, none⟩ ∧ b < w.heap.size ∧ w.cell? ⟨b, o + k * 2, none⟩ = some (.int .i64 x.k) ∧ w.cell? ⟨b, o + k * 2 + 1, none⟩ = some (.string x.t) := by
  rcases h with ⟨hn, _⟩ | ⟨b, o, c', hv, _, hb, hX⟩
  · rw [List.length_eq_zero_iff.1 hn] at hk; simp at hk
  · cases hv
    refine ⟨b, o, rfl, hb, ?_, ?_⟩
    · exact hX (k * 2) _ (rwsC_get hk 0 (by omega))
    · rw [Nat.add_assoc]; exact hX (k * 2 + 1) _ (rwsC_get hk 1 (by omega))
/-- a part of rows -/
theorem rdW_sliced {w : World} {a : Option Addr} {c : Nat} {l : List Rw} (h : RdW w (.slice a l.length c) l) {x y : Nat} (hxy : x ≤ y) (hy : y ≤ l.length) :
    RdW w (.slice (if c = x then a else a.map (·.add (x * 2))) (y - x) (c - x)) ((l.drop x).take (y - x)) := by
  have hlen : ((l.drop x).take (y - x)).length = y - x := by rw [List.length_take, List.length_drop]; omega
  show RdX _ _ _ _
  rw [hlen]
  rcases Nat.eq_or_lt_of_le hxy with rfl | hlt
  · rw [Nat.sub_self]
    exact .inl ⟨rfl, _, _, rfl⟩
  · rcases h with ⟨hn, _⟩ | ⟨b, o, c', hv, hc, hb, hX⟩
    · omega
    · cases hv
      rw [if_neg (by omega)]
      refine .inr ⟨b, o + x * 2, c - x, ?_, by omega, hb, fun j u hj => ?_⟩
      · show Value.slice (some ((⟨b, o, none⟩ : Addr).add (x * 2))) _ _ = _
        rw [Go.WideShapes.add_plain]
      · have hj' : (rwsC l)[x * 2 + j]? = some u := by
          have hjl : j < (rwsC ((l.drop x).take (y - x))).length := (List.getElem?_eq_some_iff.1 hj).1
          rw [rwsC_length, hlen] at hjl
          have hk : j / 2 < y - x := by omega
          obtain ⟨r, hr⟩ : ∃ r, l[x + j / 2]? = some r := ⟨_, List.getElem?_eq_getElem (by omega)⟩
          have h1 := rwsC_get hr (j % 2) (Nat.mod_lt _ (by omega))
          have h2 := rwsC_get (l := (l.drop x).take (y - x)) (k := j / 2) (c := r) (by rw [List.getElem?_take, if_pos hk, List.getElem?_drop]; exact hr) (j % 2) (Nat.mod_lt _ (by omega))
          rw [show j / 2 * 2 + j % 2 = j by omega] at h2
          rw [show (x + j / 2) * 2 + j % 2 = x * 2 + j by omega] at h1
          rw [h1, ← h2]
          exact hj
        have := hX (x * 2 + j) u hj'
        rw [Nat.add_assoc]; exact this

/-! ### hunks -/
def hkC (q : Hk × Value) : List Value := [.int .i64 q.1.a, .int .i64 q.1.n, .int .i64 q.1.b, .int .i64 q.1.m, .string q.1.head, q.2]
def hksC (p : List (Hk × Value)) : List Value := p.flatMap hkC
def HkV (h : Hk) (v : Value) : Value := .agg #[.int .i64 h.a, .int .i64 h.n, .int .i64 h.b, .int .i64 h.m, .string h.head, v]
theorem hksC_length (l : List (Hk × Value)) : (hksC l).length = l.length * 6 := by
  induction l with
  | nil => rfl
  | cons c l ih => show (hkC c ++ hksC l).length = _; rw [List.length_append, ih, List.length_cons]; show 6 + _ = _; omega
theorem hksC_get {l : List (Hk × Value)} {k : Nat} {c : Hk × Value} (h : l[k]? = some c) (i : Nat) (hi : i < 6) : (hksC l)[k * 6 + i]? = (hkC c)[i]? := flat_get hkC 6 (fun _ => rfl) l k i c h hi
theorem hksC_append (l m : List (Hk × Value)) : hksC (l ++ m) = hksC l ++ hksC m := List.flatMap_append
/-- a list of hunks that is read -/
def RdH (w : World) (v : Value) (l : List Hk) : Prop := ∃ p : List (Hk × Value), p.map Prod.fst = l ∧ RdX w v l.length (hksC p) ∧ ∀ q ∈ p, RdW w q.2 q.1.rows
theorem RdH.shape {w : World} {v : Value} {l : List Hk} (h : RdH w v l) : ∃ a c, v = .slice a l.length c := by
  obtain ⟨p, _, h, _⟩ := h
  exact h.shape
theorem RdH.below {w w' : World} {v : Value} {l : List Hk} (h : RdH w v l) (hb : Below w.heap.size w w') : RdH w' v l := by
  obtain ⟨p, h1, h2, h3⟩ := h
  exact ⟨p, h1, h2.below hb, fun q hq => (h3 q hq).below hb⟩
theorem rdH_at {w : World} {a : Option Addr} {n c : Nat} {l : List Hk} (h : RdH w (.slice a n c) l) {k : Nat} {x : Hk} (hk : l[k]? = some x) :
    ∃ b o v, a = some ⟨b, o, none⟩ ∧ b < w.heap.size ∧ w.cell? ⟨b, o + k * 6, none⟩ = some (.int .i64 x.a) ∧ w.cell? ⟨b, o + k * 6 + 1, none⟩ = some (.int .i64 x.n) ∧ w.cell? ⟨b, o + k * 6 + 2, none⟩ = some (.int .i64 x.b) ∧ w.cell? ⟨b, o + k * 6 + 3, none⟩ = some (.int .i64 x.m) ∧ w.cell? ⟨b, o + k * 6 + 4, none⟩ = some (.string x.head) ∧ w.cell? ⟨b, o + k * 6 + 5, none⟩ = some v ∧ RdW w v x.rows := by
  obtain ⟨p, h1, h2, h3⟩ := h
  have hk' := hk
  rw [← h1, List.getElem?_map] at hk'
  cases hq : p[k]? with
  | none => rw [hq] at hk'; cases hk'
  | some q =>
    rw [hq] at hk'
    obtain ⟨h', v⟩ := q
    simp at hk'
    subst hk'
    rcases h2 with ⟨hn, _⟩ | ⟨b, o, c', hv, _, hb, hX⟩
    · rw [List.length_eq_zero_iff.1 hn] at hk; simp at hk
    · cases hv
      refine ⟨b, o, v, rfl, hb, ?_, ?_, ?_, ?_, ?_, ?_, h3 _ (List.mem_of_getElem? hq)⟩
      · exact hX (k * 6) _ (hksC_get hq 0 (by omega))
      · rw [Nat.add_assoc]; exact hX (k * 6 + 1) _ (hksC_get hq 1 (by omega))
      · rw [Nat.add_assoc]; exact hX (k * 6 + 2) _ (hksC_get hq 2 (by omega))
      · rw [Nat.add_assoc]; exact hX (k * 6 + 3) _ (hksC_get hq 3 (by omega))
      · rw [Nat.add_assoc]; exact hX (k * 6 + 4) _ (hksC_get hq 4 (by omega))
      · rw [Nat.add_assoc]; exact hX (k * 6 + 5) _ (hksC_get hq 5 (by omega))
/-- a list of hunks of the call's own -/
def OwnH (w : World) (B : Nat) (v : Value) (l : List Hk) : Prop := ∃ p : List (Hk × Value), p.map Prod.fst = l ∧ w.ownsRow B 37 6 v l.length (hksC p) ∧ ∀ q ∈ p, OwnW w B q.2 q.1.rows
theorem OwnH.rd {w : World} {B : Nat} {v : Value} {l : List Hk} (h : OwnH w B v l) : RdH w v l := by
  obtain ⟨p, h1, h2, h3⟩ := h
  exact ⟨p, h1, own_rd h2, fun q hq => own_rd (h3 q hq)⟩
theorem OwnH.stays {w w' : World} {B : Nat} {v : Value} {l : List Hk} (h : OwnH w B v l) (hb : Below w.heap.size w w') : OwnH w' B v l := by
  obtain ⟨p, h1, h2, h3⟩ := h
  exact ⟨p, h1, own_stays h2 hb, fun q hq => own_stays (h3 q hq) hb⟩
theorem OwnH.mono {w : World} {B B' : Nat} {v : Value} {l : List Hk} (h : OwnH w B v l) (hb : B' ≤ B) : OwnH w B' v l := by
  obtain ⟨p, h1, h2, h3⟩ := h
  exact ⟨p, h1, own_mono h2 hb, fun q hq => own_mono (h3 q hq) hb⟩
theorem OwnH.nil (w : World) (B : Nat) : OwnH w B (.slice none 0 0) [] := ⟨[], rfl, World.ownsRow_nil _ _ _ _, fun q hq => by simp at hq⟩
theorem OwnH.shape {w : World} {B : Nat} {v : Value} {l : List Hk} (h : OwnH w B v l) : ∃ a c, v = .slice a l.length c := by
  obtain ⟨p, _, h, _⟩ := h
  exact own_shape h
theorem own_by_type {w w' : World} {B1 B2 n1 n2 s1 s2 : Nat} {e1 e2 : TypeId} {v1 v2 : Value} {xs1 xs2 : List Value} (h1 : w.ownsRow B1 e1 s1 v1 n1 xs1) (h2 : w.ownsRow B2 e2 s2 v2 n2 xs2) (hne : e1 ≠ e2) (hg : w.grownBy w' v2.ownBlock) : w'.ownsRow B1 e1 s1 v1 n1 xs1 :=
  World.ownsRow.kept h1 hg (by
    rcases h1.2 with ⟨hv, _⟩ | ⟨g, cap, cur, hv, _, hh, _⟩
    · subst hv; exact .inl rfl
    · subst hv
      refine .inr fun e => ?_
      rcases h2.2 with ⟨hv2, _⟩ | ⟨g2, cap2, cur2, hv2, _, hh2, _⟩
      · subst hv2; cases e
      · subst hv2
        have e2 : g = g2 := Option.some.inj e
        subst e2
        rw [hh] at hh2
        injection hh2 with e3
        injection e3 with _ e4 _
        exact hne e4)

/-! ### append of one -/
theorem Tryz.infoRow : (Tryz.prog.info? 57).map (fun i => (i.zero, i.size, i.bytes)) = some (some (.agg #[.int .i64 0, .string .empty]), 2, 24) := by kernel_rfl
theorem Tryz.infoHunk : (Tryz.prog.info? 37).map (fun i => (i.zero, i.size, i.bytes)) = some (some (.agg #[.int .i64 0, .int .i64 0, .int .i64 0, .int .i64 0, .string .empty, .slice none 0 0]), 6, 72) := by kernel_rfl
theorem Tryz.infoStr : (Tryz.prog.info? 9).map (fun i => (i.zero, i.size, i.bytes)) = some (some (.string .empty), 1, 16) := by kernel_rfl
/-- where an append's row lies -/
def Lies (w : World) (v v' : Value) : Prop := ∀ k, v'.ownBlock = some k → v.ownBlock = some k ∨ w.heap.size ≤ k
theorem wpList_append_row {w : World} {ops : Array Oper} {rest : List Oper} {o : Oper} {a : Act} {Q : Exit → Act → World → Prop} (hgd : o.guard = none) (s x : Operand)
    (ho : o.op = .call { callee := .builtin .append, args := #[s, x], argTypes := #[35, 35] }) (B : Nat) (v : Value) (l : List Rw) (hs : a.eval s = v) (hown : OwnW w B v l)
    (g : Nat) (k : Int) (t : ByteArray) (hx : a.eval x = .slice (some ⟨g, 0, none⟩) 1 1) (hg : w.heap[g]? = some (.cells #[.int .i64 k, .string t] 57)) (hfit : l.length < 5864062014800) (hB : B ≤ w.heap.size)
    (h : ∀ v' w', OwnW w' B v' (l ++ [⟨k, t⟩]) → w.grownBy w' v.ownBlock → Lies w v v' → Below B w w' → wpList Tryz.prog ops Q rest (a.put o.dst v') w') : wpList Tryz.prog ops Q (o :: rest) a w := by
  obtain ⟨i0, hi, hz0, hz1, hz2⟩ := info_parts Tryz.infoRow
  refine wpList_append_lies _ hgd s x 35 ho B 57 i0 (.agg #[.int .i64 0, .string .empty]) 2 24 Tryz.underlying35 hi hz0 hz1 hz2 rfl (by decide) v l.length (rwsC l) hs hown ⟨g, 0, none⟩ 1 1 (rwC ⟨k, t⟩) hx rfl ?_ ?_ (by decide) ?_ ?_ hB w.heap.size rfl ?_
  · exact World.news_of_block (cs := #[.int .i64 k, .string t]) hg
  · have := rwsC_one [⟨k, t⟩]
    simpa [rwsC] using this
  · unfold maxLen; omega
  · omega
  · intro g' cap w' g2 g3 g4 _
    refine h _ w' ?_ g3 ?_ ((Below.refl _ _).grown g3 hB (own_ge hown))
    · show w'.ownsRow _ _ _ _ _ _
      rw [List.length_append, rwsC_append]
      have e : rwsC [⟨k, t⟩] = rwC ⟨k, t⟩ := by simp [rwsC]
      rw [e]; exact g2
    · intro k hk
      cases hk
      rcases g4 with g4 | g4
      · exact .inl g4
      · exact .inr (Nat.le_of_eq g4.symm)
theorem wpList_append_st {w : World} {ops : Array Oper} {rest : List Oper} {o : Oper} {a : Act} {Q : Exit → Act → World → Prop} (hgd : o.guard = none) (s x : Operand)
    (ho : o.op = .call { callee := .builtin .append, args := #[s, x], argTypes := #[95, 95] }) (B : Nat) (v : Value) (l : List ByteArray) (hs : a.eval s = v) (hown : OwnT w B v l)
    (g : Nat) (t : ByteArray) (hx : a.eval x = .slice (some ⟨g, 0, none⟩) 1 1) (hg : w.heap[g]? = some (.cells #[.string t] 9)) (hfit : l.length < 8796093022200) (hB : B ≤ w.heap.size)
    (h : ∀ v' w', OwnT w' B v' (l ++ [t]) → w.grownBy w' v.ownBlock → Lies w v v' → Below B w w' → wpList Tryz.prog ops Q rest (a.put o.dst v') w') : wpList Tryz.prog ops Q (o :: rest) a w := by
  obtain ⟨i0, hi, hz0, hz1, hz2⟩ := info_parts Tryz.infoStr
  refine wpList_append_lies _ hgd s x 95 ho B 9 i0 (.string .empty) 1 16 Tryz.underlying95 hi hz0 hz1 hz2 rfl (by decide) v l.length (stC l) hs hown ⟨g, 0, none⟩ 1 1 [.string t] hx rfl ?_ ?_ (by decide) ?_ ?_ hB w.heap.size rfl ?_
  · exact World.news_of_block (cs := #[.string t]) hg
  · have := stC_one [t]
    simpa [stC] using this
  · unfold maxLen; omega
  · omega
  · intro g' cap w' g2 g3 g4 _
    refine h _ w' ?_ g3 ?_ ((Below.refl _ _).grown g3 hB (own_ge hown))
    · show w'.ownsRow _ _ _ _ _ _
      rw [List.length_append, stC_append]
      exact g2
    · intro k hk
      cases hk
      rcases g4 with g4 | g4
      · exact .inl g4
      · exact .inr (Nat.le_of_eq g4.symm)
theorem wpList_append_hk {w : World} {ops : Array Oper} {rest : List Oper} {o : Oper} {a : Act} {Q : Exit → Act → World → Prop} (hgd : o.guard = none) (s x : Operand)
    (ho : o.op = .call { callee := .builtin .append, args := #[s, x], argTypes := #[24, 24] }) (B : Nat) (v : Value) (l : List Hk) (hs : a.eval s = v) (hown : OwnH w B v l)
    (g : Nat) (k : Hk) (u : Value) (hx : a.eval x = .slice (some ⟨g, 0, none⟩) 1 1) (hg : w.heap[g]? = some (.cells #[.int .i64 k.a, .int .i64 k.n, .int .i64 k.b, .int .i64 k.m, .string k.head, u] 37)) (hu : OwnW w B u k.rows) (hfit : l.length < 1954687338260) (hB : B ≤ w.heap.size)
    (h : ∀ v' w', OwnH w' B v' (l ++ [k]) → Below B w w' → wpList Tryz.prog ops Q rest (a.put o.dst v') w') : wpList Tryz.prog ops Q (o :: rest) a w := by
  obtain ⟨i0, hi, hz0, hz1, hz2⟩ := info_parts Tryz.infoHunk
  obtain ⟨p, h1, h2, h3⟩ := hown
  refine wpList_append_lies _ hgd s x 24 ho B 37 i0 (.agg #[.int .i64 0, .int .i64 0, .int .i64 0, .int .i64 0, .string .empty, .slice none 0 0]) 6 72 Tryz.underlying24 hi hz0 hz1 hz2 rfl (by decide) v l.length (hksC p) hs h2 ⟨g, 0, none⟩ 1 1 (hkC (k, u)) hx rfl ?_ ?_ (by decide) ?_ ?_ hB w.heap.size rfl ?_
  · exact World.news_of_block (cs := #[.int .i64 k.a, .int .i64 k.n, .int .i64 k.b, .int .i64 k.m, .string k.head, u]) hg
  · intro y hy
    obtain ⟨ua, uc, rfl⟩ := own_shape hu
    unfold hkC at hy
    simp at hy
    rcases hy with rfl | rfl | rfl | rfl | rfl | rfl <;> rfl
  · unfold maxLen; omega
  · omega
  · intro g' cap w' g2 g3 g4 _
    refine h _ w' ⟨p ++ [(k, u)], by rw [List.map_append, h1]; rfl, ?_, ?_⟩ ((Below.refl _ _).grown g3 hB (own_ge h2))
    · rw [List.length_append, hksC_append]
      have e : hksC [(k, u)] = hkC (k, u) := by simp [hksC]
      rw [e]; exact g2
    · intro q hq
      rcases List.mem_append.1 hq with hq | hq
      · exact own_by_type (h3 q hq) h2 (by decide) g3
      · simp at hq
        subst hq
        exact own_by_type hu h2 (by decide) g3
/-- two rows of the call's own that share no block -/
def Apart (u v : Value) : Prop := ∀ k, u.ownBlock = some k → v.ownBlock ≠ some k
theorem Apart.symm {u v : Value} (h : Apart u v) : Apart v u := fun k h1 h2 => h k h2 h1
theorem kept_row {w w' : World} {base n size : Nat} {e : TypeId} {v u : Value} {xs : List Value} (h : w.ownsRow base e size u n xs) (hg : w.grownBy w' v.ownBlock) (ha : Apart v u) : w'.ownsRow base e size u n xs :=
  World.ownsRow.kept h hg (by
    cases hu : u.ownBlock with
    | none => exact .inl rfl
    | some k => exact .inr fun e => ha k e.symm hu)
theorem apart_new {w : World} {base n size : Nat} {e : TypeId} {v v' u : Value} {xs : List Value} (h : w.ownsRow base e size u n xs) (ha : Apart v u) (hl : Lies w v v') : Apart v' u := by
  intro k h1 h2
  rcases hl k h1 with h3 | h3
  · exact ha k h3 h2
  · have := own_lt h k h2
    omega
end Go.Proofs.YtkolgglllladfaaGreatDoor
/-
  A list of changes as an argument: opened, sized.
-/
namespace Go.Proofs.YtkolgglllladfaaGreatDoor
open Go.RowKit Go.Deep
open Ed (Ch Run Pr)

theorem laidOut : laidOutB Tryz.prog = true := by kernel_rfl
instance : Inhabited Ch := ⟨⟨0, 0, 0, 0⟩⟩
theorem wf_I64 {n : Int} (h : (Lit.int .i64 n).wf = true) : I64 n := by
  simp only [Lit.wf, Bool.and_eq_true, decide_eq_true_eq] at h
  exact h
theorem addr_none4 {w : World} {a : Addr} {v : Value} (h : w.cell? a = some v) : ∃ b o, a = ⟨b, o, none⟩ ∧ b < w.heap.size := by
  obtain ⟨b, o, spot⟩ := a
  have hspot : spot = none := World.cell?_spot h
  subst hspot
  exact ⟨b, o, rfl, lt_of_cell h⟩
theorem csC_back {l : List Ch} {j : Nat} {u : Value} (h : (csC l)[j]? = some u) : ∃ k i c, j = k * 4 + i ∧ i < 4 ∧ l[k]? = some c ∧ (cC c)[i]? = some u := by
  have hj : j < l.length * 4 := by
    rw [← csC_length]
    rcases Nat.lt_or_ge j (csC l).length with q | q
    · exact q
    · rw [List.getElem?_eq_none q] at h; cases h
  have hk : j / 4 < l.length := by omega
  obtain ⟨c, hc⟩ : ∃ c, l[j / 4]? = some c := ⟨_, List.getElem?_eq_getElem hk⟩
  refine ⟨j / 4, j % 4, c, by omega, by omega, hc, ?_⟩
  rw [← csC_get hc (j % 4) (by omega), show j / 4 * 4 + j % 4 = j by omega]
  exact h
end Go.Proofs.YtkolgglllladfaaGreatDoor
