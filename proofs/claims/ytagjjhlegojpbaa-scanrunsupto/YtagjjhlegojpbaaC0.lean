/-
  What the walks of edit scripts lean on: worlds, rows of cells, changes, pairs and numbers as cells.
-/
import Derived.Test.YtagjjhlegojpbaaRows
import Derived.Test.YtagjjhlegojpbaaE2
import Derived.WalkKit
import Derived.WalkSpells
import Derived.WalkLawsBesides
import Derived.Deep.QuietTactic
import Derived.BigQuiet
import Derived.Deep.AppendLies
namespace Go.Proofs.Ytagjjhlegojpbaa
open Go.RowKit
open Ed (Ch Run Pr)

theorem hid {p : Prop} (h : p) : Hid p := h
theorem ieq {n : Nat} {m : Int} (h : (n : Int) = m) : ((n : Int) == m) = true := beq_iff_eq.2 h
theorem ine {n : Nat} {m : Int} (h : (n : Int) ≠ m) : ((n : Int) == m) = false := beq_eq_false_iff_ne.2 h
theorem zeq {n m : Int} (h : n = m) : (n == m) = true := beq_iff_eq.2 h
theorem zne {n m : Int} (h : n ≠ m) : (n == m) = false := beq_eq_false_iff_ne.2 h
theorem lt_of_heap {w : World} {g : Nat} {o : Obj} (h : w.heap[g]? = some o) : g < w.heap.size := by
  rcases Nat.lt_or_ge g w.heap.size with k | k
  · exact k
  · rw [Array.getElem?_eq_none k] at h; cases h
theorem lt_of_cell {w : World} {b o : Nat} {v : Value} (h : w.cell? ⟨b, o, none⟩ = some v) : b < w.heap.size := World.block_lt_of_cell? w ⟨b, o, none⟩ h
theorem below_drewN {B : Nat} {a w : World} (h : Below B a w) (m : Nat) : Below B a (w.drewN m) := ⟨h.os, h.tape, h.output, h.size, h.block⟩
theorem ret1 {a b : Value} (h : a = b) : Ending.returned a = .returned b := by rw [h]
theorem ret_bool {a b : Bool} (h : a = b) : Ending.returned (.bool a) = .returned (.bool b) := by rw [h]
theorem own_ge {w : World} {base n : Nat} {e : TypeId} {size : Nat} {v : Value} {xs : List Value} (h : w.ownsRow base e size v n xs) : ∀ k, v.ownBlock = some k → base ≤ k := by
  intro k hk
  rcases h.2 with ⟨hv, _⟩ | ⟨g, cap, cur, hv, hg, _⟩
  · subst hv; cases hk
  · subst hv; cases hk; exact hg
theorem own_lt {w : World} {base n : Nat} {e : TypeId} {size : Nat} {v : Value} {xs : List Value} (h : w.ownsRow base e size v n xs) : ∀ k, v.ownBlock = some k → k < w.heap.size := by
  intro k hk
  rcases h.2 with ⟨hv, _⟩ | ⟨g, cap, cur, hv, hg, hh, _⟩
  · subst hv; cases hk
  · subst hv; cases hk; exact lt_of_heap hh
theorem own_shape {w : World} {base n : Nat} {e : TypeId} {size : Nat} {v : Value} {xs : List Value} (h : w.ownsRow base e size v n xs) : ∃ a c, v = .slice a n c := by
  rcases h.2 with ⟨hv, hn⟩ | ⟨g, cap, cur, hv, _⟩
  · exact ⟨_, _, by rw [hv, hn]⟩
  · exact ⟨_, _, hv⟩
theorem own_far {w w' : World} {base n : Nat} {e : TypeId} {size : Nat} {v : Value} {xs : List Value} (h : w.ownsRow base e size v n xs) (hb : ∀ g, v.ownBlock = some g → w'.heap[g]? = w.heap[g]?) : w'.ownsRow base e size v n xs := by
  refine ⟨h.1, ?_⟩
  rcases h.2 with h | ⟨g, cap, cur, hv, hg, hh, r⟩
  · exact .inl h
  · exact .inr ⟨g, cap, cur, hv, hg, (hb g (by rw [hv]; rfl)).trans hh, r⟩
theorem own_stays {w w' : World} {base n : Nat} {e : TypeId} {size : Nat} {v : Value} {xs : List Value} (h : w.ownsRow base e size v n xs) (hb : Below w.heap.size w w') : w'.ownsRow base e size v n xs :=
  own_far h fun g hg => hb.block g (own_lt h g hg)
theorem own_mono {w : World} {base base' n : Nat} {e : TypeId} {size : Nat} {v : Value} {xs : List Value} (h : w.ownsRow base e size v n xs) (hb : base' ≤ base) : w.ownsRow base' e size v n xs := by
  refine ⟨h.1, ?_⟩
  rcases h.2 with h | ⟨g, cap, cur, hv, hg, r⟩
  · exact .inl h
  · exact .inr ⟨g, cap, cur, hv, Nat.le_trans hb hg, r⟩

/-! ### cells -/
def cC (c : Ch) : List Value := [.int .i64 c.a, .int .i64 c.n, .int .i64 c.b, .int .i64 c.m]
def csC (l : List Ch) : List Value := l.flatMap cC
def pC (p : Pr) : List Value := [.int .i64 p.1, .int .i64 p.2]
def psC (l : List Pr) : List Value := l.flatMap pC
def rC (r : Run) : List Value := [.int .i64 r.1, .int .i64 r.2.1, .int .i64 r.2.2]
def rsC (l : List Run) : List Value := l.flatMap rC
def isC (l : List Int) : List Value := l.map fun n => .int .i64 n
theorem csC_length (l : List Ch) : (csC l).length = l.length * 4 := by
  induction l with
  | nil => rfl
  | cons c l ih => show (cC c ++ csC l).length = _; rw [List.length_append, ih, List.length_cons]; show 4 + _ = _; omega
theorem psC_length (l : List Pr) : (psC l).length = l.length * 2 := by
  induction l with
  | nil => rfl
  | cons c l ih => show (pC c ++ psC l).length = _; rw [List.length_append, ih, List.length_cons]; show 2 + _ = _; omega
theorem rsC_length (l : List Run) : (rsC l).length = l.length * 3 := by
  induction l with
  | nil => rfl
  | cons c l ih => show (rC c ++ rsC l).length = _; rw [List.length_append, ih, List.length_cons]; show 3 + _ = _; omega
theorem isC_length (l : List Int) : (isC l).length = l.length := List.length_map _
theorem flat_get {α : Type} (f : α → List Value) (sz : Nat) (hf : ∀ x, (f x).length = sz) : ∀ (l : List α) (k i : Nat) (x : α), l[k]? = some x → i < sz → (l.flatMap f)[k * sz + i]? = (f x)[i]?
  | [], k, i, x, h, _ => by simp at h
  | y :: l, 0, i, x, h, hi => by
    simp at h
    subst h
    rw [List.flatMap_cons, Nat.zero_mul, Nat.zero_add, List.getElem?_append_left (by rw [hf]; exact hi)]
  | y :: l, k + 1, i, x, h, hi => by
    rw [List.getElem?_cons_succ] at h
    rw [List.flatMap_cons, List.getElem?_append_right (by rw [hf, Nat.add_mul, Nat.one_mul]; omega), hf, show (k + 1) * sz + i - sz = k * sz + i by rw [Nat.add_mul, Nat.one_mul]; omega]
    exact flat_get f sz hf l k i x h hi
theorem csC_get {l : List Ch} {k : Nat} {c : Ch} (h : l[k]? = some c) (i : Nat) (hi : i < 4) : (csC l)[k * 4 + i]? = (cC c)[i]? := flat_get cC 4 (fun _ => rfl) l k i c h hi
theorem psC_get {l : List Pr} {k : Nat} {c : Pr} (h : l[k]? = some c) (i : Nat) (hi : i < 2) : (psC l)[k * 2 + i]? = (pC c)[i]? := flat_get pC 2 (fun _ => rfl) l k i c h hi
theorem rsC_get {l : List Run} {k : Nat} {c : Run} (h : l[k]? = some c) (i : Nat) (hi : i < 3) : (rsC l)[k * 3 + i]? = (rC c)[i]? := flat_get rC 3 (fun _ => rfl) l k i c h hi
theorem isC_get {l : List Int} {k : Nat} {c : Int} (h : l[k]? = some c) : (isC l)[k]? = some (.int .i64 c) := by unfold isC; rw [List.getElem?_map, h]; rfl
theorem csC_append (l m : List Ch) : csC (l ++ m) = csC l ++ csC m := List.flatMap_append
theorem psC_append (l m : List Pr) : psC (l ++ m) = psC l ++ psC m := List.flatMap_append
theorem rsC_append (l m : List Run) : rsC (l ++ m) = rsC l ++ rsC m := List.flatMap_append
theorem isC_append (l m : List Int) : isC (l ++ m) = isC l ++ isC m := List.map_append
theorem csC_one (l : List Ch) : ∀ u ∈ csC l, u.oneCell' = true := by
  intro u hu
  obtain ⟨c, _, hc⟩ := List.mem_flatMap.1 hu
  unfold cC at hc
  simp at hc
  rcases hc with rfl | rfl | rfl | rfl <;> rfl
theorem psC_one (l : List Pr) : ∀ u ∈ psC l, u.oneCell' = true := by
  intro u hu
  obtain ⟨c, _, hc⟩ := List.mem_flatMap.1 hu
  unfold pC at hc
  simp at hc
  rcases hc with rfl | rfl <;> rfl
theorem rsC_one (l : List Run) : ∀ u ∈ rsC l, u.oneCell' = true := by
  intro u hu
  obtain ⟨c, _, hc⟩ := List.mem_flatMap.1 hu
  unfold rC at hc
  simp at hc
  rcases hc with rfl | rfl | rfl <;> rfl
theorem isC_one (l : List Int) : ∀ u ∈ isC l, u.oneCell' = true := by
  intro u hu
  obtain ⟨x, _, rfl⟩ := List.mem_map.1 hu
  rfl

/-! ### rows that are read -/
/-- the slice v, of n elements, reads as these cells -/
def RdX (w : World) (v : Value) (n : Nat) (cs : List Value) : Prop :=
  (n = 0 ∧ ∃ a c, v = .slice a 0 c) ∨
  (∃ b o c, v = .slice (some ⟨b, o, none⟩) n c ∧ n ≤ c ∧ b < w.heap.size ∧ ∀ (j : Nat) u, cs[j]? = some u → w.cell? ⟨b, o + j, none⟩ = some u)
theorem RdX.shape {w : World} {v : Value} {n : Nat} {cs : List Value} (h : RdX w v n cs) : ∃ a c, v = .slice a n c := by
  rcases h with ⟨rfl, a, c, rfl⟩ | ⟨b, o, c, rfl, _⟩
  · exact ⟨_, _, rfl⟩
  · exact ⟨_, _, rfl⟩
/-- its block lies below B -/
def Under (B : Nat) (v : Value) : Prop := ∀ b o n c, v = .slice (some ⟨b, o, none⟩) n c → 0 < n → b < B
theorem RdX.under {w : World} {v : Value} {n : Nat} {cs : List Value} (h : RdX w v n cs) : Under w.heap.size v := by
  intro b o m c hv hm
  rcases h with ⟨rfl, a, c', rfl⟩ | ⟨b', o', c', rfl, _, hb, _⟩
  · cases hv; omega
  · cases hv; exact hb
theorem Under.mono {B B' : Nat} {v : Value} (h : Under B v) (hb : B ≤ B') : Under B' v := fun b o n c hv hn => Nat.lt_of_lt_of_le (h b o n c hv hn) hb
theorem RdX.keep {w w' : World} {v : Value} {n : Nat} {cs : List Value} {B : Nat} (h : RdX w v n cs) (hu : Under B v) (hb : Below B w w') : RdX w' v n cs := by
  rcases h with h | ⟨b, o, c, hv, hc, hlt, hcell⟩
  · exact .inl h
  · rcases Nat.eq_zero_or_pos n with rfl | hn
    · exact .inl ⟨rfl, _, _, hv⟩
    · have hB := hu b o n c hv hn
      exact .inr ⟨b, o, c, hv, hc, Nat.lt_of_lt_of_le hlt hb.size, fun j x hj => (hb.cell (p := ⟨b, o + j, none⟩) hB).trans (hcell j x hj)⟩
theorem RdX.below {w w' : World} {v : Value} {n : Nat} {cs : List Value} (h : RdX w v n cs) (hb : Below w.heap.size w w') : RdX w' v n cs := h.keep h.under hb
theorem own_rd {w : World} {B n : Nat} {e : TypeId} {size : Nat} {v : Value} {xs : List Value} (h : w.ownsRow B e size v n xs) : RdX w v n xs := by
  have h' := h
  rcases h.2 with ⟨hv, hn⟩ | ⟨g, cap, cur, hv, hg, hh, hcp, _⟩
  · exact .inl ⟨hn, none, 0, hv⟩
  · subst hv
    refine .inr ⟨g, 0, cap, rfl, hcp, lt_of_heap hh, fun j u hj => ?_⟩
    have hjl : j < n * size := by
      rw [← h'.1]
      rcases Nat.lt_or_ge j xs.length with k | k
      · exact k
      · rw [List.getElem?_eq_none k] at hj; cases hj
    rw [Nat.zero_add, World.ownsRow.cellAt h' j hjl, hj]
abbrev RdC (w : World) (v : Value) (l : List Ch) : Prop := RdX w v l.length (csC l)
abbrev RdP (w : World) (v : Value) (l : List Pr) : Prop := RdX w v l.length (psC l)
abbrev RdI (w : World) (v : Value) (l : List Int) : Prop := RdX w v l.length (isC l)
abbrev RdR (w : World) (v : Value) (l : List Run) : Prop := RdX w v l.length (rsC l)
theorem rdC_at {w : World} {a : Option Addr} {n c : Nat} {l : List Ch} (h : RdC w (.slice a n c) l) {k : Nat} {x : Ch} (hk : l[k]? = some x) :
    ∃ b o, a = some ⟨b, o, none⟩ ∧ b < w.heap.size ∧ w.cell? ⟨b, o + k * 4, none⟩ = some (.int .i64 x.a) ∧ w.cell? ⟨b, o + k * 4 + 1, none⟩ = some (.int .i64 x.n) ∧ w.cell? ⟨b, o + k * 4 + 2, none⟩ = some (.int .i64 x.b) ∧ w.cell? ⟨b, o + k * 4 + 3, none⟩ = some (.int .i64 x.m) := by
  rcases h with ⟨hn, _⟩ | ⟨b, o, c', hv, _, hb, hX⟩
  · rw [List.length_eq_zero_iff.1 hn] at hk; simp at hk
  · cases hv
    refine ⟨b, o, rfl, hb, ?_, ?_, ?_, ?_⟩
    · exact hX (k * 4) _ (csC_get hk 0 (by omega))
    · rw [Nat.add_assoc]; exact hX (k * 4 + 1) _ (csC_get hk 1 (by omega))
    · rw [Nat.add_assoc]; exact hX (k * 4 + 2) _ (csC_get hk 2 (by omega))
    · rw [Nat.add_assoc]; exact hX (k * 4 + 3) _ (csC_get hk 3 (by omega))
theorem rdP_at {w : World} {a : Option Addr} {n c : Nat} {l : List Pr} (h : RdP w (.slice a n c) l) {k : Nat} {x : Pr} (hk : l[k]? = some x) :
    ∃ b o, a = some ⟨b, o, none⟩ ∧ b < w.heap.size ∧ w.cell? ⟨b, o + k * 2, none⟩ = some (.int .i64 x.1) ∧ w.cell? ⟨b, o + k * 2 + 1, none⟩ = some (.int .i64 x.2) := by
  rcases h with ⟨hn, _⟩ | ⟨b, o, c', hv, _, hb, hX⟩
  · rw [List.length_eq_zero_iff.1 hn] at hk; simp at hk
  · cases hv
    refine ⟨b, o, rfl, hb, ?_, ?_⟩
    · exact hX (k * 2) _ (psC_get hk 0 (by omega))
    · rw [Nat.add_assoc]; exact hX (k * 2 + 1) _ (psC_get hk 1 (by omega))
theorem rdR_at {w : World} {a : Option Addr} {n c : Nat} {l : List Run} (h : RdR w (.slice a n c) l) {k : Nat} {x : Run} (hk : l[k]? = some x) :
    ∃ b o, a = some ⟨b, o, none⟩ ∧ b < w.heap.size ∧ w.cell? ⟨b, o + k * 3, none⟩ = some (.int .i64 x.1) ∧ w.cell? ⟨b, o + k * 3 + 1, none⟩ = some (.int .i64 x.2.1) ∧ w.cell? ⟨b, o + k * 3 + 2, none⟩ = some (.int .i64 x.2.2) := by
  rcases h with ⟨hn, _⟩ | ⟨b, o, c', hv, _, hb, hX⟩
  · rw [List.length_eq_zero_iff.1 hn] at hk; simp at hk
  · cases hv
    refine ⟨b, o, rfl, hb, ?_, ?_, ?_⟩
    · exact hX (k * 3) _ (rsC_get hk 0 (by omega))
    · rw [Nat.add_assoc]; exact hX (k * 3 + 1) _ (rsC_get hk 1 (by omega))
    · rw [Nat.add_assoc]; exact hX (k * 3 + 2) _ (rsC_get hk 2 (by omega))
theorem rdI_at {w : World} {a : Option Addr} {n c : Nat} {l : List Int} (h : RdI w (.slice a n c) l) {k : Nat} {x : Int} (hk : l[k]? = some x) :
    ∃ b o, a = some ⟨b, o, none⟩ ∧ b < w.heap.size ∧ w.cell? ⟨b, o + k, none⟩ = some (.int .i64 x) := by
  rcases h with ⟨hn, _⟩ | ⟨b, o, c', hv, _, hb, hX⟩
  · rw [List.length_eq_zero_iff.1 hn] at hk; simp at hk
  · cases hv
    exact ⟨b, o, rfl, hb, hX k _ (isC_get hk)⟩
/-- a number that an int may be -/
def I64 (n : Int) : Prop := -9223372036854775808 ≤ n ∧ n ≤ 9223372036854775807
def WfC (c : Ch) : Prop := I64 c.a ∧ I64 c.n ∧ I64 c.b ∧ I64 c.m
end Go.Proofs.Ytagjjhlegojpbaa
