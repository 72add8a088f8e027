/-
  The walk of Join.
-/
import Derived.Test.YthgibnbpeopoaaaDoorDg
namespace Go.Proofs.YthgibnbpeopoaaaDoor
open Go.RowKit
open Ed (Ch Run Pr)

/-- what is left of t's runs behind the runs d of s -/
def leftA (ts : List Run) (d : List Run) : List Run := d.foldl Ed.left ts
theorem leftA_snoc (ts d : List Run) (r : Run) : leftA ts (d ++ [r]) = Ed.left (leftA ts d) r := by unfold leftA; rw [List.foldl_append]; rfl
theorem jn_snoc (d : List Run) (r : Run) : ∀ ts, Ed.jn (d ++ [r]) ts = Ed.jn d ts ++ Ed.hits (leftA ts d) r := by
  induction d with
  | nil => intro ts; show Ed.hits ts r ++ [] = _; rw [List.append_nil]; rfl
  | cons q d ih =>
    intro ts
    rw [List.cons_append, Ed.jn, ih, Ed.jn, List.append_assoc]
    rfl
theorem wrC_append (d e : List Run) : wrC (d ++ e) = e.foldl stayP (wrC d) := by unfold wrC; rw [List.foldl_append]
theorem left_cons (t : Run) (ts : List Run) (r : Run) : Ed.left (t :: ts) r = if Ed.ahead r t then Ed.left ts r else t :: ts := by
  unfold Ed.left
  rw [List.dropWhile_cons]
theorem left_sub (ts : List Run) (r t : Run) (ht : t ∈ Ed.left ts r) : t ∈ ts := (List.dropWhile_sublist _).subset ht
theorem leftA_sub (d : List Run) : ∀ (ts : List Run) (t : Run), t ∈ leftA ts d → t ∈ ts := by
  induction d with
  | nil => intro ts t h; exact h
  | cons r d ih => intro ts t h; exact left_sub ts r t (ih _ t h)
theorem left_len (ts : List Run) (r : Run) : (Ed.left ts r).length ≤ ts.length := (List.dropWhile_sublist _).length_le
theorem leftA_len (d : List Run) : ∀ ts, (leftA ts d).length ≤ ts.length := by
  induction d with
  | nil => intro ts; exact Nat.le_refl _
  | cons r d ih => intro ts; exact Nat.le_trans (ih _) (left_len _ _)

/-- a variable in block g holds a slice that reads as these runs -/
def RtAt (g : Nat) (l : List Run) (w : World) : Prop :=
  ∃ v, w.heap[g]? = some (.cells #[v] 75) ∧ RdR w v l ∧ (∀ b o n c, v = .slice (some ⟨b, o, none⟩) n c → ∃ cur, w.heap[b]? = some (.cells cur 68))
theorem RtAt.below {g : Nat} {l : List Run} {w w' : World} (h : RtAt g l w) (hb : Below w.heap.size w w') : RtAt g l w' := by
  obtain ⟨v, h1, h2, h3⟩ := h
  refine ⟨v, (hb.block g (lt_of_heap h1)).trans h1, h2.below hb, fun b o n c hv => ?_⟩
  obtain ⟨cur, hc⟩ := h3 b o n c hv
  exact ⟨cur, (hb.block b (lt_of_heap hc)).trans hc⟩
/-- what a writer writes holds no runs -/
theorem WrAt.not {B gw : Nat} {st : WS} {X : Nat → Prop} {w : World} (h : WrAt B gw st X w) {k : Nat} {cur : Array Value} {t : TypeId} (hk : w.heap[k]? = some (.cells cur t)) (h1 : t ≠ 77) (h2 : t ≠ 61) : ¬ X k := by
  obtain ⟨v, hg, hO, _, _, rfl⟩ := h
  intro hx
  rcases hx with rfl | hx
  · rw [hg] at hk
    cases hk
    exact h1 rfl
  · rcases hO.2 with ⟨hv, _⟩ | ⟨g', cap, cur', hv, _, hh, _⟩
    · subst hv; cases hx
    · subst hv
      cases hx
      rw [hh] at hk
      cases hk
      exact h2 rfl
theorem RtAt.kept {B gw g : Nat} {st : WS} {l : List Run} {w w' : World} {X : Nat → Prop} (h : RtAt g l w) (hW : WrAt B gw st X w) (hK : Kept X w w') : RtAt g l w' := by
  obtain ⟨v, h1, h2, h3⟩ := h
  refine ⟨v, (hK.block g (lt_of_heap h1) (hW.not h1 (by decide) (by decide))).trans h1, ?_, fun b o n c hv => ?_⟩
  · rcases h2 with h | ⟨b, o, c', hv, hc, hlt, hcell⟩
    · exact .inl h
    · refine .inr ⟨b, o, c', hv, hc, Nat.lt_of_lt_of_le hlt hK.size, fun j x hj => ?_⟩
      obtain ⟨cur, hb⟩ := h3 b o _ _ hv
      exact (hK.cell hlt (hW.not hb (by decide) (by decide))).trans (hcell j x hj)
  · obtain ⟨cur, hc⟩ := h3 b o n c hv
    exact ⟨cur, (hK.block b (lt_of_heap hc) (hW.not hc (by decide) (by decide))).trans hc⟩
/-- how long the slice in block g is -/
def lenAt (g : Nat) (w : World) : Nat := match w.cell? ⟨g, 0, none⟩ with
  | some (.slice _ n _) => n
  | _ => 0
theorem RtAt.len {g : Nat} {l : List Run} {w : World} (h : RtAt g l w) : lenAt g w = l.length := by
  obtain ⟨v, h1, h2, _⟩ := h
  obtain ⟨a, c, rfl⟩ := h2.shape
  unfold lenAt
  rw [cell_of_blk h1 0]
  rfl
/-- what Join's second function keeps -/
def JnI (ts : List Run) (B g gw : Nat) (d : List Run) (X : Nat → Prop) (w : World) : Prop :=
  ∃ X0, WrAt B gw (wrC (Ed.jn d ts)) X0 w ∧ (0 ≤ (wrC (Ed.jn d ts)).2.1 ∧ (wrC (Ed.jn d ts)).2.1 ≤ 8388608 ∧ 0 ≤ (wrC (Ed.jn d ts)).2.2 ∧ (wrC (Ed.jn d ts)).2.2 ≤ 8388608) ∧ RtAt g (leftA ts d) w ∧ B ≤ g ∧ X = fun k => X0 k ∨ k = g
theorem JnI.later {ts : List Run} {B g gw : Nat} {d : List Run} {X : Nat → Prop} {w w' : World} (h : JnI ts B g gw d X w) (hb : Below w.heap.size w w') : JnI ts B g gw d X w' := by
  obtain ⟨X0, h1, h2, h3, h4⟩ := h
  exact ⟨X0, h1.later hb, h2, h3.below hb, h4⟩
theorem JnI.in {ts : List Run} {B g gw : Nat} {d : List Run} {X : Nat → Prop} {w : World} (h : JnI ts B g gw d X w) : ∀ k, X k → B ≤ k ∧ k < w.heap.size := by
  obtain ⟨X0, h1, _, ⟨v, h3, _⟩, h4, rfl⟩ := h
  intro k hk
  rcases hk with hk | rfl
  · exact h1.in k hk
  · exact ⟨h4, lt_of_heap h3⟩
/-- the tail of a slice -/
theorem rt_tail {g : Nat} {t : Run} {l : List Run} {w : World} {a : Option Addr} {n c : Nat} (h1 : w.heap[g]? = some (.cells #[.slice a n c] 75)) (h2 : RdR w (.slice a n c) (t :: l)) (h3 : ∀ b o n' c', Value.slice a n c = .slice (some ⟨b, o, none⟩) n' c' → ∃ cur, w.heap[b]? = some (.cells cur 68)) (A : Option Addr) (hA : (if c = 1 then a else a.map (·.add 3)) = A) :
    RtAt g l (w.setCell ⟨g, 0, none⟩ (.slice A l.length (c - 1))) ∧ Kept (fun k => k = g) w (w.setCell ⟨g, 0, none⟩ (.slice A l.length (c - 1))) := by
  have hK : Kept (fun k => k = g) w (w.setCell ⟨g, 0, none⟩ (.slice A l.length (c - 1))) := ⟨rfl, rfl, rfl, by rw [set_size]; exact Nat.le_refl _, fun j _ hx => set_other w hx⟩
  have hne : ∀ b cur, w.heap[b]? = some (.cells cur 68) → b ≠ g := fun b cur hb e => by subst e; rw [h1] at hb; cases hb
  refine ⟨⟨.slice A l.length (c - 1), ?_, ?_, ?_⟩, hK⟩
  · rw [set_heap w g 0 _ _ (.slice A l.length (c - 1)) h1]; rfl
  · rcases h2 with ⟨hn, _⟩ | ⟨b, o, c', hv, hc, hlt, hcell⟩
    · simp at hn
    · obtain ⟨cur, hb⟩ := h3 b o _ _ hv
      cases hv
      rw [List.length_cons] at hc
      rcases Nat.eq_zero_or_pos l.length with h0 | h0
      · rw [h0]; exact .inl ⟨h0, _, _, rfl⟩
      · rw [if_neg (by omega)] at hA
        subst hA
        refine .inr ⟨b, o + 3, c - 1, ?_, by omega, by rw [set_size]; exact hlt, fun j x hj => ?_⟩
        · show Value.slice (some ((⟨b, o, none⟩ : Addr).add 3)) _ _ = _
          rw [Go.WideShapes.add_plain]
        · rw [hK.cell hlt (hne b cur hb)]
          have : (rsC (t :: l))[3 + j]? = some x := by
            show (rC t ++ rsC l)[3 + j]? = some x
            rw [List.getElem?_append_right (by show 3 ≤ 3 + j; omega)]
            show (rsC l)[3 + j - 3]? = some x
            rw [Nat.add_sub_cancel_left]
            exact hj
          have := hcell (3 + j) x this
          rw [Nat.add_assoc]; exact this
  · intro b o n' c' hv
    rcases h2 with ⟨hn, _⟩ | ⟨b', o', c'', hv', hc, hlt, hcell⟩
    · simp at hn
    · obtain ⟨cur, hb⟩ := h3 b' o' _ _ hv'
      cases hv'
      have e : b' = b := by
        cases hv
        split at hA
        · cases hA; rfl
        · rw [Option.map_some, Go.WideShapes.add_plain] at hA; cases hA; rfl
      subst e
      exact ⟨cur, (hK.block b' hlt (hne b' cur hb)).trans hb⟩
theorem WrAt.set {B gw g : Nat} {st : WS} {X : Nat → Prop} {w w' : World} (h : WrAt B gw st X w) (hK : Kept (fun k => k = g) w w') (hg : ¬ X g) : WrAt B gw st X w' := by
  obtain ⟨v, h1, h2, h3, h4, rfl⟩ := h
  exact ⟨v, (hK.block gw (lt_of_heap h1) (fun e => hg (.inl e.symm))).trans h1, own_far h2 (fun k hk => hK.block k (own_lt h2 k hk) (fun e => hg (.inr (e ▸ hk)))), h3, h4, rfl⟩
end Go.Proofs.YthgibnbpeopoaaaDoor
