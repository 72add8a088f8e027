/-
  A map from numbers to two rows of places each, of the call's own.
-/
import Derived.Test.YtdilmgcdebobaaaV7
import Derived.Maps.OwnSet
import Derived.Maps.AppendAt
import Derived.Deep.AppendLies
namespace Go.Proofs.Ytdilmgcdebobaaa
open Go.RowKit
open Go.Maps (Keyed Tidy)

def zz : Value := .agg #[.slice none 0 0, .slice none 0 0]
theorem zeroSpots (w : World) : (zeroValue 63).run Try.prog w = .ok zz w := by kernel_rfl
/-- an element, as it is -/
def RV (v : Value) : Option (DataW Value × List MemPlace) := some (.held v, [])
def ups {α : Type} (f : Int → Bool → α) (x : Int) (s : Bool) (v : α) : Int → Bool → α := fun y t => if y = x ∧ t = s then v else f y t
theorem ups_same {α : Type} (f : Int → Bool → α) (x : Int) (s : Bool) (v : α) : ups f x s v x s = v := by unfold ups; rw [if_pos ⟨rfl, rfl⟩]
theorem ups_other {α : Type} (f : Int → Bool → α) {x y : Int} {s t : Bool} (v : α) (h : (y, t) ≠ (x, s)) : ups f x s v y t = f y t := by
  unfold ups
  rw [if_neg]
  rintro ⟨rfl, rfl⟩
  exact h rfl
/-- what a map's datum holds -/
def Holds (D : DataW Value) (inn : Int → Bool) (sl : Int → Bool → Value) : Prop := Maps.IsMap D ∧ ∀ x, Maps.has D (.int .i64 x) = inn x ∧ D.atKey (.int .i64 x) (.held zz) = .held (.agg #[sl x false, sl x true])
theorem holds_nil : Holds (.map []) (fun _ => false) (fun _ _ => .slice none 0 0) := ⟨Maps.isMap_empty, fun _ => ⟨rfl, rfl⟩⟩
theorem Holds.put {D : DataW Value} {inn : Int → Bool} {sl : Int → Bool → Value} (h : Holds D inn sl) (x : Int) (s : Bool) (v : Value) :
    Holds (D.put (.int .i64 x) (.held (.agg #[ups sl x s v x false, ups sl x s v x true]))) (fun y => if y = x then true else inn y) (ups sl x s v) := by
  refine ⟨h.1.put _ _, fun y => ?_⟩
  dsimp only
  by_cases hy : y = x
  · subst hy
    rw [if_pos rfl]
    exact ⟨Maps.has_put_same h.1 (isKey_int y) _, Maps.atKey_put_same h.1 (isKey_int y) _ _⟩
  · have hne : (Lit.int .i64 y) ≠ .int .i64 x := fun e => hy (by cases e; rfl)
    rw [if_neg hy, Maps.has_put_other hne, Maps.atKey_put_other hne]
    have e : ∀ t, ups sl x s v y t = sl y t := fun t => ups_other sl v (fun e => hy (by cases e; rfl))
    rw [e, e]
    exact h.2 y
structure Pls (w : World) (B M n : Nat) (inn : Int → Bool) (sl : Int → Bool → Value) (pl : Int → Bool → List Int) : Prop where
  map : ∃ D : DataW Value, w.ownsMap Try.prog 3 RV M n D ∧ Holds D inn sl
  row : ∀ x s, OwnI w B (sl x s) (pl x s)
  apart : ∀ x s y t, (x, s) ≠ (y, t) → ∀ k, (sl x s).ownBlock = some k → (sl y t).ownBlock ≠ some k
  low : M < B
theorem grown_of_below {w w' : World} (h : Below w.heap.size w w') (row : Option Nat) : w.grownBy w' row := ⟨h.os, h.tape, h.output, h.size, fun i hi _ => h.block i hi⟩
theorem own_ge2 {w : World} {B n : Nat} {e : TypeId} {size : Nat} {v : Value} {xs : List Value} (h : w.ownsRow B e size v n xs) : ∀ k, v.ownBlock = some k → B ≤ k ∧ k < w.heap.size := by
  intro k hk
  rcases h.2 with ⟨hv, _⟩ | ⟨g, cap, cur, hv, hg, hh, _⟩
  · subst hv; cases hk
  · subst hv; cases hk; exact ⟨hg, lt_of_heap hh⟩
theorem Pls.made (w : World) : Pls (w.alloc (.map #[] 0)) (w.heap.size + 1) w.heap.size 0 (fun _ => false) (fun _ _ => .slice none 0 0) (fun _ _ => []) :=
  ⟨⟨.map [], World.ownsMap_made _ _ _ _, holds_nil⟩, fun _ _ => World.ownsRow_nil _ _ _ _, (fun _ _ _ _ _ _ h => by cases h), Nat.lt_succ_self _⟩
theorem Pls.later {w w' : World} {B M n : Nat} {inn : Int → Bool} {sl : Int → Bool → Value} {pl : Int → Bool → List Int} (h : Pls w B M n inn sl pl) (hb : Below w.heap.size w w') : Pls w' B M n inn sl pl := by
  obtain ⟨D, h1, h2⟩ := h.map
  exact ⟨⟨D, h1.kept (grown_of_below hb none) (by simp), h2⟩, fun x s => own_stays (h.row x s) hb, h.apart, h.low⟩
/-- behind what has turned one row -/
theorem Pls.mid {w w' : World} {B M n : Nat} {inn : Int → Bool} {sl : Int → Bool → Value} {pl : Int → Bool → List Int} (h : Pls w B M n inn sl pl) {x : Int} {s : Bool} (hg : w.grownBy w' (sl x s).ownBlock) : ∃ D : DataW Value, w'.ownsMap Try.prog 3 RV M n D ∧ Holds D inn sl := by
  obtain ⟨D, h1, h2⟩ := h.map
  refine ⟨D, h1.kept hg (fun e => ?_), h2⟩
  have := (own_ge2 (h.row x s) M e.symm).1
  have := h.low
  omega
theorem Pls.put {w w' w'' : World} {B M n : Nat} {inn : Int → Bool} {sl : Int → Bool → Value} {pl : Int → Bool → List Int} (h : Pls w B M n inn sl pl) {x : Int} {s : Bool} (hg : w.grownBy w' (sl x s).ownBlock)
    {v : Value} {l : List Int} (hO : OwnI w' B v l) (hl : ∀ k, v.ownBlock = some k → (sl x s).ownBlock = some k ∨ w.heap.size ≤ k) {D : DataW Value} (hD : Holds D inn sl)
    (hm : w''.ownsMap Try.prog 3 RV M (n + 1) (D.put (.int .i64 x) (.held (.agg #[ups sl x s v x false, ups sl x s v x true])))) (hg2 : w'.grownBy w'' (some M)) :
    Pls w'' B M (n + 1) (fun y => if y = x then true else inn y) (ups sl x s v) (ups pl x s l) := by
  have hM : ∀ {u : Value} {m : Nat} {e : TypeId} {sz : Nat} {xs : List Value}, w'.ownsRow B e sz u m xs → w''.ownsRow B e sz u m xs := fun {u m e sz xs} ho => ho.kept hg2 (by
    cases hu : u.ownBlock with
    | none => exact .inl rfl
    | some k =>
      refine .inr (fun e => ?_)
      cases e
      have := (own_ge2 ho _ hu).1
      have := h.low
      omega)
  have hrow : ∀ y t, (y, t) ≠ (x, s) → OwnI w' B (sl y t) (pl y t) := fun y t hne => (h.row y t).kept hg (by
    cases hu : (sl y t).ownBlock with
    | none => exact .inl rfl
    | some k => exact .inr (fun e => h.apart y t x s hne k hu e.symm))
  refine ⟨⟨_, hm, hD.put x s v⟩, fun y t => ?_, fun y t y' t' hne k hk => ?_, h.low⟩
  · by_cases hy : (y, t) = (x, s)
    · cases hy
      rw [ups_same, ups_same]
      exact hM hO
    · rw [ups_other sl v hy, ups_other pl l hy]
      exact hM (hrow y t hy)
  · by_cases hy : (y, t) = (x, s)
    · cases hy
      rw [ups_same] at hk
      rw [ups_other sl v (Ne.symm hne)]
      intro hk'
      rcases hl k hk with h1 | h1
      · exact h.apart x s y' t' hne k h1 hk'
      · have := (own_ge2 (h.row y' t') k hk').2
        omega
    · rw [ups_other sl v hy] at hk
      by_cases hy' : (y', t') = (x, s)
      · cases hy'
        rw [ups_same]
        intro hk'
        rcases hl k hk' with h1 | h1
        · exact h.apart y t x s hne k hk h1
        · have := (own_ge2 (h.row y t) k hk).2
          omega
      · rw [ups_other sl v hy']
        exact h.apart y t y' t' hne k hk
end Go.Proofs.Ytdilmgcdebobaaa
