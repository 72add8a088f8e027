/-
  The document's Narrow.
-/
import Derived.Test.YtnamioihapnefabGreatDoorMa
import Derived.Test.YtnamioihapnefabGreatDoorGrKc
import Derived.Test.YtnamioihapnefabGreatDoorMc
namespace Go.Proofs.YtnamioihapnefabGreatDoor
open Go.RowKit
open Hu (Rw Hk)
open Ed (Ch)

/-- the pieces' spans, as the document goes through the rows -/
def nD (c N : Nat) : List Rw → Nat → Option Nat → Nat → List Sp
  | [], _, fr, last => [(fr.getD 0, last + min c (N - last))]
  | r :: l, i, fr, last => if r.k = 1 then nD c N l (i + 1) fr last else
    match fr with
    | none => nD c N l (i + 1) (some (i - min c i)) (i + 1)
    | some f => if last + 2 * c < i then (f, last + c) :: nD c N l (i + 1) (some (i - min c i)) (i + 1) else nD c N l (i + 1) (some f) (i + 1)
theorem nD_both {c N : Nat} {r : Rw} {l : List Rw} {i last : Nat} {fr : Option Nat} (h : r.k = 1) : nD c N (r :: l) i fr last = nD c N l (i + 1) fr last := by cases fr <;> rw [nD, if_pos h]
theorem nD_none {c N : Nat} {r : Rw} {l : List Rw} {i last : Nat} (h : ¬ r.k = 1) : nD c N (r :: l) i none last = nD c N l (i + 1) (some (i - min c i)) (i + 1) := by rw [nD, if_neg h]
theorem nD_some {c N : Nat} {r : Rw} {l : List Rw} {i last f : Nat} (h : ¬ r.k = 1) : nD c N (r :: l) i (some f) last = if last + 2 * c < i then (f, last + c) :: nD c N l (i + 1) (some (i - min c i)) (i + 1) else nD c N l (i + 1) (some f) (i + 1) := by rw [nD, if_neg h]
/-- the first one has the head -/
def headed (hd : ByteArray) : List Hk → List Hk
  | [] => []
  | h :: l => { h with head := hd } :: l
def narN (h : Hk) (ctx : Int) : Nat := if ctxOk ctx then (if Hu.vld h then 0 else 100) else 1
def narA (h : Hk) (ctx : Int) : List Hk := if narN h ctx = 0 then headed h.head ((nD ctx.toNat h.rows.length h.rows 0 none 0).map fun s => cutP h s.1 s.2) else []
/-- the first hunk's head written over -/
theorem ownH_head {w : World} {B g n cap : Nat} {x : Hk} {l : List Hk} {hd : ByteArray} (h : OwnH w B (.slice (some ⟨g, 0, none⟩) n cap) (x :: l)) : OwnH (w.setCell ⟨g, 4, none⟩ (.string hd)) B (.slice (some ⟨g, 0, none⟩) n cap) (headed hd (x :: l)) := by
  obtain ⟨p, h1, h2, h3⟩ := h
  cases p with
  | nil => simp at h1
  | cons q p =>
    obtain ⟨y, u⟩ := q
    rw [List.map_cons, List.cons.injEq] at h1
    obtain ⟨rfl, h1⟩ := h1
    obtain ⟨g1, ⟨hv, _⟩ | ⟨g', cap', cur, hv, hB, hh, hc, hm, hsz, htk⟩⟩ := h2
    · cases hv
    · have hv2 : g = g' ∧ n = (y :: l).length ∧ cap = cap' := by
        simp only [Value.slice.injEq, Option.some.injEq, Addr.mk.injEq, and_true] at hv
        exact hv
      obtain ⟨rfl, rfl, rfl⟩ := hv2
      have hne : ∀ q : Hk × Value, OwnW w B q.2 q.1.rows → q.2.ownBlock ≠ some g := fun q hq => own_ne hq hh (by decide)
      refine ⟨({ y with head := hd }, u) :: p, by rw [List.map_cons, h1]; rfl, ⟨?_, .inr ⟨g, cap, cur.setIfInBounds 4 (.string hd), rfl, hB, set_heap w g 4 _ _ _ hh, hc, hm, by rw [Array.size_setIfInBounds]; exact hsz, ?_⟩⟩, fun q hq => ?_⟩
      · rw [hksC_length, List.length_cons]; rw [hksC_length, List.length_cons] at g1; exact g1
      · rw [Array.toList_setIfInBounds]
        show ((cur.toList.set 4 (.string hd)).take ((y :: l).length * 6)) = _
        rw [List.take_set, htk]
        rfl
      · rcases List.mem_cons.1 hq with rfl | hq
        · have h9 := h3 (y, u) (by simp)
          exact own_far h9 (fun k hk => set_other _ (fun e => hne (y, u) h9 (by rw [← e]; exact hk)))
        · have h9 := h3 q (by simp [hq])
          exact own_far h9 (fun k hk => set_other _ (fun e => hne q h9 (by rw [← e]; exact hk)))
/-- what holds between two rounds of the document's Narrow -/
structure NdI (h : Hk) (c i : Nat) (fr : Option Nat) (last : Nat) (D : List Sp) (X : List Hk) : Prop where
  all : nD c h.rows.length h.rows 0 none 0 = D ++ nD c h.rows.length (h.rows.drop i) i fr last
  x : X = D.map fun s => cutP h s.1 s.2
  le : last ≤ i
  fle : ∀ f, fr = some f → f ≤ last ∧ 1 ≤ last
  none_ : fr = none → D = [] ∧ last = 0
  xl : X.length ≤ i
  nn : fr = none → ∀ r ∈ h.rows.take i, r.k = 1
def frI : Option Nat → Int
  | none => -1
  | some f => f
theorem ownH_some {w : World} {B : Nat} {v : Value} {x : Hk} {l : List Hk} (h : OwnH w B v (x :: l)) : ∃ g cap cur, v = .slice (some ⟨g, 0, none⟩) (x :: l).length cap ∧ B ≤ g ∧ w.heap[g]? = some (.cells cur 37) ∧ 6 ≤ cur.size := by
  obtain ⟨p, h1, h2, h3⟩ := h
  obtain ⟨g1, ⟨hv, hn⟩ | ⟨g, cap, cur, hv, hB, hh, hc, hm, hsz, htk⟩⟩ := h2
  · simp at hn
  · refine ⟨g, cap, cur, hv, hB, hh, ?_⟩
    rw [hsz]
    rw [List.length_cons] at hc
    omega
/-- a hunk that may be has no more rows than lines -/
theorem rows_le {l : List Rw} (h : l.all (fun r => r.k == 1 || Hu.isC r) = true) : l.length ≤ (Hu.olds l).length + (Hu.fres l).length := by
  induction l with
  | nil => exact Nat.zero_le _
  | cons r l ih =>
    rw [List.all_cons, Bool.and_eq_true] at h
    have h2 := ih h.2
    have h1 := h.1
    unfold Hu.olds Hu.fres at h2 ⊢
    simp only [List.length_map] at h2 ⊢
    by_cases e : Hu.isO r
    · rw [List.filter_cons_of_pos e, List.length_cons, List.length_cons]
      have := (List.Sublist.filter Hu.isF (List.sublist_cons_self r l)).length_le
      omega
    · have f : Hu.isF r := by
        unfold Hu.isO at e
        unfold Hu.isC at h1
        unfold Hu.isF
        simp at e h1 ⊢
        omega
      rw [List.filter_cons_of_pos f, List.length_cons, List.length_cons]
      have := (List.Sublist.filter Hu.isO (List.sublist_cons_self r l)).length_le
      omega
end Go.Proofs.YtnamioihapnefabGreatDoor
