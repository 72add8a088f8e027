/-
  The walk of putOldAhead: rows of a run in their block, put in order in place.
-/
import Derived.Test.YtnamioihapnefaaGreatDoorLc
import Derived.ArgAppend
import Derived.Laws.CopyRow
namespace Go.Proofs.YtnamioihapnefaaGreatDoor.Hu
/-- the rows RowOld ahead of the others -/
def srt2 (M : List Rw) : List Rw := M.filter (fun r => r.k == 2) ++ M.filter (fun r => !(r.k == 2))
theorem srt2_len (M : List Rw) : (srt2 M).length = M.length := by
  induction M with
  | nil => rfl
  | cons r M ih =>
    unfold srt2 at ih ⊢
    rw [List.filter_cons, List.filter_cons]
    cases h : r.k == 2 <;> simp at ih ⊢ <;> omega
end Go.Proofs.YtnamioihapnefaaGreatDoor.Hu
namespace Go.Proofs.YtnamioihapnefaaGreatDoor
open Go.RowKit
open Hu (Rw Hk)

/-- rows in a block, from a cell on -/
def Win (w : World) (b : Nat) (A : List Value) (M : List Rw) (C : List Value) : Prop := ∃ cur : Array Value, w.heap[b]? = some (.cells cur 63) ∧ cur.toList = A ++ (rwsC M ++ C)
theorem Win.lt {w : World} {b : Nat} {A C : List Value} {M : List Rw} (h : Win w b A M C) : b < w.heap.size := by obtain ⟨cur, h1, _⟩ := h; exact lt_of_heap h1
theorem Win.at {w : World} {b : Nat} {A C : List Value} {M : List Rw} (h : Win w b A M C) {k : Nat} {x : Rw} (hk : M[k]? = some x) : w.cell? ⟨b, A.length + k * 2, none⟩ = some (.int .i64 x.k) ∧ w.cell? ⟨b, A.length + k * 2 + 1, none⟩ = some (.string x.t) := by
  obtain ⟨cur, h1, h2⟩ := h
  have hkl := (List.getElem?_eq_some_iff.1 hk).1
  have key : ∀ i, i < 2 → w.cell? ⟨b, A.length + k * 2 + i, none⟩ = (rwC x)[i]? := by
    intro i hi
    rw [cell_of_blk h1, ← Array.getElem?_toList, h2, List.getElem?_append_right (by omega), List.getElem?_append_left (by rw [rwsC_length]; omega), show A.length + k * 2 + i - A.length = k * 2 + i by omega]
    exact rwsC_get hk i hi
  exact ⟨by have := key 0 (by omega); rw [Nat.add_zero] at this; exact this, key 1 (by omega)⟩
theorem Win.keep {w w' : World} {b : Nat} {A C : List Value} {M : List Rw} (h : Win w b A M C) (hb : w'.heap[b]? = w.heap[b]?) : Win w' b A M C := by
  obtain ⟨cur, h1, h2⟩ := h
  exact ⟨cur, hb.trans h1, h2⟩
theorem Win.put {w : World} {b m : Nat} {A C : List Value} {O R : List Rw} {y r : Rw} (h : Win w b A (O ++ y :: R) C) (hm : O.length = m) : Win ((w.setCell ⟨b, A.length + m * 2, none⟩ (.int .i64 r.k)).setCell ⟨b, A.length + m * 2 + 1, none⟩ (.string r.t)) b A (O ++ r :: R) C := by
  obtain ⟨cur, h1, h2⟩ := h
  refine ⟨_, set_heap _ b (A.length + m * 2 + 1) _ _ _ (set_heap w b (A.length + m * 2) _ _ _ h1), ?_⟩
  have hl : (rwsC O).length = m * 2 := by rw [rwsC_length, hm]
  have e0 : rwsC (O ++ y :: R) = rwsC O ++ (.int .i64 y.k :: .string y.t :: rwsC R) := by rw [rwsC_append]; rfl
  have e1 : rwsC (O ++ r :: R) = rwsC O ++ (.int .i64 r.k :: .string r.t :: rwsC R) := by rw [rwsC_append]; rfl
  rw [Array.toList_setIfInBounds, Array.toList_setIfInBounds, h2, e0, e1, List.append_assoc, List.append_assoc]
  have key : ∀ (j : Nat) (v : Value) (T : List Value), (A ++ (rwsC O ++ T)).set (A.length + m * 2 + j) v = A ++ (rwsC O ++ T.set j v) := by
    intro j v T
    rw [List.set_append_right _ _ (by omega), show A.length + m * 2 + j - A.length = m * 2 + j by omega, List.set_append_right _ _ (by omega), show m * 2 + j - (rwsC O).length = j by omega]
  have k0 := key 0
  rw [Nat.add_zero] at k0
  rw [k0, key 1]
  rfl
theorem wpList_append_in {w : World} {ops : Array Oper} {rest : List Oper} {o : Oper} {a : Act} {Q : Exit → Act → World → Prop} (hgd : o.guard = none) (s x : Operand)
    (ho : o.op = .call { callee := .builtin .append, args := #[s, x], argTypes := #[27, 27] }) (b off m c : Nat) (hs : a.eval s = .slice (some ⟨b, off, none⟩) m c) (hlt : m < c)
    (g : Nat) (r : Rw) (hx : a.eval x = .slice (some ⟨g, 0, none⟩) 1 1) (hg : w.heap[g]? = some (.cells #[.int .i64 r.k, .string r.t] 63)) (cur : Array Value) (hb : w.heap[b]? = some (.cells cur 63)) (hfit : off + m * 2 + 2 ≤ cur.size)
    (h : wpList Tryz.prog ops Q rest (a.put o.dst (.slice (some ⟨b, off, none⟩) (m + 1) c)) ((w.setCell ⟨b, off + m * 2, none⟩ (.int .i64 r.k)).setCell ⟨b, off + m * 2 + 1, none⟩ (.string r.t))) : wpList Tryz.prog ops Q (o :: rest) a w := by
  obtain ⟨i0, hi, hz0, hz1, hz2⟩ := info_parts Tryz.infoRow
  refine wpList_plain hgd fun K hK => ?_
  have hrun := run_append_room_cells (P := Tryz.prog) w 27 o.type 63 i0 Tryz.underlying27 hi b off m c ⟨g, 0, none⟩ 1 1 (rwC r) (by rw [hz1]; rfl) (World.news_of_block (cs := #[.int .i64 r.k, .string r.t]) hg) (by
    have := rwsC_one [r]
    simpa [rwsC] using this) (by omega) (fun j hj => by
    rw [hz1, cell_of_blk hb]
    have hj2 : j < 2 := hj
    rw [Array.getElem?_eq_getElem (by omega)]
    rfl) (fun j _ => frozen_of_blk hb _)
  rw [hz1] at hrun
  have e : w.setCells b (off + m * 2) (rwC r) = (w.setCell ⟨b, off + m * 2, none⟩ (.int .i64 r.k)).setCell ⟨b, off + m * 2 + 1, none⟩ (.string r.t) := rfl
  rw [e] at hrun
  unfold Oper.wp
  simp [execOp, ho, resolve, invoke, builtin, hs, hx, hrun, Result.andThen]
  exact hK _ _ h
theorem run_copy_rows {w : World} {ty : TypeId} {g o dLen dCap : Nat} {a : Addr} {sLen sCap : Nat} {cur : Array Value} {cs : List Value} (hg : w.heap[g]? = some (.cells cur 63)) (hn : cs.length = Nat.min sLen dLen * 2)
    (hsrc : ∀ j v, cs[j]? = some v → w.cell? (a.add j) = some v) (hfit : o + cs.length ≤ cur.size) (h1 : ∀ v ∈ cs, v.oneCell' = true) :
    (Builtin.copy_ #[27, 27] ty #[.slice (some ⟨g, o, none⟩) dLen dCap, .slice (some a) sLen sCap]).run Tryz.prog w = .ok (goInt (Nat.min sLen dLen)) (w.setRow g (cur.toList.take o ++ cs ++ cur.toList.drop (o + cs.length)).toArray) := by
  obtain ⟨i0, hi, hz0, hz1, hz2⟩ := info_parts Tryz.infoRow
  have hl := run_loadCells_list (P := Tryz.prog) w a cs hsrc
  rw [hn] at hl
  have hst := run_storeCells_at Tryz.prog g o 63 cs 0 cur w hg (by simpa using hfit) h1
  simp [Builtin.copy_, run_underlying Tryz.underlying27, Builtin.lenOf, Builtin.firstCells, sizeOf, typeInfo, hi, hz1, hl, hst]
end Go.Proofs.YtnamioihapnefaaGreatDoor
