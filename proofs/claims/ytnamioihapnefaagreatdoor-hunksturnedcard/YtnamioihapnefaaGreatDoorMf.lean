/-
  A list of hunks that is made, and written into.
-/
import Derived.Test.YtnamioihapnefaaGreatDoorMe
import Derived.Test.YtnamioihapnefaaGreatDoorGrKc
import Derived.Test.YtnamioihapnefaaGreatDoorMc
namespace Go.Proofs.YtnamioihapnefaaGreatDoor
open Go.RowKit
open Hu (Rw Hk)

def zH : Hk := ⟨0, 0, 0, 0, .empty, []⟩
def zHV : Value := .agg #[.int .i64 0, .int .i64 0, .int .i64 0, .int .i64 0, .string .empty, .slice none 0 0]
theorem mkH (n : Nat) (hn : n ≤ 4294967296) (w : World) : (Instr.makeSlice 22 (.int .i64 (n : Int)) (.int .i64 (n : Int))).run Tryz.prog w = .ok (.slice (some ⟨w.heap.size, 0, none⟩) n n) (w.alloc (.cells (madeCells zHV.cells (n * 6)) 29)) := by
  obtain ⟨i, hi, h1, h2, h3⟩ := info_parts Tryz.infoHunk
  have := run_make (P := Tryz.prog) w 22 29 i zHV Tryz.underlying22 hi h1 .i64 .i64 n n (by omega) (by omega) (by rw [h3]; omega) (by omega)
  rw [h2] at this
  simpa using this
theorem made_hks (n : Nat) : (madeCells zHV.cells (n * 6)).toList = hksC (List.replicate n (zH, .slice none 0 0)) := by
  apply List.ext_getElem?
  intro j
  by_cases hj : j < n * 6
  · have e1 : (List.replicate n (zH, (.slice none 0 0 : Value)))[j / 6]? = some (zH, .slice none 0 0) := by
      rw [List.getElem?_replicate, if_pos (by omega)]
    have e2 := hksC_get e1 (j % 6) (Nat.mod_lt _ (by decide))
    rw [show j / 6 * 6 + j % 6 = j by omega] at e2
    rw [e2]
    unfold madeCells
    rw [Array.toList_map, Array.toList_range, List.getElem?_map, List.getElem?_range hj]
    have hm : j % 6 < 6 := Nat.mod_lt _ (by decide)
    show some (zHV.cells[j % 6]!) = _
    generalize j % 6 = m at hm
    match m, hm with
    | 0, _ => rfl
    | 1, _ => rfl
    | 2, _ => rfl
    | 3, _ => rfl
    | 4, _ => rfl
    | 5, _ => rfl
  · rw [List.getElem?_eq_none (by unfold madeCells; simp; omega), List.getElem?_eq_none (by rw [hksC_length, List.length_replicate]; omega)]
theorem ownH_made (n : Nat) (hn : n ≤ 4294967296) (w : World) : OwnH (w.alloc (.cells (madeCells zHV.cells (n * 6)) 29)) w.heap.size (.slice (some ⟨w.heap.size, 0, none⟩) n n) (List.replicate n zH) := by
  refine ⟨List.replicate n (zH, .slice none 0 0), by simp, ⟨by rw [hksC_length, List.length_replicate, List.length_replicate], .inr ⟨w.heap.size, n, _, by rw [List.length_replicate], Nat.le_refl _, heap_alloc_new w _, by rw [List.length_replicate]; exact Nat.le_refl _, by unfold maxLen; omega, by unfold madeCells; simp, ?_⟩⟩, fun q hq => ?_⟩
  · rw [made_hks, List.length_replicate]
    exact List.take_of_length_le (by rw [hksC_length, List.length_replicate]; exact Nat.le_refl _)
  · rw [List.eq_of_mem_replicate hq]
    exact World.ownsRow_nil _ _ _ _
/-- one hunk of the list written over -/
theorem ownH_put {w : World} {B g n cap o i : Nat} {x k : Hk} {l : List Hk} {u : Value} (h : OwnH w B (.slice (some ⟨g, 0, none⟩) n cap) l) (hx : l[i]? = some x) (ho : o = i * 6) (hu : OwnW w B u k.rows) :
    OwnH ((((((w.setCell ⟨g, o, none⟩ (.int .i64 k.a)).setCell ⟨g, o + 1, none⟩ (.int .i64 k.n)).setCell ⟨g, o + 2, none⟩ (.int .i64 k.b)).setCell ⟨g, o + 3, none⟩ (.int .i64 k.m)).setCell ⟨g, o + 4, none⟩ (.string k.head)).setCell ⟨g, o + 5, none⟩ u) B (.slice (some ⟨g, 0, none⟩) n cap) (l.set i k) := by
  obtain ⟨p, h1, h2, h3⟩ := h
  obtain ⟨g1, ⟨hv, _⟩ | ⟨g', cap', cur, hv, hB, hh, hc, hm, hsz, htk⟩⟩ := h2
  · cases hv
  have hv2 : g = g' ∧ n = l.length ∧ cap = cap' := by
    simp only [Value.slice.injEq, Option.some.injEq, Addr.mk.injEq, and_true] at hv
    exact hv
  obtain ⟨rfl, rfl, rfl⟩ := hv2
  have hil : i < l.length := (List.getElem?_eq_some_iff.1 hx).1
  have hpl : p.length = l.length := by rw [← h1, List.length_map]
  have hne : ∀ q : Hk × Value, OwnW w B q.2 q.1.rows → q.2.ownBlock ≠ some g := fun q hq => own_ne hq hh (by decide)
  have hh6 := set_heap _ g (o + 5) _ _ u (set_heap _ g (o + 4) _ _ (.string k.head) (set_heap _ g (o + 3) _ _ (.int .i64 k.m) (set_heap _ g (o + 2) _ _ (.int .i64 k.b) (set_heap _ g (o + 1) _ _ (.int .i64 k.n) (set_heap w g o _ _ (.int .i64 k.a) hh)))))
  have hfar : ∀ j, j ≠ g → ((((((w.setCell ⟨g, o, none⟩ (.int .i64 k.a)).setCell ⟨g, o + 1, none⟩ (.int .i64 k.n)).setCell ⟨g, o + 2, none⟩ (.int .i64 k.b)).setCell ⟨g, o + 3, none⟩ (.int .i64 k.m)).setCell ⟨g, o + 4, none⟩ (.string k.head)).setCell ⟨g, o + 5, none⟩ u).heap[j]? = w.heap[j]? := by
    intro j hj
    rw [set_other _ hj, set_other _ hj, set_other _ hj, set_other _ hj, set_other _ hj, set_other _ hj]
  generalize ((((((w.setCell ⟨g, o, none⟩ (.int .i64 k.a)).setCell ⟨g, o + 1, none⟩ (.int .i64 k.n)).setCell ⟨g, o + 2, none⟩ (.int .i64 k.b)).setCell ⟨g, o + 3, none⟩ (.int .i64 k.m)).setCell ⟨g, o + 4, none⟩ (.string k.head)).setCell ⟨g, o + 5, none⟩ u) = w6 at hh6 hfar ⊢
  refine ⟨p.set i (k, u), by rw [List.map_set, h1], ⟨by rw [hksC_length, List.length_set, List.length_set, hpl], .inr ⟨g, cap, _, by rw [List.length_set], hB, hh6, by rw [List.length_set]; exact hc, hm, by simp only [Array.size_setIfInBounds]; exact hsz, ?_⟩⟩, fun q hq => ?_⟩
  · simp only [Array.toList_setIfInBounds, List.length_set, List.take_set, htk]
    obtain ⟨y, hy⟩ : ∃ y, p[i]? = some y := ⟨_, List.getElem?_eq_getElem (by omega)⟩
    have hp := List.take_append_drop i p
    have hd : p.drop i = y :: p.drop (i + 1) := List.drop_eq_getElem_cons (by omega) |>.trans (by rw [List.getElem?_eq_getElem (by omega)] at hy; cases hy; rfl)
    rw [hd] at hp
    have hA : (p.take i).length = i := by rw [List.length_take]; omega
    have hAL : (hksC (p.take i)).length = o := by rw [hksC_length, hA, ho]
    have hset : ∀ (j : Nat) (v : Value) (R : List Value), (hksC (p.take i) ++ R).set (o + j) v = hksC (p.take i) ++ R.set j v := by
      intro j v R
      rw [List.set_append_right _ _ (by omega), show o + j - (hksC (p.take i)).length = j by omega]
    have e0 : hksC p = hksC (p.take i) ++ (hkC y ++ hksC (p.drop (i + 1))) := by
      conv => lhs; rw [← hp]
      rw [hksC_append]
      rfl
    have e1 : p.set i (k, u) = p.take i ++ (k, u) :: p.drop (i + 1) := by
      rw [List.set_eq_take_append_cons_drop, if_pos (by omega)]
    rw [e1, e0, hksC_append]
    have h0 := hset 0 (.int .i64 k.a)
    rw [Nat.add_zero] at h0
    rw [h0, hset, hset, hset, hset, hset]
    rfl
  · have hq' : OwnW w B q.2 q.1.rows := by
      rcases List.mem_or_eq_of_mem_set hq with hq | rfl
      · exact h3 q hq
      · exact hu
    exact own_far hq' (fun j hj => hfar j (fun e => hne q hq' (by rw [← e]; exact hj)))
end Go.Proofs.YtnamioihapnefaaGreatDoor
