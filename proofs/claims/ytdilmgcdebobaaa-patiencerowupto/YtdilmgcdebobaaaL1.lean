/-
  The walk of sideOf.
-/
import Derived.Test.YtdilmgcdebobaaaL0
namespace Go.Proofs.Ytdilmgcdebobaaa
open Go.RowKit
open Go.Maps (Keyed Tidy)

theorem Try.infoInt : (Try.prog.info? 3).map (fun i => (i.zero, i.size, i.bytes)) = some (some (.int .i64 0), 1, 8) := by kernel_rfl
theorem Try.infoBool : (Try.prog.info? 4).map (fun i => (i.zero, i.size, i.bytes)) = some (some (.bool false), 1, 1) := by kernel_rfl
theorem mkI (n : Nat) (hn : n ≤ 100000000) (w : World) : (Instr.makeSlice 22 (.int .i64 0) (.int .i64 (n : Int))).run Try.prog w = .ok (.slice (some ⟨w.heap.size, 0, none⟩) 0 n) (w.alloc (.cells (madeCells (Value.int .i64 0).cells (n * 1)) 3)) := by
  cases hi : Try.prog.info? 3 with
  | none => have h := Try.infoInt; rw [hi] at h; cases h
  | some i =>
    have h := Try.infoInt
    rw [hi] at h
    simp at h
    obtain ⟨h1, h2, h3⟩ := h
    have := run_make (P := Try.prog) w 22 3 i (.int .i64 0) Try.underlying22 hi h1 .i64 .i64 0 n (by omega) (by omega) (by rw [h3]; omega) (by omega)
    rw [h2] at this
    simpa using this
theorem mkB (n : Nat) (hn : n ≤ 100000000) (w : World) : (Instr.makeSlice 126 (.int .i64 (n : Int)) (.int .i64 (n : Int))).run Try.prog w = .ok (.slice (some ⟨w.heap.size, 0, none⟩) n n) (w.alloc (.cells (madeCells (Value.bool false).cells (n * 1)) 4)) := by
  cases hi : Try.prog.info? 4 with
  | none => have h := Try.infoBool; rw [hi] at h; cases h
  | some i =>
    have h := Try.infoBool
    rw [hi] at h
    simp at h
    obtain ⟨h1, h2, h3⟩ := h
    have := run_make (P := Try.prog) w 126 4 i (.bool false) Try.underlying126 hi h1 .i64 .i64 n n (by omega) (by omega) (by rw [h3]; omega) (by omega)
    rw [h2] at this
    simpa using this

theorem mkMap (n : Int) (w : World) : (Instr.makeMap 135 (some (.int .i64 n))).run Try.prog w = .ok (.map (some w.heap.size)) (w.alloc (.map #[] 0)) := by
  simp [Instr.makeMap, run_underlying Try.underlying135, asInt, asIntOf]
theorem kept_of_grown {w w' : World} {g : Nat} (h : w.grownBy w' (some g)) : Kept (fun j => j = g) w w' :=
  ⟨h.os, h.tape, h.output, h.size, fun i hi hx => h.block i hi (fun e => hx (by cases e; rfl))⟩
theorem cnt_zero {l : List Int} {x : Int} : ((l.count x : Int) == 0) = !My.inL l x := by
  unfold My.inL
  by_cases h : x ∈ l
  · have := List.count_pos_iff.2 h
    rw [decide_eq_true h]
    exact beq_eq_false_iff_ne.2 (by omega)
  · rw [decide_eq_false h, List.count_eq_zero.2 h]; rfl

def SdI (w wc : World) (gS gn gp gc n : Nat) (MI MB : Array Value) : Prop :=
  wc.heap[gS]? = some (.cells #[.slice (some ⟨gn, 0, none⟩) 0 n, .slice (some ⟨gp, 0, none⟩) 0 n, .slice (some ⟨gc, 0, none⟩) n n] 128) ∧ wc.heap[gn]? = some (.cells MI 3) ∧ wc.heap[gp]? = some (.cells MI 3) ∧ wc.heap[gc]? = some (.cells MB 4) ∧
  (w.heap.size ≤ gS ∧ w.heap.size ≤ gn ∧ w.heap.size ≤ gp ∧ w.heap.size ≤ gc) ∧ (gS ≠ gn ∧ gS ≠ gp ∧ gS ≠ gc ∧ gn ≠ gp ∧ gn ≠ gc ∧ gp ≠ gc) ∧ Below w.heap.size w wc
theorem alloc_stays {w : World} {g : Nat} {o : Obj} (h : w.heap[g]? = some o) (X : Obj) : (w.alloc X).heap[g]? = some o := (((Below.refl _ _).alloc (Nat.le_refl _) X).block g (lt_of_heap h)).trans h
theorem alloc_at {w : World} {g : Nat} (X : Obj) (h : g = w.heap.size) : (w.alloc X).heap[g]? = some X := by rw [h]; exact heap_alloc_new w X
theorem four_alloc (w : World) (A B C D : Obj) :
    ((((w.alloc A).alloc B).alloc C).alloc D).drew.heap[w.heap.size]? = some A ∧ ((((w.alloc A).alloc B).alloc C).alloc D).drew.heap[w.heap.size + 1]? = some B ∧ ((((w.alloc A).alloc B).alloc C).alloc D).drew.heap[w.heap.size + 1 + 1]? = some C ∧ ((((w.alloc A).alloc B).alloc C).alloc D).drew.heap[w.heap.size + 1 + 1 + 1]? = some D ∧ Below w.heap.size w ((((w.alloc A).alloc B).alloc C).alloc D).drew := by
  refine ⟨?_, ?_, ?_, ?_, (((((Below.refl _ _).alloc (Nat.le_refl _) _).alloc (by simp) _).alloc (by simp; omega) _).alloc (by simp; omega) _).drew⟩
  · exact alloc_stays (alloc_stays (alloc_stays (alloc_at A rfl) B) C) D
  · exact alloc_stays (alloc_stays (alloc_at B (by simp)) C) D
  · exact alloc_stays (alloc_at C (by simp)) D
  · exact alloc_at D (by simp)
theorem sd_of {w W : World} {gS gn gp gc n : Nat} {MI MB : Array Value} (h1 : W.heap[gS]? = some (.cells #[.slice (some ⟨gn, 0, none⟩) 0 n, .slice (some ⟨gp, 0, none⟩) 0 n, .slice (some ⟨gc, 0, none⟩) n n] 128)) (h2 : W.heap[gn]? = some (.cells MI 3)) (h3 : W.heap[gp]? = some (.cells MI 3)) (h4 : W.heap[gc]? = some (.cells MB 4))
    (h5 : w.heap.size ≤ gS ∧ w.heap.size ≤ gn ∧ w.heap.size ≤ gp ∧ w.heap.size ≤ gc) (h6 : gS ≠ gn ∧ gS ≠ gp ∧ gS ≠ gc ∧ gn ≠ gp ∧ gn ≠ gc ∧ gp ≠ gc) (h7 : Below w.heap.size w W) :
    ∃ gS' gn gp gc : Nat, Value.pointer (some ⟨gS, 0, none⟩) = .pointer (some ⟨gS', 0, none⟩) ∧ Hid (SdI w W gS' gn gp gc n MI MB) := ⟨gS, gn, gp, gc, rfl, h1, h2, h3, h4, h5, h6, h7⟩
/-- a side that is being made -/
structure SdK (w : World) (B gS gn gp gc n : Nat) (N P : List Int) (C : List Bool) : Prop where
  blk : w.heap[gS]? = some (.cells #[.slice (some ⟨gn, 0, none⟩) N.length n, .slice (some ⟨gp, 0, none⟩) P.length n, .slice (some ⟨gc, 0, none⟩) n n] 128)
  nums : w.ownsRow B 3 1 (.slice (some ⟨gn, 0, none⟩) N.length n) N.length (isC N)
  plcs : w.ownsRow B 3 1 (.slice (some ⟨gp, 0, none⟩) P.length n) P.length (isC P)
  marks : BlR w gc C
theorem bsC_made (n : Nat) : madeCells (Value.bool false).cells (n * 1) = (bsC (List.replicate n false)).toArray := by
  apply Array.ext'
  rw [show (Value.bool false).cells = #[Value.bool false] from rfl, Nat.mul_one, toList_madeCells_one]
  simp [bsC]
theorem SdI.begin {w wc : World} {gS gn gp gc n : Nat} {MI MB : Array Value} (h : SdI w wc gS gn gp gc n MI MB) (hMI : MI = madeCells (Value.int .i64 0).cells (n * 1)) (hMB : MB = madeCells (Value.bool false).cells (n * 1)) (hn : n ≤ 10000000) : SdK wc w.heap.size gS gn gp gc n [] [] (List.replicate n false) := by
  obtain ⟨h1, h2, h3, h4, ⟨_, b2, b3, b4⟩, _, _⟩ := h
  have hsz : MI.size = n * 1 := by rw [hMI]; exact size_madeCells _ _
  refine ⟨h1, ?_, ?_, ?_⟩
  · exact ⟨rfl, .inr ⟨gn, n, MI, rfl, b2, h2, Nat.zero_le _, by unfold maxLen; omega, by omega, rfl⟩⟩
  · exact ⟨rfl, .inr ⟨gp, n, MI, rfl, b3, h3, Nat.zero_le _, by unfold maxLen; omega, by omega, rfl⟩⟩
  · unfold BlR
    rw [h4, hMB, bsC_made]
theorem SdK.far {w w' : World} {B gS gn gp gc n : Nat} {N P : List Int} {C : List Bool} (h : SdK w B gS gn gp gc n N P C) (hb : Below w.heap.size w w') : SdK w' B gS gn gp gc n N P C :=
  ⟨(hb.block gS (lt_of_heap h.blk)).trans h.blk, own_stays h.nums hb, own_stays h.plcs hb, h.marks.far (hb.block gc h.marks.lt)⟩
/-- a mark more -/
theorem SdK.mark {w : World} {B gS gn gp gc n : Nat} {N P : List Int} {C : List Bool} (h : SdK w B gS gn gp gc n N P C) (h1 : gS ≠ gc) (h2 : gn ≠ gc) (h3 : gp ≠ gc) (k : Nat) : SdK (w.setCell ⟨gc, k, none⟩ (.bool true)) B gS gn gp gc n N P (C.set k true) :=
  ⟨(set_other w h1).trans h.blk, own_far h.nums (fun g hg => by cases hg; exact set_other w h2), own_far h.plcs (fun g hg => by cases hg; exact set_other w h3), h.marks.set k true⟩
/-- a number more -/
theorem SdK.num {w w' : World} {B gS gn gp gc n : Nat} {N P : List Int} {C : List Bool} {x : Int} (h : SdK w B gS gn gp gc n N P C) (hK : Kept (fun j => j = gn) w w') (h1 : gS ≠ gn) (h2 : gp ≠ gn) (h3 : gc ≠ gn) (h4 : gS ≠ gp) (h5 : gS ≠ gc) (hO : w'.ownsRow B 3 1 (.slice (some ⟨gn, 0, none⟩) (N.length + 1) n) (N.length + 1) (isC N ++ [.int .i64 x])) :
    SdK (w'.setCell ⟨gS, 0, none⟩ (.slice (some ⟨gn, 0, none⟩) (N.length + 1) n)) B gS gn gp gc n (N ++ [x]) P C := by
  have hb := (hK.block gS (lt_of_heap h.blk) h1).trans h.blk
  refine ⟨?_, ?_, ?_, ?_⟩
  · have := set_heap w' gS 0 _ _ (.slice (some ⟨gn, 0, none⟩) (N.length + 1) n) hb
    rw [List.length_append]
    exact this
  · have h6 := own_far (w' := w'.setCell ⟨gS, 0, none⟩ (.slice (some ⟨gn, 0, none⟩) (N.length + 1) n)) hO (fun g hg => by cases hg; exact set_other w' (Ne.symm h1))
    rw [List.length_append, isC_append]
    exact h6
  · exact own_far h.plcs (fun g hg => by cases hg; exact (set_other w' (Ne.symm h4)).trans (hK.block gp (own_lt h.plcs gp rfl) h2))
  · exact (h.marks.far (hK.block gc h.marks.lt h3)).far (set_other w' (Ne.symm h5))
/-- a place more -/
theorem SdK.plc {w w' : World} {B gS gn gp gc n : Nat} {N P : List Int} {C : List Bool} {x : Int} (h : SdK w B gS gn gp gc n N P C) (hK : Kept (fun j => j = gp) w w') (h1 : gS ≠ gp) (h2 : gn ≠ gp) (h3 : gc ≠ gp) (h4 : gS ≠ gn) (h5 : gS ≠ gc) (hO : w'.ownsRow B 3 1 (.slice (some ⟨gp, 0, none⟩) (P.length + 1) n) (P.length + 1) (isC P ++ [.int .i64 x])) :
    SdK (w'.setCell ⟨gS, 1, none⟩ (.slice (some ⟨gp, 0, none⟩) (P.length + 1) n)) B gS gn gp gc n N (P ++ [x]) C := by
  have hb := (hK.block gS (lt_of_heap h.blk) h1).trans h.blk
  refine ⟨?_, ?_, ?_, ?_⟩
  · have := set_heap w' gS 1 _ _ (.slice (some ⟨gp, 0, none⟩) (P.length + 1) n) hb
    rw [List.length_append]
    exact this
  · exact own_far h.nums (fun g hg => by cases hg; exact (set_other w' (Ne.symm h4)).trans (hK.block gn (own_lt h.nums gn rfl) h2))
  · have h6 := own_far (w' := w'.setCell ⟨gS, 1, none⟩ (.slice (some ⟨gp, 0, none⟩) (P.length + 1) n)) hO (fun g hg => by cases hg; exact set_other w' (Ne.symm h1))
    rw [List.length_append, isC_append]
    exact h6
  · exact (h.marks.far (hK.block gc h.marks.lt h3)).far (set_other w' (Ne.symm h5))

end Go.Proofs.Ytdilmgcdebobaaa
