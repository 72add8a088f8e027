/-
  Several texts in one: Kf, Kg, Kh, Ki, Kk, Kl.
-/
import Derived.Test.YthnibchlgcgalaaGreatDoorKe
import Derived.Test.YthnibchlgcgalaaGreatDoorGrD2
import Derived.Test.YthnibchlgcgalaaGreatDoorGrJd
import Derived.Test.YthnibchlgcgalaaGreatDoorGrC
import Derived.SizedLaws
import Derived.SliceStrings
/-
  The laws' same, where the hunks are the same.
-/
namespace Go.Proofs.YthnibchlgcgalaaGreatDoor
open Go.RowKit
open Hu (Rw Hk)

theorem ba_same (x : ByteArray) : (x == x) = true := by
  cases x
  exact beq_self_eq_true (α := Array UInt8) _
theorem two (w : World) (A B : Obj) : Below w.heap.size w ((w.alloc A).alloc B) ∧ ((w.alloc A).alloc B).heap[w.heap.size]? = some A ∧ ((w.alloc A).alloc B).heap[w.heap.size + 1]? = some B := by
  have h0 := (Below.refl w.heap.size w).alloc (Nat.le_refl _) A
  have h1 := (Below.refl (w.alloc A).heap.size (w.alloc A)).alloc (Nat.le_refl _) B
  have hs : (w.alloc A).heap.size = w.heap.size + 1 := by simp
  refine ⟨h0.alloc h0.size B, (h1.block w.heap.size (by omega)).trans (heap_alloc_new w A), ?_⟩
  rw [← hs]
  exact heap_alloc_new (w.alloc A) B
end Go.Proofs.YthnibchlgcgalaaGreatDoor
/-
  The laws' sameAll, where the hunks are the same.
-/
namespace Go.Proofs.YthnibchlgcgalaaGreatDoor
open Go.RowKit
open Hu (Rw Hk)

end Go.Proofs.YthnibchlgcgalaaGreatDoor
/-
  The laws' twin (made by wip/genkh.py).
-/
namespace Go.Proofs.YthnibchlgcgalaaGreatDoor
open Go.RowKit
open Hu (Rw Hk)

end Go.Proofs.YthnibchlgcgalaaGreatDoor
/-
  The laws' twins.
-/
namespace Go.Proofs.YthnibchlgcgalaaGreatDoor
open Go.RowKit
open Hu (Rw Hk)

/-- the rows' slices of a list of hunks that came in: none with nothing, or some -/
def ArgH (w : World) (v : Value) (n : Nat) : Prop := ∀ b o m c, v = .slice (some ⟨b, o, none⟩) m c → ∀ k < n, ∀ u, w.cell? ⟨b, o + k * 6 + 5, none⟩ = some u → ArgS u
theorem take_moreH {l : List Hk} {k : Nat} {x : Hk} (h : l[k]? = some x) : l.take (k + 1) = l.take k ++ [x] := by
  rw [List.take_add_one, h]; rfl
end Go.Proofs.YthnibchlgcgalaaGreatDoor
/-
  A list of hunks as an argument: opened, sized.
-/
namespace Go.Proofs.YthnibchlgcgalaaGreatDoor
open Go.RowKit Go.Deep Go.ChangeShapes Go.WideShapes Go.ChangeAt
open Hu (Rw Hk)

instance : Inhabited Rw := ⟨⟨0, .empty⟩⟩
set_option maxRecDepth 100000 in
theorem open_rw {H : Type} {enc : TypeId × Value → H} {W : World} {n : Nat} {a : Addr} {D : DataW H} {Pl : List MemPlace} {cs : List Value} (h1 : W.cells? 0 a 2 = some cs) (h2 : DataW.trod enc Tryz.prog W 0 (fun _ => true) true n 50 cs = some (D, Pl)) :
    ∃ c : Rw, I64 c.k ∧ c.t.size ≤ maxLen ∧ W.cell? (a.add 0) = some (.int .i64 c.k) ∧ W.cell? (a.add 1) = some (.string c.t) := by
  obtain ⟨_, hlen, hcell⟩ := World.cells?_some h1
  obtain ⟨xs, k, hk, hxy, _, hxl, hf⟩ := DataW.trod_struct Tryz.underlying50 h2
  have hc1 : Tryz.prog.cellsOf 3 = 1 := by kernel_rfl
  have hc2 : Tryz.prog.cellsOf 9 = 1 := by kernel_rfl
  match cs, hlen with
  | [v0, v1], _ =>
    match xs, hxl with
    | [y0, y1], _ =>
      have g0 : DataW.trod enc Tryz.prog W 0 (fun _ => true) true k 3 (([v0, v1].drop 0).take (Tryz.prog.cellsOf 3)) = some y0 := hf 0 _ rfl
      rw [hc1] at g0
      have g1 : DataW.trod enc Tryz.prog W 0 (fun _ => true) true k 9 (([v0, v1].drop 1).take (Tryz.prog.cellsOf 9)) = some y1 := hf 1 _ rfl
      rw [hc2] at g1
      obtain ⟨x0, e0, _, w0⟩ := DataW.trod_int Tryz.underlying3 (show DataW.trod enc Tryz.prog W 0 (fun _ => true) true k 3 [v0] = some y0 from g0)
      obtain ⟨x1, e1, _, w1⟩ := DataW.trod_string Tryz.underlying9 (show DataW.trod enc Tryz.prog W 0 (fun _ => true) true k 9 [v1] = some y1 from g1)
      cases e0
      cases e1
      exact ⟨⟨x0, x1⟩, wf_I64 w0, w1, hcell 0 (by omega), hcell 1 (by omega)⟩
theorem rwsC_back {l : List Rw} {j : Nat} {u : Value} (h : (rwsC l)[j]? = some u) : ∃ k i c, j = k * 2 + i ∧ i < 2 ∧ l[k]? = some c ∧ (rwC c)[i]? = some u := by
  have hj : j < l.length * 2 := by
    rw [← rwsC_length]
    rcases Nat.lt_or_ge j (rwsC l).length with q | q
    · exact q
    · rw [List.getElem?_eq_none q] at h; cases h
  have hk : j / 2 < l.length := by omega
  obtain ⟨c, hc⟩ : ∃ c, l[j / 2]? = some c := ⟨_, List.getElem?_eq_getElem hk⟩
  refine ⟨j / 2, j % 2, c, by omega, by omega, hc, ?_⟩
  rw [← rwsC_get hc (j % 2) (by omega), show j / 2 * 2 + j % 2 = j by omega]
  exact h
theorem open_rws {H : Type} {enc : TypeId × Value → H} {W : World} {u : Value} {x : DataW H × List MemPlace} {fuel : Nat}
    (hf : DataW.trod enc Tryz.prog W 0 (fun _ => true) true fuel 46 [u] = some x) :
    ∃ l : List Rw, RdW W u l ∧ (∀ c ∈ l, I64 c.k ∧ c.t.size ≤ maxLen) ∧ ArgS u ∧ ((l = [] ∧ x.1 = .nil) ∨ ∃ (D : Nat → DataW H) (sp : List (DataW H)), x.1 = .slice ((List.range l.length).map D) sp) := by
  have hc4 : Tryz.prog.cellsOf 50 = 2 := by kernel_rfl
  rcases open_slice Tryz.underlying46 hf with ⟨hcs, hx⟩ | ⟨a, len0, cap0, m, n, D, Pl, hcs, _, hl, _, hmm, hx, hcl⟩
  · simp at hcs
    subst hcs
    subst hx
    exact ⟨[], .inl ⟨rfl, none, 0, rfl⟩, by simp, .inl rfl, .inl ⟨rfl, rfl⟩⟩
  · simp at hcs
    subst hcs
    have hd := congrArg Prod.fst hx
    have hlm : len0 ≤ m := by simp at hmm; omega
    rw [hc4] at hcl
    obtain ⟨f, hf'⟩ := choose_lt (n := len0) (p := fun i (c : Rw) => (I64 c.k ∧ c.t.size ≤ maxLen) ∧ W.cell? ((a.add (i * 2)).add 0) = some (.int .i64 c.k) ∧ W.cell? ((a.add (i * 2)).add 1) = some (.string c.t)) (fun i hi => by
      obtain ⟨cs', h1, h2⟩ := hcl i (by omega)
      obtain ⟨c, q1, q2, q3, q4⟩ := open_rw h1 h2
      exact ⟨c, ⟨q1, q2⟩, q3, q4⟩)
    have hlen : ((List.range len0).map f).length = len0 := by simp
    refine ⟨(List.range len0).map f, ?_, ?_, .inr ⟨_, _, _, rfl⟩, .inr ⟨D, _, by rw [hlen]; exact hd⟩⟩
    · by_cases h0 : len0 = 0
      · subst h0
        exact .inl ⟨rfl, some a, cap0, rfl⟩
      · have hfirst := (hf' 0 (by omega)).2.1
        have e00 : (a.add (0 * 2)).add 0 = a := by simp [Addr.add]
        rw [e00] at hfirst
        obtain ⟨b, o, rfl, hb⟩ := addr_none4 hfirst
        refine .inr ⟨b, o, cap0, by rw [hlen], by rw [hlen]; exact hl, hb, fun j u hj => ?_⟩
        obtain ⟨k, i, c, rfl, hi, hk, hu⟩ := rwsC_back hj
        have hkl : k < len0 := by
          rcases Nat.lt_or_ge k len0 with q | q
          · exact q
          · rw [List.getElem?_eq_none (by rw [hlen]; exact q)] at hk; cases hk
        have hfk : c = f k := by
          rw [List.getElem?_map, List.getElem?_range hkl] at hk
          simpa using hk.symm
        subst hfk
        obtain ⟨_, c0, c1⟩ := hf' k hkl
        rw [Go.WideShapes.add_plain, Go.WideShapes.add_plain] at c0 c1
        match i, hi with
        | 0, _ => cases hu; exact c0
        | 1, _ => cases hu; rw [← Nat.add_assoc]; exact c1
    · intro c hc
      obtain ⟨i, hi, rfl⟩ := List.mem_map.1 hc
      exact (hf' i (List.mem_range.1 hi)).1

/-- the numbers of a hunk are ints -/
def WfH (h : Hk) : Prop := I64 h.a ∧ I64 h.n ∧ I64 h.b ∧ I64 h.m ∧ (∀ r ∈ h.rows, I64 r.k)
/-- what a hunk's datum is -/
def DatH {H : Type} (c : Hk) (D : DataW H) : Prop := ∃ d0 d1 d2 d3 d4 d5, D = .agg [d0, d1, d2, d3, d4, d5] ∧ ((c.rows = [] ∧ d5 = .nil) ∨ ∃ (E : Nat → DataW H) (sp : List (DataW H)), d5 = .slice ((List.range c.rows.length).map E) sp)
set_option maxRecDepth 100000 in
theorem open_hk {H : Type} {enc : TypeId × Value → H} {W : World} {n : Nat} {a : Addr} {D : DataW H} {Pl : List MemPlace} {cs : List Value} (h1 : W.cells? 0 a 6 = some cs) (h2 : DataW.trod enc Tryz.prog W 0 (fun _ => true) true n 48 cs = some (D, Pl)) :
    ∃ q : Hk × Value, (WfH q.1 ∧ (∀ r ∈ q.1.rows, r.t.size ≤ maxLen) ∧ q.1.head.size ≤ maxLen ∧ RdW W q.2 q.1.rows ∧ ArgS q.2 ∧ DatH q.1 D) ∧ W.cell? (a.add 0) = some (.int .i64 q.1.a) ∧ W.cell? (a.add 1) = some (.int .i64 q.1.n) ∧ W.cell? (a.add 2) = some (.int .i64 q.1.b) ∧ W.cell? (a.add 3) = some (.int .i64 q.1.m) ∧ W.cell? (a.add 4) = some (.string q.1.head) ∧ W.cell? (a.add 5) = some q.2 := by
  obtain ⟨_, hlen, hcell⟩ := World.cells?_some h1
  obtain ⟨xs, k, hk, hxy, _, hxl, hf⟩ := DataW.trod_struct Tryz.underlying48 h2
  have hc1 : Tryz.prog.cellsOf 3 = 1 := by kernel_rfl
  have hc2 : Tryz.prog.cellsOf 9 = 1 := by kernel_rfl
  have hc3 : Tryz.prog.cellsOf 46 = 1 := by kernel_rfl
  match cs, hlen with
  | [v0, v1, v2, v3, v4, v5], _ =>
    match xs, hxl with
    | [y0, y1, y2, y3, y4, y5], _ =>
      have g0 : DataW.trod enc Tryz.prog W 0 (fun _ => true) true k 3 (([v0, v1, v2, v3, v4, v5].drop 0).take (Tryz.prog.cellsOf 3)) = some y0 := hf 0 _ rfl
      rw [hc1] at g0
      have g1 : DataW.trod enc Tryz.prog W 0 (fun _ => true) true k 3 (([v0, v1, v2, v3, v4, v5].drop 1).take (Tryz.prog.cellsOf 3)) = some y1 := hf 1 _ rfl
      rw [hc1] at g1
      have g2 : DataW.trod enc Tryz.prog W 0 (fun _ => true) true k 3 (([v0, v1, v2, v3, v4, v5].drop 2).take (Tryz.prog.cellsOf 3)) = some y2 := hf 2 _ rfl
      rw [hc1] at g2
      have g3 : DataW.trod enc Tryz.prog W 0 (fun _ => true) true k 3 (([v0, v1, v2, v3, v4, v5].drop 3).take (Tryz.prog.cellsOf 3)) = some y3 := hf 3 _ rfl
      rw [hc1] at g3
      have g4 : DataW.trod enc Tryz.prog W 0 (fun _ => true) true k 9 (([v0, v1, v2, v3, v4, v5].drop 4).take (Tryz.prog.cellsOf 9)) = some y4 := hf 4 _ rfl
      rw [hc2] at g4
      have g5 : DataW.trod enc Tryz.prog W 0 (fun _ => true) true k 46 (([v0, v1, v2, v3, v4, v5].drop 5).take (Tryz.prog.cellsOf 46)) = some y5 := hf 5 _ rfl
      rw [hc3] at g5
      obtain ⟨x0, e0, _, w0⟩ := DataW.trod_int Tryz.underlying3 (show DataW.trod enc Tryz.prog W 0 (fun _ => true) true k 3 [v0] = some y0 from g0)
      obtain ⟨x1, e1, _, w1⟩ := DataW.trod_int Tryz.underlying3 (show DataW.trod enc Tryz.prog W 0 (fun _ => true) true k 3 [v1] = some y1 from g1)
      obtain ⟨x2, e2, _, w2⟩ := DataW.trod_int Tryz.underlying3 (show DataW.trod enc Tryz.prog W 0 (fun _ => true) true k 3 [v2] = some y2 from g2)
      obtain ⟨x3, e3, _, w3⟩ := DataW.trod_int Tryz.underlying3 (show DataW.trod enc Tryz.prog W 0 (fun _ => true) true k 3 [v3] = some y3 from g3)
      obtain ⟨x4, e4, _, w4⟩ := DataW.trod_string Tryz.underlying9 (show DataW.trod enc Tryz.prog W 0 (fun _ => true) true k 9 [v4] = some y4 from g4)
      obtain ⟨l, hr, hw, hA, hd⟩ := open_rws (show DataW.trod enc Tryz.prog W 0 (fun _ => true) true k 46 [v5] = some y5 from g5)
      cases e0
      cases e1
      cases e2
      cases e3
      cases e4
      have hD := congrArg Prod.fst hxy
      exact ⟨(⟨x0, x1, x2, x3, x4, l⟩, v5), ⟨⟨wf_I64 w0, wf_I64 w1, wf_I64 w2, wf_I64 w3, fun r hr => (hw r hr).1⟩, fun r hr => (hw r hr).2, w4, hr, hA, ⟨_, _, _, _, _, _, hD, hd⟩⟩, hcell 0 (by omega), hcell 1 (by omega), hcell 2 (by omega), hcell 3 (by omega), hcell 4 (by omega), hcell 5 (by omega)⟩
theorem hksC_back {l : List (Hk × Value)} {j : Nat} {u : Value} (h : (hksC l)[j]? = some u) : ∃ k i c, j = k * 6 + i ∧ i < 6 ∧ l[k]? = some c ∧ (hkC c)[i]? = some u := by
  have hj : j < l.length * 6 := by
    rw [← hksC_length]
    rcases Nat.lt_or_ge j (hksC l).length with q | q
    · exact q
    · rw [List.getElem?_eq_none q] at h; cases h
  have hk : j / 6 < l.length := by omega
  obtain ⟨c, hc⟩ : ∃ c, l[j / 6]? = some c := ⟨_, List.getElem?_eq_getElem hk⟩
  refine ⟨j / 6, j % 6, c, by omega, by omega, hc, ?_⟩
  rw [← hksC_get hc (j % 6) (by omega), show j / 6 * 6 + j % 6 = j by omega]
  exact h
instance : Inhabited (Hk × Value) := ⟨(⟨0, 0, 0, 0, .empty, []⟩, .int .i64 0)⟩
theorem open_hks {H : Type} {enc : TypeId × Value → H} {W : World} {v : Value} {d : DataW H} {p : List MemPlace}
    (hv : ∃ a len cap, v = .slice a len cap) (h : DataW.Trod enc Tryz.prog W 0 (fun _ => true) true 22 v d p) :
    ∃ l : List Hk, RdH W v l ∧ (∀ c ∈ l, WfH c ∧ (∀ r ∈ c.rows, r.t.size ≤ maxLen) ∧ c.head.size ≤ maxLen) ∧ ((l = [] ∧ d = .nil) ∨ ∃ (D : Nat → DataW H) (sp : List (DataW H)), d = .slice ((List.range l.length).map D) sp ∧ ∀ j c, l[j]? = some c → DatH c (D j)) ∧ ArgH W v l.length ∧ ArgS v := by
  obtain ⟨a0, len0, cap0, rfl⟩ := hv
  obtain ⟨fuel, hf⟩ := h
  have hc4 : Tryz.prog.cellsOf 48 = 6 := by kernel_rfl
  rcases open_slice Tryz.underlying22 hf with ⟨hcs, hx⟩ | ⟨a, len, cap, m, n, D, Pl, hcs, _, hl, _, hmm, hx, hcl⟩
  · simp [Value.cells] at hcs hx
    obtain ⟨rfl, rfl, rfl⟩ := hcs
    obtain ⟨rfl, rfl⟩ := hx
    exact ⟨[], ⟨[], rfl, .inl ⟨rfl, none, 0, rfl⟩, by simp⟩, by simp, .inl ⟨rfl, rfl⟩, (fun b o m c e => by cases e), .inl rfl⟩
  · simp [Value.cells] at hcs
    obtain ⟨rfl, rfl, rfl⟩ := hcs
    obtain ⟨hd, _⟩ := Prod.mk.inj hx
    have hlm : len0 ≤ m := by simp at hmm; omega
    rw [hc4] at hcl
    obtain ⟨f, hf'⟩ := choose_lt (n := len0) (p := fun i (q : Hk × Value) => (WfH q.1 ∧ (∀ r ∈ q.1.rows, r.t.size ≤ maxLen) ∧ q.1.head.size ≤ maxLen ∧ RdW W q.2 q.1.rows ∧ ArgS q.2 ∧ DatH q.1 (D i)) ∧ W.cell? ((a.add (i * 6)).add 0) = some (.int .i64 q.1.a) ∧ W.cell? ((a.add (i * 6)).add 1) = some (.int .i64 q.1.n) ∧ W.cell? ((a.add (i * 6)).add 2) = some (.int .i64 q.1.b) ∧ W.cell? ((a.add (i * 6)).add 3) = some (.int .i64 q.1.m) ∧ W.cell? ((a.add (i * 6)).add 4) = some (.string q.1.head) ∧ W.cell? ((a.add (i * 6)).add 5) = some q.2) (fun i hi => by
      obtain ⟨cs', h1, h2⟩ := hcl i (by omega)
      exact open_hk h1 h2)
    have hlen : ((List.range len0).map f).length = len0 := by simp
    have hlen2 : (((List.range len0).map f).map Prod.fst).length = len0 := by simp
    have hat : ∀ k q, ((List.range len0).map f)[k]? = some q → k < len0 ∧ q = f k := by
      intro k q hk
      have hkl : k < len0 := by
        rcases Nat.lt_or_ge k len0 with q | q
        · exact q
        · rw [List.getElem?_eq_none (by rw [hlen]; exact q)] at hk; cases hk
      rw [List.getElem?_map, List.getElem?_range hkl] at hk
      exact ⟨hkl, by simpa using hk.symm⟩
    refine ⟨((List.range len0).map f).map Prod.fst, ⟨(List.range len0).map f, rfl, ?_, ?_⟩, ?_, .inr ⟨D, _, by rw [hlen2]; exact hd, ?_⟩, ?_, .inr ⟨_, _, _, rfl⟩⟩
    · rw [hlen2]
      by_cases h0 : len0 = 0
      · subst h0
        exact .inl ⟨rfl, some a, cap0, rfl⟩
      · have hfirst := (hf' 0 (by omega)).2.1
        have e00 : (a.add (0 * 6)).add 0 = a := by simp [Addr.add]
        rw [e00] at hfirst
        obtain ⟨b, o, rfl, hb⟩ := addr_none4 hfirst
        refine .inr ⟨b, o, cap0, rfl, hl, hb, fun j u hj => ?_⟩
        obtain ⟨k, i, c, rfl, hi, hk, hu⟩ := hksC_back hj
        obtain ⟨hkl, rfl⟩ := hat k c hk
        obtain ⟨_, c0, c1, c2, c3, c4, c5⟩ := hf' k hkl
        rw [Go.WideShapes.add_plain, Go.WideShapes.add_plain] at c0 c1 c2 c3 c4 c5
        match i, hi with
        | 0, _ => cases hu; exact c0
        | 1, _ => cases hu; rw [← Nat.add_assoc]; exact c1
        | 2, _ => cases hu; rw [← Nat.add_assoc]; exact c2
        | 3, _ => cases hu; rw [← Nat.add_assoc]; exact c3
        | 4, _ => cases hu; rw [← Nat.add_assoc]; exact c4
        | 5, _ => cases hu; rw [← Nat.add_assoc]; exact c5
    · intro q hq
      obtain ⟨i, hi, rfl⟩ := List.mem_map.1 hq
      exact (hf' i (List.mem_range.1 hi)).1.2.2.2.1
    · intro c hc
      obtain ⟨q, hq, rfl⟩ := List.mem_map.1 hc
      obtain ⟨i, hi, rfl⟩ := List.mem_map.1 hq
      have := (hf' i (List.mem_range.1 hi)).1
      exact ⟨this.1, this.2.1, this.2.2.1⟩
    · intro j c hj
      rw [List.getElem?_map] at hj
      cases hq : ((List.range len0).map f)[j]? with
      | none => rw [hq] at hj; cases hj
      | some q =>
        rw [hq] at hj
        simp at hj
        subst hj
        obtain ⟨hkl, rfl⟩ := hat j q hq
        exact (hf' j hkl).1.2.2.2.2.2
    · intro b o m c e k hk u hu
      rw [hlen2] at hk
      cases e
      obtain ⟨h6, _, _, _, _, _, c5⟩ := hf' k hk
      rw [Go.WideShapes.add_plain, Go.WideShapes.add_plain] at c5
      rw [c5] at hu
      cases hu
      exact h6.2.2.2.2.1
theorem weightsAll_mem {H : Type} {P : Program} {e : TypeId} {ds : List (DataW H)} {d : DataW H} {j n : Nat} (hd : ds[j]? = some d) (hn : n ∈ d.weights P e) : n ∈ DataW.weightsAll P e ds := by
  induction ds generalizing j with
  | nil => simp at hd
  | cons x r ih =>
    show n ∈ DataW.weights P e x ++ DataW.weightsAll P e r
    cases j with
    | zero => simp at hd; subst hd; exact List.mem_append_left _ hn
    | succ j => exact List.mem_append_right _ (ih (by simpa using hd))
/-- how many hunks there are, how many rows each has: by the reach -/
theorem hks_sized {H : Type} {d : DataW H} {l : List Hk} {ts : List TypeId} {ds : List (DataW H)} {j : Nat} (h : (DataW.weightsEach Tryz.prog ts ds).all (· ≤ reachBytes) = true)
    (ht : ts[j]? = some 22) (hd : ds[j]? = some d) (hw : ∀ c ∈ l, WfH c ∧ (∀ r ∈ c.rows, r.t.size ≤ maxLen) ∧ c.head.size ≤ maxLen)
    (hx : (l = [] ∧ d = .nil) ∨ ∃ (D : Nat → DataW H) (sp : List (DataW H)), d = .slice ((List.range l.length).map D) sp ∧ ∀ j c, l[j]? = some c → DatH c (D j)) : l.length < 1954687338260 ∧ ∀ c ∈ l, SzH c := by
  have h3 : reachBytes = 140737488351232 := by decide
  rcases hx with ⟨rfl, _⟩ | ⟨D, sp, rfl, hD⟩
  · simp
  · constructor
    · have h1 := sized_slice h ht hd Tryz.underlying22
      have h2 : Tryz.prog.bytesOf 48 = 72 := by kernel_rfl
      rw [h2, List.length_map, List.length_range] at h1
      omega
    · intro c hc
      refine ⟨?_, (hw c hc).2.1, (hw c hc).2.2⟩
      obtain ⟨k, hk⟩ := List.mem_iff_getElem?.1 hc
      have hkl : k < l.length := (List.getElem?_eq_some_iff.1 hk).1
      obtain ⟨d0, d1, d2, d3, d4, d5, e, h5⟩ := hD k c hk
      rcases h5 with ⟨h5, _⟩ | ⟨E, sp5, h5⟩
      · rw [h5]; decide
      · subst h5
        have hb : Tryz.prog.bytesOf 50 = 24 := by kernel_rfl
        have hm : (c.rows.length + sp5.length) * 24 ∈ DataW.weights Tryz.prog 48 (D k) := by
          rw [e, DataW.weights, Tryz.underlying48]
          refine DataW.weights_mem_each (j := 5) (t := 46) rfl rfl _ ?_
          rw [DataW.weights, Tryz.underlying46]
          simp only [List.length_map, List.length_range, hb]
          exact List.mem_cons_self
        have := List.all_eq_true.1 h _ (DataW.weights_mem_each ht hd _ (by
          rw [DataW.weights, Tryz.underlying22]
          exact List.mem_cons_of_mem _ (List.mem_append_left _ (weightsAll_mem (j := k) (d := D k) (by rw [List.getElem?_map, List.getElem?_range hkl]; rfl) hm))))
        simp only [decide_eq_true_eq] at this
        omega
end Go.Proofs.YthnibchlgcgalaaGreatDoor
/-
  A list of strings, and the struct Job, as an argument: opened, sized.
-/
namespace Go.Proofs.YthnibchlgcgalaaGreatDoor
open Go.RowKit Go.Deep Go.ChangeShapes Go.WideShapes Go.ChangeAt
open Ed (Ch Run Pr)

theorem open_strs {H : Type} {enc : TypeId × Value → H} {W : World} {v : Value} {d : DataW H} {p : List MemPlace}
    (hv : ∃ a len cap, v = .slice a len cap) (h : DataW.Trod enc Tryz.prog W 0 (fun _ => true) true 36 v d p) :
    ∃ xs : List ByteArray, RdT W v xs ∧ (∀ x ∈ xs, x.size ≤ maxLen) ∧ ((xs = [] ∧ d = .nil) ∨ ∃ sp, d = .slice (strs xs) sp) ∧ ArgS v := by
  obtain ⟨a0, len0, cap0, rfl⟩ := hv
  obtain ⟨fuel, hf⟩ := h
  have hcell : Tryz.prog.cellsOf 9 = 1 := by kernel_rfl
  rcases open_strings Tryz.underlying36 Tryz.underlying9 hcell hf with ⟨hcs, hx⟩ | ⟨a, len, cap, ss, hcs, _, hl, hm, hss, hx, hcl, hws⟩
  · simp [Value.cells] at hcs hx
    obtain ⟨rfl, rfl, rfl⟩ := hcs
    obtain ⟨rfl, rfl⟩ := hx
    exact ⟨[], .inl ⟨rfl, none, 0, rfl⟩, by simp, .inl ⟨rfl, rfl⟩, .inl rfl⟩
  · simp [Value.cells] at hcs hss
    obtain ⟨rfl, rfl, rfl⟩ := hcs
    obtain ⟨hd, hp⟩ := Prod.mk.inj hx
    refine ⟨ss.take len0, ?_, fun x hx => hws x (List.mem_of_mem_take hx), .inr ⟨_, hd⟩, .inr ⟨_, _, _, rfl⟩⟩
    by_cases h0 : len0 = 0
    · subst h0
      exact .inl ⟨by simp, some a, cap0, rfl⟩
    · obtain ⟨b, o, e, hb⟩ := addr_none4 (hcl 0 (by omega))
      obtain ⟨b', o', rfl⟩ : ∃ b' o', a = ⟨b', o', none⟩ := by
        obtain ⟨b', o', s'⟩ := a
        have : s' = none := by
          have := congrArg Addr.spot e
          simpa [Addr.add] using this
        exact ⟨b', o', by rw [this]⟩
      have hb' : b' < W.heap.size := by
        have := congrArg Addr.block e
        simp [Addr.add] at this
        omega
      have hlen : (ss.take len0).length = len0 := by rw [List.length_take]; omega
      refine .inr ⟨b', o', cap0, by rw [hlen], by rw [hlen]; exact hl, hb', fun j u hj => ?_⟩
      unfold stC at hj
      rw [List.getElem?_map] at hj
      cases hx : (ss.take len0)[j]? with
      | none => rw [hx] at hj; cases hj
      | some x =>
        rw [hx] at hj
        simp at hj
        subst hj
        have hj' : j < len0 := by
          rcases Nat.lt_or_ge j len0 with k | k
          · exact k
          · rw [List.getElem?_eq_none (by rw [hlen]; exact k)] at hx; cases hx
        have := hcl j (by omega)
        rw [List.getElem?_take, if_pos hj'] at hx
        rw [List.getD_eq_getElem?_getD, hx] at this
        rw [Go.WideShapes.add_plain] at this
        exact this

theorem strs_length {H : Type} (xs : List ByteArray) : (strs (H := H) xs).length = xs.length := by
  induction xs with
  | nil => rfl
  | cons x r ih => show (_ :: strs r).length = _; rw [List.length_cons, List.length_cons, ih]
/-- how many strings there are: by the reach -/
theorem strs_sized {H : Type} {d : DataW H} {xs : List ByteArray} {ts : List TypeId} {ds : List (DataW H)} {j : Nat} (h : (DataW.weightsEach Tryz.prog ts ds).all (· ≤ reachBytes) = true)
    (ht : ts[j]? = some 36) (hd : ds[j]? = some d) (hx : (xs = [] ∧ d = .nil) ∨ ∃ sp, d = .slice (strs xs) sp) : xs.length * 16 ≤ 140737488351232 := by
  rcases hx with ⟨rfl, _⟩ | ⟨sp, rfl⟩
  · simp
  · have h1 := sized_slice h ht hd Tryz.underlying36
    have h2 : Tryz.prog.bytesOf 9 = 16 := by kernel_rfl
    rw [h2, strs_length] at h1
    have h3 : reachBytes = 140737488351232 := by decide
    omega
theorem strs_sz {H : Type} {d : DataW H} {xs : List ByteArray} {ts : List TypeId} {ds : List (DataW H)} {j : Nat} (h : (DataW.weightsEach Tryz.prog ts ds).all (· ≤ reachBytes) = true)
    (ht : ts[j]? = some 36) (hd : ds[j]? = some d) (hx : (xs = [] ∧ d = .nil) ∨ ∃ sp, d = .slice (strs xs) sp) : xs.length ≤ 8796093021952 := by
  have := strs_sized h ht hd hx
  omega
theorem one_slice {H : Type} {enc : TypeId × Value → H} {W : World} {n : Nat} {t e : TypeId} {v : Value} {y : DataW H × List MemPlace} (hu : Tryz.prog.underlying t = some (.slice e)) (h : DataW.trod enc Tryz.prog W 0 (fun _ => true) true n t [v] = some y) :
    (∃ a len cap, v = .slice a len cap) ∧ DataW.Trod enc Tryz.prog W 0 (fun _ => true) true t v y.1 y.2 := by
  have hs : ∃ a len cap, v = .slice a len cap := by
    rcases open_slice hu h with ⟨hcs, _⟩ | ⟨a, len, cap, m, n', D, Pl, hcs, _⟩
    · simp at hcs; exact ⟨_, _, _, hcs⟩
    · simp at hcs; exact ⟨_, _, _, hcs⟩
  refine ⟨hs, n, ?_⟩
  obtain ⟨a, len, cap, rfl⟩ := hs
  exact h
theorem agg_of {v : Value} {k : Nat} (hk : 1 < k) (hl : v.cells.toList.length = k) : ∃ l : List Value, v = .agg l.toArray ∧ v.cells.toList = l := by
  cases v with
  | agg cs => exact ⟨cs.toList, by simp, rfl⟩
  | _ => simp [Value.cells] at hl; omega
def SzS (x : ByteArray) : Prop := x.size ≤ maxLen
end Go.Proofs.YthnibchlgcgalaaGreatDoor
