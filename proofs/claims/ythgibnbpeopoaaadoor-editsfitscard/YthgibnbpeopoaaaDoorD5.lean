/-
  The walk of Invert.
-/
import Derived.Test.YthgibnbpeopoaaaDoorC5
namespace Go.Proofs.YthgibnbpeopoaaaDoor
open Go.RowKit
open Ed (Ch Run Pr)

def z0 : Ch := ⟨0, 0, 0, 0⟩
def CRow (w : World) (g : Nat) (l : List Ch) : Prop := w.heap[g]? = some (.cells (csC l).toArray 61)
theorem made_cs (n : Nat) : (madeCells (Value.agg #[.int .i64 0, .int .i64 0, .int .i64 0, .int .i64 0]).cells (n * 4)).toList = csC (List.replicate n z0) := by
  apply List.ext_getElem?
  intro j
  by_cases hj : j < n * 4
  · obtain ⟨c, hc⟩ : ∃ c, (List.replicate n z0)[j / 4]? = some c := ⟨_, List.getElem?_eq_getElem (by rw [List.length_replicate]; omega)⟩
    have hc' : c = z0 := List.eq_of_mem_replicate (List.mem_of_getElem? hc)
    have h1 := csC_get hc (j % 4) (by omega)
    rw [show j / 4 * 4 + j % 4 = j by omega] at h1
    rw [h1, hc']
    have hm : j % 4 < 4 := by omega
    simp only [madeCells, Value.cells]
    rw [Array.getElem?_toList, Array.getElem?_eq_getElem (by simpa using hj)]
    simp
    generalize j % 4 = q at hm ⊢
    match q, hm with
    | 0, _ => rfl
    | 1, _ => rfl
    | 2, _ => rfl
    | 3, _ => rfl
  · rw [List.getElem?_eq_none, List.getElem?_eq_none]
    · rw [csC_length, List.length_replicate]; omega
    · simp [madeCells]; omega
theorem made_crow {w : World} {B g n : Nat} (h : w.ownsRow B 61 4 (.slice (some ⟨g, 0, none⟩) n n) n (madeCells (Value.agg #[.int .i64 0, .int .i64 0, .int .i64 0, .int .i64 0]).cells (n * 4)).toList) : CRow w g (List.replicate n z0) := by
  rcases h.2 with ⟨hv, _⟩ | ⟨g', cap, cur, hv, hg, hh, hc, _, hsz, ht⟩
  · cases hv
  · cases hv
    have e : cur.toList = csC (List.replicate n z0) := by
      rw [← made_cs, ← ht, List.take_of_length_le]
      rw [Array.length_toList, hsz]
      exact Nat.le_refl _
    have e2 : cur = (csC (List.replicate n z0)).toArray := by
      apply Array.ext'
      rw [e]
    rw [e2] at hh
    exact hh
theorem csC_set (l : List Ch) (k : Nat) (c : Ch) (hk : k < l.length) : ((((csC l).set (k * 4) (.int .i64 c.a)).set (k * 4 + 1) (.int .i64 c.n)).set (k * 4 + 2) (.int .i64 c.b)).set (k * 4 + 3) (.int .i64 c.m) = csC (l.set k c) := by
  induction l generalizing k with
  | nil => simp at hk
  | cons x l ih =>
    cases k with
    | zero => rfl
    | succ k =>
      have ih' := ih k (by simpa using hk)
      rw [List.set_cons_succ]
      show (((((cC x ++ csC l).set ((k + 1) * 4) _).set ((k + 1) * 4 + 1) _).set ((k + 1) * 4 + 2) _).set ((k + 1) * 4 + 3) _) = cC x ++ csC (l.set k c)
      rw [← ih']
      have e : ∀ (j : Nat) (y : List Value) (u : Value), (cC x ++ y).set ((k + 1) * 4 + j) u = cC x ++ y.set (k * 4 + j) u := fun j y u => by
        rw [List.set_append, if_neg (by show ¬ (k + 1) * 4 + j < 4; omega)]
        congr 2
        show (k + 1) * 4 + j - 4 = k * 4 + j
        omega
      have e0 : ∀ (y : List Value) (u : Value), (cC x ++ y).set ((k + 1) * 4) u = cC x ++ y.set (k * 4) u := fun y u => e 0 y u
      rw [e0, e, e, e]
theorem CRow.set {w : World} {g : Nat} {l : List Ch} (h : CRow w g l) (k : Nat) (c : Ch) (hk : k < l.length) : CRow ((((w.setCell ⟨g, k * 4, none⟩ (.int .i64 c.a)).setCell ⟨g, k * 4 + 1, none⟩ (.int .i64 c.n)).setCell ⟨g, k * 4 + 2, none⟩ (.int .i64 c.b)).setCell ⟨g, k * 4 + 3, none⟩ (.int .i64 c.m)) g (l.set k c) := by
  have h1 := set_heap _ g (k * 4) _ _ (.int .i64 c.a) h
  have h2 := set_heap _ g (k * 4 + 1) _ _ (.int .i64 c.n) h1
  have h3 := set_heap _ g (k * 4 + 2) _ _ (.int .i64 c.b) h2
  have h4 := set_heap _ g (k * 4 + 3) _ _ (.int .i64 c.m) h3
  unfold CRow
  rw [h4, ← csC_set l k c hk]
  simp
theorem CRow.own {w : World} {B g n : Nat} {l : List Ch} (h : CRow w g l) (hl : l.length = n) (hB : B ≤ g) (hn : n ≤ maxLen) : OwnC w B (.slice (some ⟨g, 0, none⟩) n n) l := by
  subst hl
  exact ⟨by rw [csC_length], .inr ⟨g, l.length, (csC l).toArray, rfl, hB, h, Nat.le_refl _, hn, by rw [List.size_toArray, csC_length], by rw [List.toList_toArray]; exact List.take_of_length_le (Nat.le_of_eq (csC_length l))⟩⟩
/-- the changes so far, the rest nothing -/
def rowC (A : List Ch) (k : Nat) : List Ch := A.take k ++ List.replicate (A.length - k) z0
theorem rowC_len (A : List Ch) (k : Nat) (h : k ≤ A.length) : (rowC A k).length = A.length := by unfold rowC; simp; omega
theorem rowC_zero (A : List Ch) : rowC A 0 = List.replicate A.length z0 := by simp [rowC]
theorem rowC_all (A : List Ch) (k : Nat) (h : A.length ≤ k) : rowC A k = A := by
  unfold rowC
  rw [List.take_of_length_le h, Nat.sub_eq_zero_of_le h]; simp
theorem rowC_set (A : List Ch) (k : Nat) (n : Ch) (h : A[k]? = some n) : (rowC A k).set k n = rowC A (k + 1) := by
  have hl : k < A.length := by
    rcases Nat.lt_or_ge k A.length with q | q
    · exact q
    · rw [List.getElem?_eq_none q] at h; cases h
  unfold rowC
  have hk : (A.take k).length = k := by rw [List.length_take]; omega
  rw [List.set_append, if_neg (by omega), hk, Nat.sub_self]
  obtain ⟨m, hm⟩ : ∃ m, A.length - k = m + 1 := ⟨A.length - k - 1, by omega⟩
  have hm' : A.length - (k + 1) = m := by omega
  rw [hm, hm', List.replicate_succ, List.set_cons_zero, List.take_add_one, h]
  simp

set_option maxHeartbeats 4000000 in
set_option maxRecDepth 100000 in
theorem invert_any {v : Value} {s : List Ch} {w : World} (hr : RdC w v s) (hl : s.length ≤ 4398046510976) :
    Calls Tryd.prog 19 #[v] w fun e w' => ∃ v', e = .returned v' ∧ OwnC w' w.heap.size v' (s.map Ed.inv) ∧ Below w.heap.size w w' := by
  obtain ⟨a, c, rfl⟩ := hr.shape
  obtain ⟨i0, hi, hz0, hz1, hz2⟩ := info_parts Tryd.infoChange
  have HR := hid hr
  clear hr
  have hAl : (s.map Ed.inv).length = s.length := List.length_map _
  obtain ⟨A, hA⟩ : ∃ A, A = s.map Ed.inv := ⟨_, rfl⟩
  rw [← hA] at hAl ⊢
  have HA := hid hA
  have HAL := hid hAl
  clear hA hAl
  go_enter Tryd.func19, Tryd.ntmps19
  go_wp2_with (at_make; refine wpList_make_full _ rfl _ _ 22 rfl w.heap.size 61 i0 (.agg #[.int .i64 0, .int .i64 0, .int .i64 0, .int .i64 0]) 4 Tryd.underlying22 hi hz0 hz1 .i64 .i64 _ _ s.length rfl rfl (by omega) (by omega) (by rw [hz2]; omega) (by unfold maxLen; omega) (Nat.le_refl _) ?_; intro w1 hown hgrow; have HR1 := hid (made_crow hown); have hb1 := (Below.refl w.heap.size w).grown hgrow (Nat.le_refl _) (fun k hk => by cases hk); have HB1 := hid hb1; clear hown hgrow hb1)
  go_loopw [11] (fun i wr => ∃ k : Nat, k ≤ s.length ∧ i = .int .i64 k ∧ Hid (CRow wr w.heap.size (rowC A k)) ∧ Hid (Below w.heap.size w wr)) (fun i _ => s.length - (intOf i).toNat)
  case atStart => exact ⟨0, Nat.zero_le _, rfl, by have h := HR1.out; rw [rowC_zero, HAL.out]; exact h, HB1⟩
  case round =>
    obtain ⟨k, hk, rfl, HC, HB⟩ := hrel
    by_cases hlt : k < s.length
    · obtain ⟨x, hx⟩ : ∃ x, s[k]? = some x := ⟨_, List.getElem?_eq_getElem hlt⟩
      obtain ⟨b, o, rfl, hblt, c0, c1, c2, c3⟩ := rdC_at (HR.out.below HB.out) hx
      have hAx : A[k]? = some (Ed.inv x) := by rw [HA.out, List.getElem?_map, hx]; rfl
      have HSET := hid (rowC_set A k _ hAx)
      have HLEN := hid (rowC_len A k (by have := HAL.out; omega))
      have hgl := lt_of_heap HC.out
      have hbC : (wr.alloc (.cells #[.int .i64 x.a, .int .i64 x.n, .int .i64 x.b, .int .i64 x.m] 61)).heap[w.heap.size]? = some (.cells (csC (rowC A k)).toArray 61) := (((Below.refl wr.heap.size wr).alloc (Nat.le_refl _) _).block _ hgl).trans HC.out
      have hbN := heap_alloc_new wr (.cells #[.int .i64 x.a, .int .i64 x.n, .int .i64 x.b, .int .i64 x.m] 61)
      have HBn := hid (HB.out.alloc HB.out.size (.cells #[.int .i64 x.a, .int .i64 x.n, .int .i64 x.b, .int .i64 x.m] 61))
      obtain ⟨y, hy⟩ : ∃ y, (rowC A k)[k]? = some y := ⟨_, List.getElem?_eq_getElem (by have := HLEN.out; have := HAL.out; omega)⟩
      have d0 : wr.cell? ⟨w.heap.size, k * 4, none⟩ = some (.int .i64 y.a) := (cell_of_blk HC.out (k * 4)).trans (by rw [List.getElem?_toArray]; exact csC_get hy 0 (by omega))
      have d1 : wr.cell? ⟨w.heap.size, k * 4 + 1, none⟩ = some (.int .i64 y.n) := (cell_of_blk HC.out (k * 4 + 1)).trans (by rw [List.getElem?_toArray]; exact csC_get hy 1 (by omega))
      have d2 : wr.cell? ⟨w.heap.size, k * 4 + 2, none⟩ = some (.int .i64 y.b) := (cell_of_blk HC.out (k * 4 + 2)).trans (by rw [List.getElem?_toArray]; exact csC_get hy 2 (by omega))
      have d3 : wr.cell? ⟨w.heap.size, k * 4 + 3, none⟩ = some (.int .i64 y.m) := (cell_of_blk HC.out (k * 4 + 3)).trans (by rw [List.getElem?_toArray]; exact csC_get hy 3 (by omega))
      have f0 : ∀ j, wr.frozen? ⟨w.heap.size, j, none⟩ = false := fun j => frozen_of_blk HC.out j
      have i1 : (0 : Int) ≤ (k : Int) := by omega
      have i2 : (k : Int) < (s.length : Int) := by omega
      have HBC := hid hbC
      clear hx hAx hy hbC hbN
      have HS := hid (HC.out.set k (Ed.inv x) (by have := HLEN.out; have := HAL.out; omega))
      have HSB := hid ((((HB.out.setCell (p := ⟨w.heap.size, k * 4, none⟩) (Nat.le_refl _) (.int .i64 x.b)).setCell (p := ⟨w.heap.size, k * 4 + 1, none⟩) (Nat.le_refl _) (.int .i64 x.m)).setCell (p := ⟨w.heap.size, k * 4 + 2, none⟩) (Nat.le_refl _) (.int .i64 x.a)).setCell (p := ⟨w.heap.size, k * 4 + 3, none⟩) (Nat.le_refl _) (.int .i64 x.n))
      go_wp2
      refine ⟨⟨k + 1, by omega, by go_num, ?_, ?_⟩, by simp [intOf]; omega⟩
      · rw [← HSET.out]
        exact (((Below.refl _ _).alloc (Nat.le_refl _) _).block _ (lt_of_heap HS.out)).trans HS.out
      · exact HSB.out.alloc HSB.out.size _
    · have HE : Hid (OwnC wr w.heap.size (.slice (some ⟨w.heap.size, 0, none⟩) s.length s.length) A) := hid (by
        have h := HC.out
        rw [rowC_all A k (by have := HAL.out; omega)] at h
        exact h.own HAL.out (Nat.le_refl _) (by unfold maxLen; omega))
      go_wp2
      go_ret
      exact ⟨_, rfl, HE.out, HB.out⟩
end Go.Proofs.YthgibnbpeopoaaaDoor
