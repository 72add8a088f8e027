/-
  Several texts in one: V1, V2.
-/
import Derived.Test.YtdilmgcdebobaaaK1
import Derived.Test.YtdilmgcdebobaaaV0
import Derived.Deep.LoopGhost
import Derived.Test.YtdilmgcdebobaaaT2
/-
  The walks of sort.Search and of the question that pilesOf asks it.
-/
namespace Go.Proofs.Ytdilmgcdebobaaa
open Go.RowKit
open Ed (Ch Run Pr)

def plI (P : Pn.Piles) : List Pr := P.map fun p => ((p.1 : Int), (p.2 : Int))
theorem plI_len (P : Pn.Piles) : (plI P).length = P.length := List.length_map _
theorem plI_get {P : Pn.Piles} {k : Nat} {p : Nat × Nat} (h : P[k]? = some p) : (plI P)[k]? = some ((p.1 : Int), (p.2 : Int)) := by unfold plI; rw [List.getElem?_map, h]; rfl

set_option maxHeartbeats 4000000 in
set_option maxRecDepth 100000 in
theorem pilesF_any {w : World} {g1 g2 g5 : Nat} {vl v2 : Value} {l : List Int} {P : Pn.Piles} {x y : Int} {k : Nat} {p : Nat × Nat} (h1 : w.cell? ⟨g1, 0, none⟩ = some vl) (hl : RdI w vl l) (h2 : w.cell? ⟨g2, 0, none⟩ = some v2) (hP : RdP w v2 (plI P)) (h5 : w.cell? ⟨g5, 0, none⟩ = some (.int .i64 x)) (hk : P[k]? = some p) (hy : l[p.2]? = some y) :
    Calls Try.prog 40 #[.int .i64 k, .pointer (some ⟨g1, 0, none⟩), .pointer (some ⟨g2, 0, none⟩), .pointer (some ⟨g5, 0, none⟩)] w fun e w' => e = .returned (.bool (decide (x ≤ y))) ∧ ∃ q, w' = w.drewN q := by
  obtain ⟨a1, c1, rfl⟩ := hl.shape
  obtain ⟨a2, c2, rfl⟩ := hP.shape
  obtain ⟨b, o, rfl, _, d1⟩ := rdI_at hl hy
  obtain ⟨b2, o2, rfl, _, _, d2⟩ := rdP_at hP (plI_get hk)
  have hkl : k < P.length := by
    rcases Nat.lt_or_ge k P.length with q | q
    · exact q
    · rw [List.getElem?_eq_none q] at hk; cases hk
  have hpl : p.2 < l.length := by
    rcases Nat.lt_or_ge p.2 l.length with q | q
    · exact q
    · rw [List.getElem?_eq_none q] at hy; cases hy
  have e0 := plI_len P
  rw [e0] at h2
  simp only at d2
  obtain ⟨s, hs⟩ : ∃ s : Nat, s = p.2 := ⟨_, rfl⟩
  rw [← hs] at d1 d2 hpl
  have i1 : (0 : Int) ≤ (k : Int) := by omega
  have i2 : (k : Int) < (P.length : Int) := by omega
  have i3 : (0 : Int) ≤ (s : Int) := by omega
  have i4 : (s : Int) < (l.length : Int) := by omega
  clear hk hy hl hP hs e0
  go_enter Try.func40, Try.ntmps40
  go_wp2
  go_quiet (fail)
  go_wp2
  go_ret
  exact ⟨rfl, _, rfl⟩

set_option maxHeartbeats 4000000 in
set_option maxRecDepth 100000 in
theorem search_any (n c : Nat) (cb : Array Value) (w : World) (hc : c ≤ n) (hn : n ≤ 100000000)
    (hf : ∀ q i : Nat, i < n → Calls Try.prog 40 (#[.int .i64 i] ++ cb) (w.drewN q) fun e w' => e = .returned (.bool (decide (c ≤ i))) ∧ ∃ q', w' = w.drewN q') :
    Calls Try.prog 39 #[.int .i64 n, .func (.func 40) #[] cb] w fun e w' => e = .returned (.int .i64 c) ∧ ∃ q, w' = w.drewN q := by
  have HF := hid hf
  clear hf
  go_enter Try.func39, Try.ntmps39
  go_wp2
  go_loopg [5, 6] n (fun kx s5 s6 wr => ∃ lo hi q : Nat, s5 = .int .i64 lo ∧ s6 = .int .i64 hi ∧ lo ≤ c ∧ c ≤ hi ∧ hi ≤ n ∧ hi - lo ≤ kx ∧ wr = w.drewN q)
  case atStart => exact ⟨0, n, 0, rfl, rfl, Nat.zero_le _, hc, Nat.le_refl _, by omega, rfl⟩
  case round =>
    obtain ⟨lo, hi, q, rfl, rfl, h1, h2, h3, hg, rfl⟩ := hrel
    by_cases hlt : lo < hi
    · have hcl := HF.out q ((lo + hi) / 2) (by omega)
      rw [show (((lo + hi) / 2 : Nat) : Int) = ((lo : Int) + (hi : Int)) / 2 by omega] at hcl
      by_cases hcm : c ≤ (lo + hi) / 2
      · rw [decide_eq_true hcm] at hcl
        have HCM := hid hcm
        clear hcm
        go_wp2_with (go_at_call 40; refine hcl.mono ?_; rintro e w' ⟨rfl, nq, rfl⟩)
        go_roundg ((lo + hi) / 2 - lo)
        case measure => omega
        case rel => exact ⟨lo, (lo + hi) / 2, nq, rfl, by rw [show ((lo : Int) + (hi : Int)) / 2 = (((lo + hi) / 2 : Nat) : Int) by omega], h1, HCM.out, by omega, Nat.le_refl _, rfl⟩
      · rw [decide_eq_false hcm] at hcl
        have HCM := hid hcm
        clear hcm
        go_wp2_with (go_at_call 40; refine hcl.mono ?_; rintro e w' ⟨rfl, nq, rfl⟩)
        go_roundg (hi - ((lo + hi) / 2 + 1))
        case measure => omega
        case rel => exact ⟨(lo + hi) / 2 + 1, hi, nq, by rw [show ((lo : Int) + (hi : Int)) / 2 + 1 = (((lo + hi) / 2 + 1 : Nat) : Int) by omega], rfl, by have := HCM.out; omega, h2, h3, Nat.le_refl _, rfl⟩
    · obtain rfl : hi = lo := by omega
      obtain rfl : c = hi := by omega
      go_wp2
      go_ret
      exact ⟨rfl, q, rfl⟩
end Go.Proofs.Ytdilmgcdebobaaa
/-
  The walk of pilesOf.
-/
namespace Go.Proofs.Ytdilmgcdebobaaa
open Go.RowKit
open Ed (Ch Run Pr)

theorem Try.infoPile : (Try.prog.info? 50).map (fun i => (i.zero, i.size, i.bytes)) = some (some (.agg #[.int .i64 0, .int .i64 0]), 2, 16) := by kernel_rfl
/-- a row of piles of the call's own -/
abbrev OwnPl (w : World) (B : Nat) (v : Value) (P : Pn.Piles) : Prop := w.ownsRow B 50 2 v P.length (psC (plI P))
theorem OwnPl.rd {w : World} {B : Nat} {v : Value} {P : Pn.Piles} (h : OwnPl w B v P) : RdP w v (plI P) := by
  show RdX _ _ _ _
  rw [plI_len]
  exact own_rd h
theorem wpList_append_pl {w : World} {ops : Array Oper} {rest : List Oper} {o : Oper} {a : Act} {Q : Exit → Act → World → Prop} (hgd : o.guard = none) (s x : Operand)
    (ho : o.op = .call { callee := .builtin .append, args := #[s, x], argTypes := #[46, 46] }) (B : Nat) (v : Value) (P : Pn.Piles) (hs : a.eval s = v) (hown : OwnPl w B v P)
    (g n : Nat) (hx : a.eval x = .slice (some ⟨g, 0, none⟩) 1 1) (hg : w.heap[g]? = some (.cells #[.int .i64 n, .int .i64 n] 50)) (hfit : P.length ≤ 1000000000) (hB : B ≤ w.heap.size)
    (h : ∀ v' w', OwnPl w' B v' (P ++ [(n, n)]) → w.grownBy w' v.ownBlock → wpList Try.prog ops Q rest (a.put o.dst v') w') : wpList Try.prog ops Q (o :: rest) a w := by
  obtain ⟨i0, hi, hz0, hz1, hz2⟩ := info_parts Try.infoPile
  refine wpList_append_lies _ hgd s x 46 ho B 50 i0 (.agg #[.int .i64 0, .int .i64 0]) 2 16 Try.underlying46 hi hz0 hz1 hz2 rfl (by decide) v P.length (psC (plI P)) hs hown ⟨g, 0, none⟩ 1 1 (pC ((n : Int), (n : Int))) hx rfl ?_ ?_ (by decide) ?_ ?_ hB w.heap.size rfl ?_
  · exact World.news_of_block (cs := #[.int .i64 n, .int .i64 n]) hg
  · have := psC_one [((n : Int), (n : Int))]
    simpa [psC] using this
  · unfold maxLen; omega
  · omega
  · intro g' cap w' g2 g3 _ _
    refine h _ w' ?_ g3
    show w'.ownsRow _ _ _ _ _ _
    rw [List.length_append, show plI (P ++ [(n, n)]) = plI P ++ [((n : Int), (n : Int))] from List.map_append, psC_append]
    have e : psC [((n : Int), (n : Int))] = pC ((n : Int), (n : Int)) := by simp [psC]
    rw [e]; exact g2
theorem psC_set2 : ∀ (l : List Pr) (k : Nat) (x y z : Int), l[k]? = some (x, y) → (psC l).set (k * 2 + 1) (.int .i64 z) = psC (l.set k (x, z))
  | [], k, x, y, z, h => by simp at h
  | p :: l, 0, x, y, z, h => by
    simp at h
    subst h
    rfl
  | p :: l, k + 1, x, y, z, h => by
    have ih := psC_set2 l k x y z (by simpa using h)
    rw [List.set_cons_succ]
    show (pC p ++ psC l).set ((k + 1) * 2 + 1) _ = pC p ++ psC (l.set k (x, z))
    rw [← ih, List.set_append, if_neg (by show ¬ (k + 1) * 2 + 1 < 2; omega)]
    congr 2
    show (k + 1) * 2 + 1 - 2 = k * 2 + 1
    omega
theorem plI_set {P : Pn.Piles} (k x z : Nat) : (plI P).set k ((x : Int), (z : Int)) = plI (P.set k (x, z)) := by unfold plI; rw [List.map_set]
theorem own_setP {w : World} {B g n c k : Nat} {P : Pn.Piles} {p : Nat × Nat} (h : w.ownsRow B 50 2 (.slice (some ⟨g, 0, none⟩) n c) n (psC (plI P))) (hk : P[k]? = some p) (z : Nat) : (w.setCell ⟨g, k * 2 + 1, none⟩ (.int .i64 z)).ownsRow B 50 2 (.slice (some ⟨g, 0, none⟩) n c) n (psC (plI (P.set k (p.1, z)))) := by
  obtain ⟨h1, h2⟩ := h
  rcases h2 with ⟨hv, _⟩ | ⟨g', cap, cur, hv, hg, hh, hc, hm, hsz, ht⟩
  · cases hv
  · cases hv
    refine ⟨by rw [psC_length, plI_len, List.length_set, ← plI_len, ← psC_length]; exact h1, .inr ⟨g, c, _, rfl, hg, set_heap _ g (k * 2 + 1) _ _ _ hh, hc, hm, by simpa using hsz, ?_⟩⟩
    rw [← plI_set, ← psC_set2 (plI P) k p.1 p.2 z (plI_get hk), ← ht]
    simp only [Array.toList_setIfInBounds, List.take_set]
theorem own_some' {w : World} {B n c : Nat} {t : TypeId} {sz : Nat} {a : Option Addr} {xs : List Value} (h : w.ownsRow B t sz (.slice a n c) n xs) (hn : 0 < n) : ∃ g, a = some ⟨g, 0, none⟩ := by
  rcases h.2 with ⟨hv, h0⟩ | ⟨g, cap, cur, hv, _⟩
  · omega
  · cases hv; exact ⟨g, rfl⟩
theorem own_frozen' {w : World} {B n c g : Nat} {t : TypeId} {sz : Nat} {xs : List Value} (h : w.ownsRow B t sz (.slice (some ⟨g, 0, none⟩) n c) n xs) (o : Nat) : w.frozen? ⟨g, o, none⟩ = false := by
  rcases h.2 with ⟨hv, hn⟩ | ⟨g', cap, cur, hv, hg, hh, _⟩
  · cases hv
  · cases hv; exact frozen_of_blk hh o
/-- the places of a list, as a function -/
def fn (l : List Int) (i : Nat) : Int := l.getD i 0
theorem fn_at {l : List Int} {i : Nat} {x : Int} (h : l[i]? = some x) : fn l i = x := by unfold fn; rw [List.getD_eq_getElem?_getD, h]; rfl
/-- what pilesOf holds behind the first n places -/
structure PlSt (l : List Int) (vl : Value) (B g1 g2 g3 n : Nat) (w : World) (v2 : Value) (P : Pn.Piles) (Bl : List Int) : Prop where
  box : w.heap[g1]? = some (.cells #[vl] 22)
  cell : w.heap[g2]? = some (.cells #[v2] 46)
  row : OwnPl w B v2 P
  bel : IlR w g3 Bl
  len : Bl.length = l.length
  ok : Pn.PilesOk (fn l) n P
  okB : Pn.BelowOk (fn l) n Bl
  few : P.length ≤ n
theorem PlSt.far {l : List Int} {vl : Value} {B g1 g2 g3 n : Nat} {w w' : World} {v2 : Value} {P : Pn.Piles} {Bl : List Int} (h : PlSt l vl B g1 g2 g3 n w v2 P Bl) (hb : Below w.heap.size w w') : PlSt l vl B g1 g2 g3 n w' v2 P Bl :=
  ⟨(hb.block g1 (lt_of_heap h.box)).trans h.box, (hb.block g2 (lt_of_heap h.cell)).trans h.cell, own_stays h.row hb, h.bel.far (hb.block g3 h.bel.lt), h.len, h.ok, h.okB, h.few⟩
/-- a pile more -/
theorem PlSt.more {l : List Int} {vl : Value} {B g1 g2 g3 n : Nat} {w w' : World} {v2 v' : Value} {P : Pn.Piles} {Bl : List Int} (h : PlSt l vl B g1 g2 g3 n w v2 P Bl) (h1 : g1 < B) (h2 : g2 < B) (h3 : g3 < B) (d12 : g1 ≠ g2) (d32 : g3 ≠ g2) (ho : OwnPl w' B v' (P ++ [(n, n)])) (hg : w.grownBy w' v2.ownBlock) (hk : Pn.lg (fn l) n - 1 = P.length) :
    PlSt l vl B g1 g2 g3 (n + 1) (w'.setCell ⟨g2, 0, none⟩ v') v' (P ++ [(n, n)]) Bl := by
  have hx : ∀ g, g < B → g < w.heap.size → w'.heap[g]? = w.heap[g]? := fun g hB hl => hg.block g hl (fun e => by have := own_ge h.row g e.symm; omega)
  have hc := (hx g2 h2 (lt_of_heap h.cell)).trans h.cell
  refine ⟨?_, ?_, ?_, ?_, h.len, Pn.piles_new h.ok hk, Pn.below_new h.ok h.okB hk, by rw [List.length_append, List.length_singleton]; have := h.few; omega⟩
  · rw [set_other _ d12]; exact (hx g1 h1 (lt_of_heap h.box)).trans h.box
  · have := set_heap w' g2 0 _ _ v' hc
    simpa using this
  · exact own_far ho (fun g e => set_other _ (fun e2 => by have := own_ge ho g e; omega))
  · exact h.bel.far ((set_other _ d32).trans (hx g3 h3 h.bel.lt))
/-- a place more on a pile -/
theorem PlSt.put {l : List Int} {vl : Value} {B g1 g2 g3 n g c m : Nat} {w : World} {P : Pn.Piles} {Bl : List Int} {p : Nat × Nat} (h : PlSt l vl B g1 g2 g3 n w (.slice (some ⟨g, 0, none⟩) m c) P Bl) (hm : P.length = m) (h1 : g1 < B) (h2 : g2 < B) (h3 : g3 < B) (d13 : g1 ≠ g3) (d23 : g2 ≠ g3) (hk : P[Pn.lg (fn l) n - 1]? = some p) (hn : n ≤ l.length) :
    PlSt l vl B g1 g2 g3 (n + 1) ((w.setCell ⟨g3, p.2, none⟩ (.int .i64 n)).setCell ⟨g, (Pn.lg (fn l) n - 1) * 2 + 1, none⟩ (.int .i64 n)) (.slice (some ⟨g, 0, none⟩) m c) (P.set (Pn.lg (fn l) n - 1) (p.1, n)) (Bl.set p.2 (n : Int)) := by
  have hB : B ≤ g := own_ge h.row g rfl
  have hrow : (w.setCell ⟨g3, p.2, none⟩ (.int .i64 n)).ownsRow B 50 2 (.slice (some ⟨g, 0, none⟩) m c) m (psC (plI P)) := own_far (by have := h.row; unfold OwnPl at this; rw [hm] at this; exact this) (fun k e => set_other _ (fun e2 => by have := own_ge h.row k e; omega))
  refine ⟨?_, ?_, ?_, ?_, by rw [List.length_set]; exact h.len, Pn.piles_put h.ok hk, Pn.below_put h.ok h.okB hk (by rw [h.len]; exact hn), by rw [List.length_set]; have := h.few; omega⟩
  · rw [set_other _ (by omega), set_other _ d13]; exact h.box
  · rw [set_other _ (by omega), set_other _ d23]; exact h.cell
  · show World.ownsRow _ _ _ _ _ _ _
    rw [List.length_set, hm]
    exact own_setP hrow hk n
  · exact (h.bel.set p.2 (n : Int)).far (set_other _ (by omega))
end Go.Proofs.Ytdilmgcdebobaaa
