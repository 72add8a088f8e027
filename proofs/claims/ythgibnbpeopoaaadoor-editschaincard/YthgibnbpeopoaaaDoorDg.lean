/-
  The walks of through and of Join's first function.
-/
import Derived.Test.YthgibnbpeopoaaaDoorD7
import Derived.Test.YthgibnbpeopoaaaDoorDc
namespace Go.Proofs.YthgibnbpeopoaaaDoor
open Go.RowKit
open Ed (Ch Run Pr)

theorem ret_run {p q r p' q' r' : Int} (h1 : p = p') (h2 : q = q') (h3 : r = r') : Ending.returned (.agg #[.int .i64 p, .int .i64 q, .int .i64 r]) = .returned (.agg #[.int .i64 p', .int .i64 q', .int .i64 r']) := by rw [h1, h2, h3]
theorem heap3 (w : World) (A B C : Obj) : (((w.alloc A).alloc B).alloc C).heap[w.heap.size + 1 + 1]? = some C := by
  have := heap_alloc_new ((w.alloc A).alloc B) C
  simpa using this
set_option maxHeartbeats 2000000 in
theorem through_any {r t : Run} {w : World} (h1 : 0 ≤ r.1) (h2 : 0 ≤ r.2.1) (h3 : 0 ≤ r.2.2) (g1 : 0 ≤ t.1) (g2 : 0 ≤ t.2.1) (g3 : 0 ≤ t.2.2) (u1 : r.1 ≤ 4194304) (u2 : r.2.1 ≤ 4194304) (u3 : r.2.2 ≤ 4194304) (v1 : t.1 ≤ 4194304) (v2 : t.2.1 ≤ 4194304) (v3 : t.2.2 ≤ 4194304) :
    Calls Tryd.prog 38 #[rV r, rV t] w fun e w' => e = .returned (rV (Ed.through r t)) ∧ Below w.heap.size w w' := by
  obtain ⟨a, b, n⟩ := r
  obtain ⟨c, d, m⟩ := t
  unfold Ed.through
  simp only at *
  unfold rV
  simp only
  go_enter Tryd.func38, Tryd.ntmps38
  go_wp2
  all_goals refine bodyPost_ret_by (results_cell_row Tryd.results38 _ _ (w.heap.size + 1 + 1) _ _ _ _ rfl (heap3 w _ _ _) Tryd.underlying68 rfl (by kernel_rfl)) rfl ?_
  all_goals refine ⟨ret_run (by omega) (by omega) (by omega), ?_⟩
  all_goals exact (((Below.refl _ _).alloc (Nat.le_refl _) _).alloc (by simp) _).alloc (by simp; omega) _

abbrev OwnR (w : World) (B : Nat) (v : Value) (l : List Run) : Prop := w.ownsRow B 68 3 v l.length (rsC l)
theorem Tryd.infoRun : (Tryd.prog.info? 68).map (fun i => (i.zero, i.size, i.bytes)) = some (some (.agg #[.int .i64 0, .int .i64 0, .int .i64 0]), 3, 24) := by kernel_rfl
/-- a variable in block g holds a row of runs of the call's own -/
def RsAt (B g : Nat) (l : List Run) (X : Nat → Prop) (w : World) : Prop :=
  ∃ v, w.heap[g]? = some (.cells #[v] 75) ∧ OwnR w B v l ∧ v.ownBlock ≠ some g ∧ B ≤ g ∧ X = fun k => k = g ∨ v.ownBlock = some k
theorem RsAt.later {B g : Nat} {l : List Run} {X : Nat → Prop} {w w' : World} (h : RsAt B g l X w) (hb : Below w.heap.size w w') : RsAt B g l X w' := by
  obtain ⟨v, h1, h2, h3, h4, h5⟩ := h
  exact ⟨v, (hb.block g (lt_of_heap h1)).trans h1, own_stays h2 hb, h3, h4, h5⟩
theorem RsAt.in {B g : Nat} {l : List Run} {X : Nat → Prop} {w : World} (h : RsAt B g l X w) : ∀ k, X k → B ≤ k ∧ k < w.heap.size := by
  obtain ⟨v, h1, h2, h3, h4, rfl⟩ := h
  intro k hk
  rcases hk with rfl | hk
  · exact ⟨h4, lt_of_heap h1⟩
  · exact ⟨own_ge h2 k hk, own_lt h2 k hk⟩
theorem RsAt.push {B g gg cap : Nat} {l : List Run} {X : Nat → Prop} {p : Run} {w0 w1 w2 : World} (h : RsAt B g l X w0) {v : Value} (hv : w0.heap[g]? = some (.cells #[v] 75)) (hb : Below w0.heap.size w0 w1) (hgrow : w1.grownBy w2 v.ownBlock) (hown : w2.ownsRow B 68 3 (.slice (some ⟨gg, 0, none⟩) (l.length + 1) cap) (l.length + 1) (rsC l ++ [.int .i64 p.1, .int .i64 p.2.1, .int .i64 p.2.2])) (hat : v.ownBlock = some gg ∨ w0.heap.size ≤ gg) :
    (∃ X', RsAt B g (l ++ [p]) X' (w2.setCell ⟨g, 0, none⟩ (.slice (some ⟨gg, 0, none⟩) (l.length + 1) cap))) ∧ Kept X w0 (w2.setCell ⟨g, 0, none⟩ (.slice (some ⟨gg, 0, none⟩) (l.length + 1) cap)) := by
  obtain ⟨v', h1, h2, h3, h4, rfl⟩ := h
  have e : v' = v := by
    rw [h1] at hv
    injection hv with hv
    injection hv with hv
    simpa using hv
  subst e
  have lg := lt_of_heap h1
  have hgg : gg ≠ g := by
    rcases hat with h | h
    · intro e; subst e; exact h3 h
    · omega
  have hg2 : w2.heap[g]? = some (.cells #[v'] 75) := (hgrow.block g (Nat.lt_of_lt_of_le lg hb.size) (Ne.symm h3)).trans ((hb.block g lg).trans h1)
  have hg3 := set_heap w2 g 0 _ _ (.slice (some ⟨gg, 0, none⟩) (l.length + 1) cap) hg2
  refine ⟨⟨_, ⟨.slice (some ⟨gg, 0, none⟩) (l.length + 1) cap, hg3, ?_, fun h => by cases h; exact hgg rfl, h4, rfl⟩⟩, ?_⟩
  · show World.ownsRow _ _ _ _ _ _ _
    rw [List.length_append, rsC_append]
    exact own_far hown (fun k hk => by cases hk; exact set_other w2 hgg)
  · refine ⟨?_, ?_, ?_, ?_, fun k hk hx => ?_⟩
    · exact (set_os _ _ _ _).trans (hgrow.os.trans hb.os)
    · exact (set_tape _ _ _ _).trans (hgrow.tape.trans hb.tape)
    · exact (set_output _ _ _ _).trans (hgrow.output.trans hb.output)
    · rw [set_size]; exact Nat.le_trans hb.size hgrow.size
    · have hkg : k ≠ g := fun e => hx (.inl e)
      have hkr : v'.ownBlock ≠ some k := fun e => hx (.inr e)
      rw [set_other w2 hkg, hgrow.block k (Nat.lt_of_lt_of_le hk hb.size) (Ne.symm hkr)]
      exact hb.block k hk

set_option maxHeartbeats 4000000 in
set_option maxRecDepth 100000 in
theorem joinF_any {B g : Nat} {l : List Run} {X : Nat → Prop} {r : Run} {w : World} (hI : RsAt B g l X w) (hl : l.length ≤ 100000000) (hB : B ≤ w.heap.size) :
    Calls Tryd.prog 35 #[rV r, .pointer (some ⟨g, 0, none⟩)] w fun e w' => e = .returned (.tuple #[]) ∧ Kept X w w' ∧ ∃ X', RsAt B g (l ++ [r]) X' w' := by
  obtain ⟨x, y, n⟩ := r
  obtain ⟨i0, hi0, hz0, hz1, hz2⟩ := info_parts Tryd.infoRun
  obtain ⟨v, hg, hO, hne, hBg, hX⟩ := id hI
  have HI := hid hI
  have hbA : Below w.heap.size w (w.alloc (.cells #[.int .i64 x, .int .i64 y, .int .i64 n] 68)) := (Below.refl _ _).alloc (Nat.le_refl _) _
  have hgl := lt_of_heap hg
  have hbN : Below w.heap.size w ((w.alloc (.cells #[.int .i64 x, .int .i64 y, .int .i64 n] 68)).alloc (.cells #[.int .i64 x, .int .i64 y, .int .i64 n] 68)) := hbA.alloc (by simp) _
  have k0 : w.cell? ⟨g, 0, none⟩ = some v := cell_of_blk hg 0
  have k1 : (w.alloc (.cells #[.int .i64 x, .int .i64 y, .int .i64 n] 68)).cell? ⟨g, 0, none⟩ = some v := (hbA.cell (p := ⟨g, 0, none⟩) hgl).trans k0
  have f0 : ((w.alloc (.cells #[.int .i64 x, .int .i64 y, .int .i64 n] 68)).alloc (.cells #[.int .i64 x, .int .i64 y, .int .i64 n] 68)).frozen? ⟨g, 0, none⟩ = false := frozen_of_blk ((hbN.block g hgl).trans hg) 0
  have HOa := hid (own_stays hO hbN)
  have HBN := hid hbN
  have HG := hid hg
  have hsN : ((w.alloc (.cells #[.int .i64 x, .int .i64 y, .int .i64 n] 68)).alloc (.cells #[.int .i64 x, .int .i64 y, .int .i64 n] 68)).heap.size = w.heap.size + 2 := by simp
  unfold rV
  clear hI hO hbN
  go_enter Tryd.func35, Tryd.ntmps35
  go_wp2_with (at_builtin; refine wpList_append_lies _ rfl _ _ 75 rfl B 68 i0 _ 3 24 Tryd.underlying75 hi0 hz0 hz1 hz2 rfl (by decide) v l.length (rsC l) rfl HOa.out ⟨w.heap.size + 1, 0, none⟩ 1 1 [.int .i64 x, .int .i64 y, .int .i64 n] rfl rfl (World.news_of_block (cs := #[.int .i64 x, .int .i64 y, .int .i64 n]) (by have := heap_alloc_new (w.alloc (.cells #[.int .i64 x, .int .i64 y, .int .i64 n] 68)) (.cells #[.int .i64 x, .int .i64 y, .int .i64 n] 68); simpa using this)) (by simp [Value.oneCell']) (by decide) (by unfold maxLen; omega) (by omega) (Nat.le_trans hB HBN.out.size) (w.heap.size + 2) (by simp) ?_; intro gg cap w2 hown2 hgrow hat hlt2; have hc2 : w2.cell? ⟨g, 0, none⟩ = some v := (by rw [hgrow.cell_far _ (by simp; omega) (Ne.symm hne)]; exact (HBN.out.cell (p := ⟨g, 0, none⟩) hgl).trans k0); have hf2 : w2.frozen? ⟨g, 0, none⟩ = false := (by rw [hgrow.frozen_far _ (by simp; omega) (Ne.symm hne)]; exact f0); have HOW := hid hown2; have HGR := hid hgrow; have HAT := hid hat; clear hown2 hgrow hat hlt2)
  have HE := hid (HI.out.push (p := (x, y, n)) HG.out HBN.out HGR.out HOW.out (by
        rcases HAT.out with q | q
        · exact .inl q
        · right; omega))
  exact bodyPost_end (v := .tuple #[]) (by simp [results, Tryd.results35]) rfl ⟨rfl, HE.out.2, HE.out.1⟩
end Go.Proofs.YthgibnbpeopoaaaDoor
