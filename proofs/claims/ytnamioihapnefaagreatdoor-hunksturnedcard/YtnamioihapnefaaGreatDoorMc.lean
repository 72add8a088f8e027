/-
  The walk of groups.
-/
import Derived.Test.YtnamioihapnefaaGreatDoorMb
namespace Go.Proofs.YtnamioihapnefaaGreatDoor
open Go.RowKit
open Hu (Rw Hk)
open Ed (Ch)

theorem GpI.far {ctx : Int} {Bc lb xb E : Nat} {d : List Sp} {X : Nat → Prop} {w w2 : World} (hI : GpI ctx Bc lb xb d X w) (h1 : lb < E) (h2 : xb < E) (hf : Far E X w w2) : GpI ctx Bc lb xb d X w2 := by
  obtain ⟨i1, v, i2, i3, i4⟩ := hI
  exact ⟨(hf.block xb (lt_of_heap i1) (.inl h2)).trans i1, v, (hf.block lb (lt_of_heap i2) (.inl h1)).trans i2, own_far i3 (fun g hg => hf.block g (own_lt i3 g hg) (.inr ((i4 g).2 (.inr hg)))), i4⟩
theorem runs_le {l : List Rw} : ∀ r ∈ Hu.runsR l 0 0, r.2 ≤ l.length := by
  intro r hr
  obtain ⟨d, rest, e⟩ := List.append_of_mem hr
  exact (Hu.runs_in e).2.2
theorem runsR_len : ∀ (l : List Rw) (i f : Nat), (Hu.runsR l i f).length ≤ l.length + 1
  | [], i, f => by rw [Hu.runsR, Hu.run1]; split <;> simp
  | r :: l, i, f => by
    rw [Hu.runsR]
    split
    · have := runsR_len l (i + 1) f; rw [List.length_cons]; omega
    · have := runsR_len l (i + 1) (i + 1)
      rw [List.length_append, List.length_cons, Hu.run1]
      split <;> simp <;> omega
theorem gp_takes {w6 : World} {l : List Rw} {ctx : Int} {Bc lb xb B : Nat} (hl : l.length < 5864062014800) (hc0 : 0 ≤ ctx) (hc1 : ctx ≤ 2147483647) (hB : B ≤ lb ∧ B ≤ Bc) (hBc : Bc ≤ w6.heap.size) (h1 : lb < w6.heap.size) (h2 : xb < w6.heap.size) :
    Takes 102 #[.pointer (some ⟨lb, 0, none⟩), .pointer (some ⟨xb, 0, none⟩)] B w6.heap.size w6 (Hu.runsR l 0 0) (GpI ctx Bc lb xb) where
  ent := fun _ _ => by kernel_rfl
  far := fun d X w1 w2 hI hf => hI.far h1 h2 hf
  ge := fun d X w1 hI g hg => by
    obtain ⟨_, v, _, i3, i4⟩ := hI
    rcases (i4 g).1 hg with rfl | hg
    · exact hB.1
    · exact Nat.le_trans hB.2 (own_ge i3 g hg)
  step := fun d X r w1 hI hb hrest => by
    obtain ⟨rest, hrs⟩ := hrest
    obtain ⟨f, t⟩ := r
    have hin := Hu.runs_in hrs
    have hlen := congrArg List.length hrs
    rw [List.length_append, List.length_cons] at hlen
    have := runsR_len l 0 0
    exact groupsF_any hI hc0 hc1 (Nat.le_trans hBc hb.size) (by simp only at hin; omega) (by omega) (fun r hr => by
      have := runs_le r (by rw [hrs]; exact List.mem_append_left _ hr)
      omega)
set_option maxHeartbeats 1000000 in
set_option maxRecDepth 100000 in
theorem groups_any {w : World} {v : Value} {l : List Rw} {ctx : Int} (hv : RdW w v l) (hl : l.length < 5864062014800) (hc0 : 0 ≤ ctx) (hc1 : ctx ≤ 2147483647) :
    Calls Tryz.prog 74 #[v, .int .i64 ctx] w fun e w' => ∃ v', e = .returned v' ∧ OwnSp w' w.heap.size v' (gfold ctx (Hu.runsR l 0 0)) ∧ Below w.heap.size w w' := by
  obtain ⟨av, cv, rfl⟩ := hv.shape
  have HV := hid hv
  obtain ⟨t1, t2, t3, t4⟩ := two' w (.cells #[.int .i64 ctx] 3) (.cells #[.slice none 0 0] 112)
  obtain ⟨n, hn⟩ : ∃ n, n = l.length := ⟨_, rfl⟩
  have HN := hid hn
  rw [← hn] at hl ⊢
  clear hv hn
  go_enter Tryz.func74, Tryz.ntmps74
  go_wp2_with fail
  generalize (w.alloc (.cells #[.int .i64 ctx] 3)).alloc (.cells #[.slice none 0 0] 112) = w1 at t1 t2 t3 t4 ⊢
  have HB1 := hid t1
  have hT := gp_takes (w6 := w1) (l := l) (ctx := ctx) (Bc := w.heap.size) (lb := w.heap.size + 1) (xb := w.heap.size) (B := w.heap.size) (by have := HN.out; omega) hc0 hc1 ⟨by omega, Nat.le_refl _⟩ t1.size (by omega) (by omega)
  have h0 : GpI ctx w.heap.size (w.heap.size + 1) w.heap.size [] (fun g => g = w.heap.size + 1 ∨ (Value.slice none 0 0).ownBlock = some g) w1 := ⟨t2, _, t3, World.ownsRow_nil _ _ _ _, fun g => Iff.rfl⟩
  have HER := hid (hEachRun_any (HV.out.below t1) (B := w.heap.size) HV.out.under t1.size (by have := HN.out; omega) hT h0 (fun g hg => by
    rcases hg with rfl | hg
    · omega
    · cases hg))
  rw [← HN.out] at HER
  clear t1 t2 t3 t4 hT h0
  refine HER.out.mono ?_
  rintro e w7 ⟨rfl, hb7, X7, hI7⟩
  obtain ⟨_, v7, r4, r5, _⟩ := hI7
  obtain ⟨a7, k7, e7⟩ := own_shape r5
  subst e7
  have c0 := cell_of_blk r4 0
  have HB7 := hid (HB1.out.trans hb7)
  have HO7 := hid r5
  obtain ⟨GL, hGL⟩ : ∃ GL, GL = (gfold ctx (Hu.runsR l 0 0)).length := ⟨_, rfl⟩
  have c1 : w7.cell? ⟨w.heap.size + 1, 0, none⟩ = some (.slice a7 GL k7) := by rw [hGL]; exact c0
  rw [← hGL] at HO7
  clear r4 r5 hb7 c0 hGL
  go_wp2_with fail
  go_ret
  exact ⟨_, rfl, HO7.out, HB7.out⟩
end Go.Proofs.YtnamioihapnefaaGreatDoor
