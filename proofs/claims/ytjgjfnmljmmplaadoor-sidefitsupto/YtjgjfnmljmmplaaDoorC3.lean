/-
  The walks of (*writer).stay, (*writer).ended.
-/
import Derived.Test.YtjgjfnmljmmplaaDoorCq
import Derived.Deep.RegionHeld3
import Derived.Deep.DrawnRows
import Derived.BigRegion
import Derived.StillTactics
import Derived.OwnWalk
namespace Go.Proofs.YtjgjfnmljmmplaaDoor
open Go.RowKit
open Ed (Ch Run Pr)

abbrev WS := List Ch × Int × Int
def stayP (st : WS) (r : Run) : WS := (st.1 ++ Ed.gap st.2.1 st.2.2 r.1 r.2.1, r.1 + r.2.2, r.2.1 + r.2.2)
def wrC (d : List Run) : WS := d.foldl stayP ([], 0, 0)
theorem wrC_snoc (d : List Run) (r : Run) : wrC (d ++ [r]) = stayP (wrC d) r := by unfold wrC; rw [List.foldl_append]; rfl
theorem stay_of (d : List Run) (n m : Int) : ∀ st : WS, (d.foldl stayP st).1 ++ Ed.gap (d.foldl stayP st).2.1 (d.foldl stayP st).2.2 n m = st.1 ++ Ed.ofR d st.2.1 st.2.2 n m := by
  induction d with
  | nil => intro st; rfl
  | cons r d ih =>
    intro st
    rw [List.foldl_cons, ih, Ed.ofR]
    unfold stayP
    simp only [List.append_assoc]
theorem wrC_ended (d : List Run) (n m : Int) : (stayP (wrC d) (n, m, 0)).1 = Ed.ofR d 0 0 n m := by
  have := stay_of d n m ([], 0, 0)
  simpa [stayP, wrC] using this
/-- a writer lies in block g; its changes, and it itself, are the call's own from B on; what it may write -/
def WrAt (B g : Nat) (st : WS) (X : Nat → Prop) (w : World) : Prop :=
  ∃ v, w.heap[g]? = some (.cells #[v, .int .i64 st.2.1, .int .i64 st.2.2] 77) ∧ OwnC w B v st.1 ∧ v.ownBlock ≠ some g ∧ B ≤ g ∧ X = fun k => k = g ∨ v.ownBlock = some k
theorem WrAt.later {B g : Nat} {st : WS} {X : Nat → Prop} {w w' : World} (h : WrAt B g st X w) (hb : Below w.heap.size w w') : WrAt B g st X w' := by
  obtain ⟨v, h1, h2, h3, h4, h5⟩ := h
  exact ⟨v, (hb.block g (lt_of_heap h1)).trans h1, own_stays h2 hb, h3, h4, h5⟩
theorem WrAt.in {B g : Nat} {st : WS} {X : Nat → Prop} {w : World} (h : WrAt B g st X w) : ∀ k, X k → B ≤ k ∧ k < w.heap.size := by
  obtain ⟨v, h1, h2, h3, h4, rfl⟩ := h
  intro k hk
  rcases hk with rfl | hk
  · exact ⟨h4, lt_of_heap h1⟩
  · exact ⟨own_ge h2 k hk, own_lt h2 k hk⟩
theorem Tryd.infoChange : (Tryd.prog.info? 45).map (fun i => (i.zero, i.size, i.bytes)) = some (some (.agg #[.int .i64 0, .int .i64 0, .int .i64 0, .int .i64 0]), 4, 32) := by kernel_rfl
theorem set_heap (w : World) (g k : Nat) (cs : Array Value) (t : TypeId) (u : Value) (h : w.heap[g]? = some (.cells cs t)) : (w.setCell ⟨g, k, none⟩ u).heap[g]? = some (.cells (cs.setIfInBounds k u) t) := by
  have hl := lt_of_heap h
  have he : w.heap[g] = .cells cs t := by rw [Array.getElem?_eq_getElem hl] at h; exact Option.some.inj h
  simp [World.setCell, hl, Array.getElem_modify, he]

theorem set_other (w : World) {g k j : Nat} {u : Value} (h : j ≠ g) : (w.setCell ⟨g, k, none⟩ u).heap[j]? = w.heap[j]? := by
  simp [World.setCell, Array.getElem?_modify, Ne.symm h]
theorem set_size (w : World) (g k : Nat) (u : Value) : (w.setCell ⟨g, k, none⟩ u).heap.size = w.heap.size := by simp [World.setCell]
theorem set_os (w : World) (g k : Nat) (u : Value) : (w.setCell ⟨g, k, none⟩ u).os = w.os := rfl
theorem set_tape (w : World) (g k : Nat) (u : Value) : (w.setCell ⟨g, k, none⟩ u).tape = w.tape := rfl
theorem set_output (w : World) (g k : Nat) (u : Value) : (w.setCell ⟨g, k, none⟩ u).output = w.output := rfl
theorem wrapOk {n : Int} (h1 : -9223372036854775808 ≤ n) (h2 : n ≤ 9223372036854775807) : IntKind.i64.wrap n = n := by
  rw [IntKind.wrap_i64]; omega
theorem frozen_of_blk {w : World} {g : Nat} {cs : Array Value} {t : TypeId} (h : w.heap[g]? = some (.cells cs t)) (o : Nat) : w.frozen? ⟨g, o, none⟩ = false := by
  simp [World.frozen?, h]
theorem wr_end {w w3 : World} {B g : Nat} {X : Nat → Prop} {v' p q : Value} {l : List Ch} (hK : Kept X w w3) (hX : X g) (hg3 : w3.heap[g]? = some (.cells #[v', p, q] 77)) (hO : OwnC w3 B v' l) (hne : v'.ownBlock ≠ some g) (hB : B ≤ g) (hat : ∀ k, v'.ownBlock = some k → X k ∨ w.heap.size ≤ k) (A C : Int) :
    Kept X w ((w3.setCell ⟨g, 1, none⟩ (.int .i64 A)).setCell ⟨g, 2, none⟩ (.int .i64 C)).drew ∧ ∃ X', WrAt B g (l, A, C) X' ((w3.setCell ⟨g, 1, none⟩ (.int .i64 A)).setCell ⟨g, 2, none⟩ (.int .i64 C)).drew ∧ ∀ k, X' k → X k ∨ w.heap.size ≤ k := by
  have h1 := set_heap w3 g 1 _ _ (.int .i64 A) hg3
  have h2 := set_heap _ g 2 _ _ (.int .i64 C) h1
  refine ⟨⟨hK.os, hK.tape, hK.output, ?_, fun k hk hx => ?_⟩, _, ⟨v', h2, ?_, hne, hB, rfl⟩, fun k hk => hk.elim (fun e => .inl (e ▸ hX)) (hat k)⟩
  · show w.heap.size ≤ ((w3.setCell ⟨g, 1, none⟩ (.int .i64 A)).setCell ⟨g, 2, none⟩ (.int .i64 C)).heap.size
    rw [set_size, set_size]; exact hK.size
  · have hkg : k ≠ g := fun e => hx (by rw [e]; exact hX)
    show ((w3.setCell ⟨g, 1, none⟩ (.int .i64 A)).setCell ⟨g, 2, none⟩ (.int .i64 C)).heap[k]? = _
    rw [set_other _ hkg, set_other _ hkg]
    exact hK.block k hk hx
  · refine own_far hO fun k hk => ?_
    have hkg : k ≠ g := fun e => hne (by rw [hk, e])
    show ((w3.setCell ⟨g, 1, none⟩ (.int .i64 A)).setCell ⟨g, 2, none⟩ (.int .i64 C)).heap[k]? = _
    rw [set_other _ hkg, set_other _ hkg]
theorem stayP_gap {cs : List Ch} {a b x y n : Int} (h : a < x ∨ b < y) : stayP (cs, a, b) (x, y, n) = (cs ++ [⟨a, x - a, b, y - b⟩], x + n, y + n) := by
  unfold stayP Ed.gap; simp only; rw [if_pos h]
theorem stayP_none {cs : List Ch} {a b x y n : Int} (h : ¬(a < x ∨ b < y)) : stayP (cs, a, b) (x, y, n) = (cs, x + n, y + n) := by
  unfold stayP Ed.gap; simp only; rw [if_neg h, List.append_nil]
attribute [local go_sem ↓] Go.wp_at_zero Go.wp_at_succ
set_option maxHeartbeats 4000000 in
set_option maxRecDepth 100000 in
theorem stay_far {B g : Nat} {st : WS} {X : Nat → Prop} {r : Run} {w : World} (hW : WrAt B g st X w) (hl : st.1.length ≤ 1000000000) (hB : B ≤ w.heap.size) (ha : 0 ≤ st.2.1) (hb : 0 ≤ st.2.2) (hra : 0 ≤ r.1) (hrb : 0 ≤ r.2.1) (hrn : 0 ≤ r.2.2) (h1 : r.1 ≤ 4194304) (h2 : r.2.1 ≤ 4194304) (h3 : r.2.2 ≤ 4194304) (h4 : st.2.1 ≤ 100000000) (h5 : st.2.2 ≤ 100000000) :
    Calls Tryd.prog 40 #[.pointer (some ⟨g, 0, none⟩), rV r] w fun e w' => e = .returned (.tuple #[]) ∧ Kept X w w' ∧ ∃ X', WrAt B g (stayP st r) X' w' ∧ ∀ k, X' k → X k ∨ w.heap.size ≤ k := by
  obtain ⟨v, hg, hown, hne, hBg, rfl⟩ := hW
  obtain ⟨cs, a, b⟩ := st
  obtain ⟨x, y, n⟩ := r
  obtain ⟨i0, hi0, hz0, hz1, hz2⟩ := info_parts Tryd.infoChange
  simp only at *
  have lg := lt_of_heap hg
  have k0 := cell_of_blk hg 0
  have k1 := cell_of_blk hg 1
  have k2 := cell_of_blk hg 2
  unfold rV
  have HG := hid hg
  clear hg
  by_cases hax : a < x
  · have hd : decide (a < x) = true := decide_eq_true hax
    have HGAP : Hid (a < x ∨ b < y) := hid (.inl hax)
    go_enter Tryd.func40, Tryd.ntmps40
    go_wp2
    go_quiet (fail)
    go_wp2_with fail
    have hbA : Below w.heap.size w ((w.alloc (.cells #[.int .i64 x, .int .i64 y, .int .i64 n] 80)).drewN nq) := below_drewN ((Below.refl _ _).alloc (Nat.le_refl _) _) nq
    have hs1 : ((w.alloc (.cells #[.int .i64 x, .int .i64 y, .int .i64 n] 80)).drewN nq).heap.size = w.heap.size + 1 := by simp
    have hR : ((w.alloc (.cells #[.int .i64 x, .int .i64 y, .int .i64 n] 80)).drewN nq).heap[w.heap.size]? = some (.cells #[.int .i64 x, .int .i64 y, .int .i64 n] 80) := heap_alloc_new w _
    generalize ((w.alloc (.cells #[.int .i64 x, .int .i64 y, .int .i64 n] 80)).drewN nq) = w1 at hbA hs1 hR ⊢
    have hg1 := (hbA.block g lg).trans HG.out
    have hown1 := own_stays hown hbA
    have m0 : w1.cell? ⟨g, 0, none⟩ = some v := cell_of_blk hg1 0
    have m1 : w1.cell? ⟨g, 1, none⟩ = some (.int .i64 a) := cell_of_blk hg1 1
    have m2 : w1.cell? ⟨g, 2, none⟩ = some (.int .i64 b) := cell_of_blk hg1 2
    have mf : w1.frozen? ⟨g, 0, none⟩ = false := frozen_of_blk hg1 0
    have hfz : ∀ o : Obj, (w1.alloc o).drew.frozen? ⟨g, 0, none⟩ = false := fun o => frozen_of_blk (((((Below.refl w1.heap.size w1).alloc (Nat.le_refl _) o)).block g (lt_of_heap hg1)).trans hg1) 0
    have r0 : w1.cell? ⟨w.heap.size, 0, none⟩ = some (.int .i64 x) := cell_of_blk hR 0
    have r1 : w1.cell? ⟨w.heap.size, 1, none⟩ = some (.int .i64 y) := cell_of_blk hR 1
    have r2 : w1.cell? ⟨w.heap.size, 2, none⟩ = some (.int .i64 n) := cell_of_blk hR 2
    have hnr : v.ownBlock ≠ some w.heap.size := fun h => by have := own_lt hown _ h; omega
    have HOWN := hid hown
    have HG1 := hid hg1
    have HB1 := hid hbA
    have HR := hid hR
    clear hown hbA hR k0 k1 k2 hg1
    obtain ⟨wb, hwb⟩ : ∃ wb, wb = w.heap.size := ⟨_, rfl⟩
    rw [← hwb] at r0 r1 r2 hnr hs1 HR lg ⊢
    have HWB := hid hwb
    have HS1 := hid hs1
    have hlg1 : g < w1.heap.size := by omega
    have hlw1 : wb < w1.heap.size := by omega
    have hBw1 : B ≤ w1.heap.size := by omega
    have hwx : IntKind.i64.wrap (x - a) = x - a := wrapOk (by omega) (by omega)
    have hwy : IntKind.i64.wrap (y - b) = y - b := wrapOk (by omega) (by omega)
    clear hwb hs1
    refine region_lastL (S := fun w' => w'.cell? ⟨g, 0, none⟩ = some v ∧ w'.cell? ⟨g, 1, none⟩ = some (.int .i64 a) ∧ w'.cell? ⟨g, 2, none⟩ = some (.int .i64 b) ∧ w'.cell? ⟨wb, 0, none⟩ = some (.int .i64 x) ∧ w'.cell? ⟨wb, 1, none⟩ = some (.int .i64 y) ∧ w'.frozen? ⟨g, 0, none⟩ = false) (by simp) (by kernel_rfl) (by kernel_rfl) ?S0 (fun hHeld => ?M0)
    case S0 => simp [*]
    refine wpAnyH_take (i := 0) (v := ?v0) rfl (by kernel_rfl) (by kernel_rfl) (by kernel_rfl) (fun _ _ _ h => h) (Or.inl ⟨by rfl, fun ww hSw => ?y0⟩) hHeld ?r0
    case y0 => (dsimp only at hSw; go_simp; with_reducible rfl)
    try simp only [Act.put]
    try simp only [List.setIfInBounds_toArray]
    try simp only [List.set]
    refine wpAnyH_take (i := 1) (v := ?v1) rfl (by kernel_rfl) (by kernel_rfl) (by kernel_rfl) (fun _ _ _ h => h) (Or.inl ⟨by rfl, fun ww hSw => ?y1⟩) hHeld ?r1
    case y1 => (dsimp only at hSw; go_simp; with_reducible rfl)
    try simp only [Act.put]
    try simp only [List.setIfInBounds_toArray]
    try simp only [List.set]
    refine wpAnyH_take (i := 2) (v := ?v2) rfl (by kernel_rfl) (by kernel_rfl) (by kernel_rfl) (fun _ _ _ h => h) (Or.inl ⟨by rfl, fun ww hSw => ?y2⟩) hHeld ?r2
    case y2 => (dsimp only at hSw; go_simp; with_reducible rfl)
    try simp only [Act.put]
    try simp only [List.setIfInBounds_toArray]
    try simp only [List.set]
    refine wpAnyH_take (i := 3) (v := ?v3) rfl (by kernel_rfl) (by kernel_rfl) (by kernel_rfl) (fun _ _ _ h => h) (Or.inl ⟨by rfl, fun ww hSw => ?y3⟩) hHeld ?r3
    case y3 => (dsimp only at hSw; go_simp; with_reducible rfl)
    try simp only [Act.put]
    try simp only [List.setIfInBounds_toArray]
    try simp only [List.set]
    refine wpAnyH_take (i := 4) (v := ?v4) rfl (by kernel_rfl) (by kernel_rfl) (by kernel_rfl) (fun _ _ _ h => h) (Or.inl ⟨by rfl, fun ww hSw => ?y4⟩) hHeld ?r4
    case y4 => (dsimp only at hSw; go_simp; with_reducible rfl)
    try simp only [Act.put]
    try simp only [List.setIfInBounds_toArray]
    try simp only [List.set]
    refine wpAnyH_take (i := 5) (v := ?v5) rfl (by kernel_rfl) (by kernel_rfl) (by kernel_rfl) (fun _ _ _ h => h) (Or.inl ⟨by rfl, fun ww hSw => ?y5⟩) hHeld ?r5
    case y5 => (dsimp only at hSw; go_simp; with_reducible rfl)
    try simp only [Act.put]
    try simp only [List.setIfInBounds_toArray]
    try simp only [List.set]
    refine wpAnyH_take (i := 6) (v := ?v6) rfl (by kernel_rfl) (by kernel_rfl) (by kernel_rfl) (fun _ _ _ h => h) (Or.inl ⟨by rfl, fun ww hSw => ?y6⟩) hHeld ?r6
    case y6 => (dsimp only at hSw; go_simp; with_reducible rfl)
    try simp only [Act.put]
    try simp only [List.setIfInBounds_toArray]
    try simp only [List.set]
    refine wpAnyH_take (i := 7) (v := ?v7) rfl (by kernel_rfl) (by kernel_rfl) (by kernel_rfl) (fun _ _ _ h => h) (Or.inl ⟨by rfl, fun ww hSw => ?y7⟩) hHeld ?r7
    case y7 => (dsimp only at hSw; go_simp; with_reducible rfl)
    try simp only [Act.put]
    try simp only [List.setIfInBounds_toArray]
    try simp only [List.set]
    refine wpAnyH_take (i := 8) (v := ?v8) rfl (by kernel_rfl) (by kernel_rfl) (by kernel_rfl) (fun _ _ _ h => h) (Or.inl ⟨by rfl, fun ww hSw => ?y8⟩) hHeld ?r8
    case y8 => (dsimp only at hSw; go_simp; with_reducible rfl)
    try simp only [Act.put]
    try simp only [List.setIfInBounds_toArray]
    try simp only [List.set]
    refine wpAnyH_take (i := 9) (v := ?v9) rfl (by kernel_rfl) (by kernel_rfl) (by kernel_rfl) (fun _ _ _ h => h) (Or.inl ⟨by rfl, fun ww hSw => ?y9⟩) hHeld ?r9
    case y9 => (dsimp only at hSw; go_simp; with_reducible rfl)
    try simp only [Act.put]
    try simp only [List.setIfInBounds_toArray]
    try simp only [List.set]
    refine wpAnyH_take (i := 10) (v := ?v10) rfl (by kernel_rfl) (by kernel_rfl) (by kernel_rfl) (fun _ _ _ h => h) (Or.inl ⟨by rfl, fun ww hSw => ?y10⟩) hHeld ?r10
    case y10 => (dsimp only at hSw; go_simp; with_reducible rfl)
    try simp only [Act.put]
    try simp only [List.setIfInBounds_toArray]
    try simp only [List.set]
    refine wpAnyH_take (i := 11) (v := ?v11) rfl (by kernel_rfl) (by kernel_rfl) (by kernel_rfl) (fun _ _ _ h => h) (Or.inl ⟨by rfl, fun ww hSw => ?y11⟩) hHeld ?r11
    case y11 => (dsimp only at hSw; go_simp; with_reducible rfl)
    try simp only [Act.put]
    try simp only [List.setIfInBounds_toArray]
    try simp only [List.set]
    refine wpAnyH_take (i := 12) (v := ?v12) rfl (by kernel_rfl) (by kernel_rfl) (by kernel_rfl) (fun _ _ _ h => h) (Or.inl ⟨by rfl, fun ww hSw => ?y12⟩) hHeld ?r12
    case y12 => (dsimp only at hSw; go_simp; with_reducible rfl)
    try simp only [Act.put]
    try simp only [List.setIfInBounds_toArray]
    try simp only [List.set]
    refine wpAnyH_take (i := 13) (v := ?v13) rfl (by kernel_rfl) (by kernel_rfl) (by kernel_rfl) (fun _ _ _ h => h) (Or.inl ⟨by rfl, fun ww hSw => ?y13⟩) hHeld ?r13
    case y13 => (dsimp only at hSw; go_simp; with_reducible rfl)
    try simp only [Act.put]
    try simp only [List.setIfInBounds_toArray]
    try simp only [List.set]
    refine wpAnyH_take (i := 14) (v := ?v14) rfl (by kernel_rfl) (by kernel_rfl) (by kernel_rfl) (fun _ _ _ h => h) (Or.inl ⟨by rfl, fun ww hSw => ?y14⟩) hHeld ?r14
    case y14 => (dsimp only at hSw; go_simp; with_reducible rfl)
    try simp only [Act.put]
    try simp only [List.setIfInBounds_toArray]
    try simp only [List.set]
    refine wpAnyH_take (i := 15) (v := ?v15) rfl (by kernel_rfl) (by kernel_rfl) (by kernel_rfl) (fun _ _ _ h => h) (Or.inl ⟨by rfl, fun ww hSw => ?y15⟩) hHeld ?r15
    case y15 => (dsimp only at hSw; go_simp; with_reducible rfl)
    try simp only [Act.put]
    try simp only [List.setIfInBounds_toArray]
    try simp only [List.set]
    refine wpAnyH_take (i := 16) (v := ?v16) rfl (by kernel_rfl) (by kernel_rfl) (by kernel_rfl) (fun _ _ _ h => h) (Or.inl ⟨by rfl, fun ww hSw => ?y16⟩) hHeld ?r16
    case y16 => (dsimp only at hSw; go_simp; with_reducible rfl)
    try simp only [Act.put]
    try simp only [List.setIfInBounds_toArray]
    try simp only [List.set]
    refine wpAnyH_take (i := 17) (v := ?v17) rfl (by kernel_rfl) (by kernel_rfl) (by kernel_rfl) (fun _ _ _ h => h) (Or.inl ⟨by rfl, fun ww hSw => ?y17⟩) hHeld ?r17
    case y17 => (dsimp only at hSw; go_simp; with_reducible rfl)
    try simp only [Act.put]
    try simp only [List.setIfInBounds_toArray]
    try simp only [List.set]
    refine wpAnyH_take (i := 18) (v := ?v18) rfl (by kernel_rfl) (by kernel_rfl) (by kernel_rfl) (fun _ _ _ h => h) (Or.inl ⟨by rfl, fun ww hSw => ?y18⟩) hHeld ?r18
    case y18 => (dsimp only at hSw; go_simp; with_reducible rfl)
    try simp only [Act.put]
    try simp only [List.setIfInBounds_toArray]
    try simp only [List.set]
    refine wpAnyH_take (i := 19) (v := ?v19) rfl (by kernel_rfl) (by kernel_rfl) (by kernel_rfl) (fun _ _ _ h => h) (Or.inl ⟨by rfl, fun ww hSw => ?y19⟩) hHeld ?r19
    case y19 => (dsimp only at hSw; go_simp; with_reducible rfl)
    try simp only [Act.put]
    try simp only [List.setIfInBounds_toArray]
    try simp only [List.set]
    refine wpAnyH_take (i := 20) (v := ?v20) rfl (by kernel_rfl) (by kernel_rfl) (by kernel_rfl) (fun _ _ _ h => h) (Or.inl ⟨by rfl, fun ww hSw => ?y20⟩) hHeld ?r20
    case y20 => (dsimp only at hSw; go_simp; with_reducible rfl)
    try simp only [Act.put]
    try simp only [List.setIfInBounds_toArray]
    try simp only [List.set]
    refine wpAnyH_take (i := 21) (v := ?v21) rfl (by kernel_rfl) (by kernel_rfl) (by kernel_rfl) (fun _ _ _ h => h) (Or.inl ⟨by rfl, fun ww hSw => ?y21⟩) hHeld ?r21
    case y21 => (dsimp only at hSw; go_simp; with_reducible rfl)
    try simp only [Act.put]
    try simp only [List.setIfInBounds_toArray]
    try simp only [List.set]
    refine wpAnyH_take (i := 22) (v := ?v22) rfl (by kernel_rfl) (by kernel_rfl) (by kernel_rfl) (fun _ _ _ h => h) (Or.inl ⟨by rfl, fun ww hSw => ?y22⟩) hHeld ?r22
    case y22 => (dsimp only at hSw; go_simp; with_reducible rfl)
    try simp only [Act.put]
    try simp only [List.setIfInBounds_toArray]
    try simp only [List.set]
    refine wpAnyH_take (i := 23) (v := ?v23) rfl (by kernel_rfl) (by kernel_rfl) (by kernel_rfl) (fun _ _ _ h => h) (Or.inl ⟨by rfl, fun ww hSw => ?y23⟩) hHeld ?r23
    case y23 => (dsimp only at hSw; go_simp; with_reducible rfl)
    try simp only [Act.put]
    try simp only [List.setIfInBounds_toArray]
    try simp only [List.set]
    refine wpAnyH_take (i := 24) (v := ?v24) rfl (by kernel_rfl) (by kernel_rfl) (by kernel_rfl) (fun _ _ _ h => h) (Or.inl ⟨by rfl, fun ww hSw => ?y24⟩) hHeld ?r24
    case y24 => (dsimp only at hSw; go_simp; with_reducible rfl)
    try simp only [Act.put]
    try simp only [List.setIfInBounds_toArray]
    try simp only [List.set]
    refine wpAnyH_take (i := 25) (v := ?v25) rfl (by kernel_rfl) (by kernel_rfl) (by kernel_rfl) (fun _ _ _ h => h) (Or.inl ⟨by rfl, fun ww hSw => ?y25⟩) hHeld ?r25
    case y25 => (dsimp only at hSw; go_simp; with_reducible rfl)
    try simp only [Act.put]
    try simp only [List.setIfInBounds_toArray]
    try simp only [List.set]
    refine wpAnyH_take (i := 26) (v := ?v26) rfl (by kernel_rfl) (by kernel_rfl) (by kernel_rfl) (fun _ _ _ h => h) (Or.inl ⟨by rfl, fun ww hSw => ?y26⟩) hHeld ?r26
    case y26 => (dsimp only at hSw; go_simp; with_reducible rfl)
    try simp only [Act.put]
    try simp only [List.setIfInBounds_toArray]
    try simp only [List.set]
    refine wpAnyH_take (i := 27) (v := ?v27) rfl (by kernel_rfl) (by kernel_rfl) (by kernel_rfl) (fun _ _ _ h => h) (Or.inl ⟨by rfl, fun ww hSw => ?y27⟩) hHeld ?r27
    case y27 => (dsimp only at hSw; go_simp; with_reducible rfl)
    try simp only [Act.put]
    try simp only [List.setIfInBounds_toArray]
    try simp only [List.set]
    refine wpAnyH_ready (rs := [28]) (by kernel_rfl) (by simp) ?p28
    refine AllReadyH.cons rfl (fun K hK => ?_) AllReadyH.nil
    go_simp
    refine hK.out _ _ ?S28 (fun hHeld => ?M28)
    case S28 => (simp [*, World.cell?_alloc_some])
    clear hK K
    try simp only [Act.put]
    try simp only [List.setIfInBounds_toArray]
    try simp only [List.set]
    refine wpAnyH_ready (rs := [29]) (by kernel_rfl) (by simp) ?p29
    refine AllReadyH.cons rfl (fun K hK => ?_) AllReadyH.nil
    (refine step_append_lies _ (by rfl) _ _ _ (by rfl) B 45 i0 _ 4 32 Tryd.underlying22 hi0 hz0 hz1 hz2 rfl (by omega) v cs.length (csC cs) (by rfl) ((hown1.alloc _).drew) ⟨w1.heap.size, 0, none⟩ 1 1 [.int .i64 a, .int .i64 (x - a), .int .i64 b, .int .i64 (y - b)] (by rfl) (by rfl) (World.news_of_block (cs := #[.int .i64 a, .int .i64 (x - a), .int .i64 b, .int .i64 (y - b)]) (t := 45) (fr := (0, 0)) (heap_alloc_new w1 _)) (by simp [Value.oneCell']) (by omega) (by unfold maxLen; omega) (by omega) (by simp; omega) (w1.heap.size + 1) (by simp) ?_; intro gg cap w2 hown2 hgrow hat hlt)
    refine hK.out _ _ ?S29 (fun hHeld => ?M29)
    case S29 => (
      (try dsimp only at hHeld ⊢)
      obtain ⟨q0, q1, q2, q3, q4, q5⟩ := hHeld
      refine ⟨?_, ?_, ?_, ?_, ?_, ?_⟩
      · (rw [hgrow.cell_far _ (by simp; omega) (Ne.symm hne)]; exact q0)
      · (rw [hgrow.cell_far _ (by simp; omega) (Ne.symm hne)]; exact q1)
      · (rw [hgrow.cell_far _ (by simp; omega) (Ne.symm hne)]; exact q2)
      · (rw [hgrow.cell_far _ (by simp; omega) (Ne.symm hnr)]; exact q3)
      · (rw [hgrow.cell_far _ (by simp; omega) (Ne.symm hnr)]; exact q4)
      · (rw [hgrow.frozen_far _ (by simp; omega) (Ne.symm hne)]; exact q5))
    clear hK K
    try simp only [Act.put]
    try simp only [List.setIfInBounds_toArray]
    try simp only [List.set]
    refine wpAnyH_take (i := 30) (v := ?v30) rfl (by kernel_rfl) (by kernel_rfl) (by kernel_rfl) (fun _ _ _ h => h) (Or.inl ⟨by rfl, fun ww hSw => ?y30⟩) hHeld ?r30
    case y30 => (dsimp only at hSw; go_simp; with_reducible rfl)
    try simp only [Act.put]
    try simp only [List.setIfInBounds_toArray]
    try simp only [List.set]
    refine wpAnyH_take (i := 31) (v := ?v31) rfl (by kernel_rfl) (by kernel_rfl) (by kernel_rfl) (fun _ _ _ h => h) (Or.inl ⟨by rfl, fun ww hSw => ?y31⟩) hHeld ?r31
    case y31 => (dsimp only at hSw; go_simp; with_reducible rfl)
    try simp only [Act.put]
    try simp only [List.setIfInBounds_toArray]
    try simp only [List.set]
    refine wpAnyH_done (by kernel_rfl) ?_ _
    simp only [lastQ, List.getLast_cons_cons, List.getLast_singleton]
    obtain ⟨q0, q1, q2, q3, q4, q5⟩ := hHeld
    go_simp
    have hgb : w2.heap[g]? = some (.cells #[v, .int .i64 a, .int .i64 b] 77) := (hgrow.block g (by simp; omega) (Ne.symm hne)).trans ((((Below.refl w1.heap.size w1).alloc (Nat.le_refl _) _).block g hlg1).trans HG1.out)
    have hrb' : w2.heap[wb]? = some (.cells #[.int .i64 x, .int .i64 y, .int .i64 n] 80) := (hgrow.block wb (by simp; omega) (Ne.symm hnr)).trans ((((Below.refl w1.heap.size w1).alloc (Nat.le_refl _) _).block wb hlw1).trans HR.out)
    have HATX : Hid (∀ k, (Value.slice (some ⟨gg, 0, none⟩) (cs.length + 1) cap).ownBlock = some k → (k = g ∨ v.ownBlock = some k) ∨ w.heap.size ≤ k) := hid (fun k hk => by
      cases hk
      rcases hat with h | h
      · exact .inl (.inr h)
      · right; show w.heap.size ≤ gg; have := HS1.out; have := HWB.out; omega)
    have hgg : gg ≠ g := by
      rcases hat with h | h
      · intro e; subst e; exact hne h
      · omega
    have hgw : g ≠ wb := by omega
    have hg3 := set_heap w2 g 0 _ _ (.slice (some ⟨gg, 0, none⟩) (cs.length + 1) cap) hgb
    have hr3 : (w2.setCell ⟨g, 0, none⟩ (.slice (some ⟨gg, 0, none⟩) (cs.length + 1) cap)).heap[wb]? = some (.cells #[.int .i64 x, .int .i64 y, .int .i64 n] 80) := (set_other w2 hgw.symm).trans hrb'
    have hown3 : (w2.setCell ⟨g, 0, none⟩ (.slice (some ⟨gg, 0, none⟩) (cs.length + 1) cap)).ownsRow B 45 4 (.slice (some ⟨gg, 0, none⟩) (cs.length + 1) cap) (cs.length + 1) (csC cs ++ [.int .i64 a, .int .i64 (x - a), .int .i64 b, .int .i64 (y - b)]) := own_far hown2 (fun k hk => by cases hk; exact set_other w2 hgg)
    have hK3 : Kept (fun k => k = g ∨ v.ownBlock = some k) w (w2.setCell ⟨g, 0, none⟩ (.slice (some ⟨gg, 0, none⟩) (cs.length + 1) cap)) := by
      have h1 := HB1.out
      refine ⟨?_, ?_, ?_, ?_, fun k hk hx => ?_⟩
      · exact (set_os _ _ _ _).trans (hgrow.os.trans h1.os)
      · exact (set_tape _ _ _ _).trans (hgrow.tape.trans h1.tape)
      · exact (set_output _ _ _ _).trans (hgrow.output.trans h1.output)
      · rw [set_size]
        exact Nat.le_trans h1.size (Nat.le_trans (by simp) hgrow.size)
      · have hkg : k ≠ g := fun e => hx (.inl e)
        have hkr : v.ownBlock ≠ some k := fun e => hx (.inr e)
        rw [set_other w2 hkg]
        rw [hgrow.block k (by simp; have := h1.size; omega) (Ne.symm hkr)]
        exact (((Below.refl w1.heap.size w1).alloc (Nat.le_refl _) _).block k (by have := h1.size; omega)).trans (h1.block k hk)
    generalize (w2.setCell ⟨g, 0, none⟩ (.slice (some ⟨gg, 0, none⟩) (cs.length + 1) cap)) = w3 at hg3 hr3 hown3 hK3 ⊢
    have s0 : w3.cell? ⟨g, 0, none⟩ = some (.slice (some ⟨gg, 0, none⟩) (cs.length + 1) cap) := cell_of_blk hg3 0
    have s1 : w3.cell? ⟨g, 1, none⟩ = some (.int .i64 a) := cell_of_blk hg3 1
    have s2 : w3.cell? ⟨g, 2, none⟩ = some (.int .i64 b) := cell_of_blk hg3 2
    have f1 : w3.frozen? ⟨g, 1, none⟩ = false := frozen_of_blk hg3 1
    have f2 : w3.frozen? ⟨g, 2, none⟩ = false := frozen_of_blk hg3 2
    have t0 : w3.cell? ⟨wb, 0, none⟩ = some (.int .i64 x) := cell_of_blk hr3 0
    have t1 : w3.cell? ⟨wb, 1, none⟩ = some (.int .i64 y) := cell_of_blk hr3 1
    have t2 : w3.cell? ⟨wb, 2, none⟩ = some (.int .i64 n) := cell_of_blk hr3 2
    have HG3 := hid hg3
    have HO3 := hid hown3
    have HK3 := hid hK3
    clear hg3 hr3 hown3 hK3 hgrow hat hlt hown2 q0 q1 q2 q3 q4 q5 hgb hrb' hfz hown1 m0 m1 m2 mf r0 r1 r2 HB1 HR HG1
    go_wp2_with fail
    go_region
    have HEND := wr_end (A := x + n) (C := y + n) (l := cs ++ [⟨a, x - a, b, y - b⟩]) HK3.out (.inl rfl) HG3.out (by show World.ownsRow _ _ _ _ _ _ _; rw [List.length_append, csC_append]; exact HO3.out) (fun h => by cases h; exact hgg rfl) hBg HATX.out
    rw [← stayP_gap (n := n) HGAP.out] at HEND
    exact bodyPost_end (v := .tuple #[]) (by simp [results, Tryd.results40]) rfl ⟨rfl, HEND⟩
  · by_cases hby : b < y
    · have hd : decide (a < x) = false := decide_eq_false hax
      have hd2 : decide (b < y) = true := decide_eq_true hby
      have HGAP : Hid (a < x ∨ b < y) := hid (.inr hby)
      go_enter Tryd.func40, Tryd.ntmps40
      go_wp2
      go_quiet (fail)
      go_wp2_with fail
      have hbA : Below w.heap.size w ((w.alloc (.cells #[.int .i64 x, .int .i64 y, .int .i64 n] 80)).drewN nq) := below_drewN ((Below.refl _ _).alloc (Nat.le_refl _) _) nq
      have hs1 : ((w.alloc (.cells #[.int .i64 x, .int .i64 y, .int .i64 n] 80)).drewN nq).heap.size = w.heap.size + 1 := by simp
      have hR : ((w.alloc (.cells #[.int .i64 x, .int .i64 y, .int .i64 n] 80)).drewN nq).heap[w.heap.size]? = some (.cells #[.int .i64 x, .int .i64 y, .int .i64 n] 80) := heap_alloc_new w _
      generalize ((w.alloc (.cells #[.int .i64 x, .int .i64 y, .int .i64 n] 80)).drewN nq) = w1 at hbA hs1 hR ⊢
      have hg1 := (hbA.block g lg).trans HG.out
      have hown1 := own_stays hown hbA
      have m0 : w1.cell? ⟨g, 0, none⟩ = some v := cell_of_blk hg1 0
      have m1 : w1.cell? ⟨g, 1, none⟩ = some (.int .i64 a) := cell_of_blk hg1 1
      have m2 : w1.cell? ⟨g, 2, none⟩ = some (.int .i64 b) := cell_of_blk hg1 2
      have mf : w1.frozen? ⟨g, 0, none⟩ = false := frozen_of_blk hg1 0
      have hfz : ∀ o : Obj, (w1.alloc o).drew.frozen? ⟨g, 0, none⟩ = false := fun o => frozen_of_blk (((((Below.refl w1.heap.size w1).alloc (Nat.le_refl _) o)).block g (lt_of_heap hg1)).trans hg1) 0
      have r0 : w1.cell? ⟨w.heap.size, 0, none⟩ = some (.int .i64 x) := cell_of_blk hR 0
      have r1 : w1.cell? ⟨w.heap.size, 1, none⟩ = some (.int .i64 y) := cell_of_blk hR 1
      have r2 : w1.cell? ⟨w.heap.size, 2, none⟩ = some (.int .i64 n) := cell_of_blk hR 2
      have hnr : v.ownBlock ≠ some w.heap.size := fun h => by have := own_lt hown _ h; omega
      have HOWN := hid hown
      have HG1 := hid hg1
      have HB1 := hid hbA
      have HR := hid hR
      clear hown hbA hR k0 k1 k2 hg1
      obtain ⟨wb, hwb⟩ : ∃ wb, wb = w.heap.size := ⟨_, rfl⟩
      rw [← hwb] at r0 r1 r2 hnr hs1 HR lg ⊢
      have HWB := hid hwb
      have HS1 := hid hs1
      have hlg1 : g < w1.heap.size := by omega
      have hlw1 : wb < w1.heap.size := by omega
      have hBw1 : B ≤ w1.heap.size := by omega
      have hwx : IntKind.i64.wrap (x - a) = x - a := wrapOk (by omega) (by omega)
      have hwy : IntKind.i64.wrap (y - b) = y - b := wrapOk (by omega) (by omega)
      clear hwb hs1
      refine region_lastL (S := fun w' => w'.cell? ⟨g, 0, none⟩ = some v ∧ w'.cell? ⟨g, 1, none⟩ = some (.int .i64 a) ∧ w'.cell? ⟨g, 2, none⟩ = some (.int .i64 b) ∧ w'.cell? ⟨wb, 0, none⟩ = some (.int .i64 x) ∧ w'.cell? ⟨wb, 1, none⟩ = some (.int .i64 y) ∧ w'.frozen? ⟨g, 0, none⟩ = false) (by simp) (by kernel_rfl) (by kernel_rfl) ?Sb0 (fun hHeld => ?Mb0)
      case Sb0 => simp [*]
      refine wpAnyH_take (i := 0) (v := ?vb0) rfl (by kernel_rfl) (by kernel_rfl) (by kernel_rfl) (fun _ _ _ h => h) (Or.inl ⟨by rfl, fun ww hSw => ?yb0⟩) hHeld ?rb0
      case yb0 => (dsimp only at hSw; go_simp; with_reducible rfl)
      try simp only [Act.put]
      try simp only [List.setIfInBounds_toArray]
      try simp only [List.set]
      refine wpAnyH_take (i := 1) (v := ?vb1) rfl (by kernel_rfl) (by kernel_rfl) (by kernel_rfl) (fun _ _ _ h => h) (Or.inl ⟨by rfl, fun ww hSw => ?yb1⟩) hHeld ?rb1
      case yb1 => (dsimp only at hSw; go_simp; with_reducible rfl)
      try simp only [Act.put]
      try simp only [List.setIfInBounds_toArray]
      try simp only [List.set]
      refine wpAnyH_take (i := 2) (v := ?vb2) rfl (by kernel_rfl) (by kernel_rfl) (by kernel_rfl) (fun _ _ _ h => h) (Or.inl ⟨by rfl, fun ww hSw => ?yb2⟩) hHeld ?rb2
      case yb2 => (dsimp only at hSw; go_simp; with_reducible rfl)
      try simp only [Act.put]
      try simp only [List.setIfInBounds_toArray]
      try simp only [List.set]
      refine wpAnyH_take (i := 3) (v := ?vb3) rfl (by kernel_rfl) (by kernel_rfl) (by kernel_rfl) (fun _ _ _ h => h) (Or.inl ⟨by rfl, fun ww hSw => ?yb3⟩) hHeld ?rb3
      case yb3 => (dsimp only at hSw; go_simp; with_reducible rfl)
      try simp only [Act.put]
      try simp only [List.setIfInBounds_toArray]
      try simp only [List.set]
      refine wpAnyH_take (i := 4) (v := ?vb4) rfl (by kernel_rfl) (by kernel_rfl) (by kernel_rfl) (fun _ _ _ h => h) (Or.inl ⟨by rfl, fun ww hSw => ?yb4⟩) hHeld ?rb4
      case yb4 => (dsimp only at hSw; go_simp; with_reducible rfl)
      try simp only [Act.put]
      try simp only [List.setIfInBounds_toArray]
      try simp only [List.set]
      refine wpAnyH_take (i := 5) (v := ?vb5) rfl (by kernel_rfl) (by kernel_rfl) (by kernel_rfl) (fun _ _ _ h => h) (Or.inl ⟨by rfl, fun ww hSw => ?yb5⟩) hHeld ?rb5
      case yb5 => (dsimp only at hSw; go_simp; with_reducible rfl)
      try simp only [Act.put]
      try simp only [List.setIfInBounds_toArray]
      try simp only [List.set]
      refine wpAnyH_take (i := 6) (v := ?vb6) rfl (by kernel_rfl) (by kernel_rfl) (by kernel_rfl) (fun _ _ _ h => h) (Or.inl ⟨by rfl, fun ww hSw => ?yb6⟩) hHeld ?rb6
      case yb6 => (dsimp only at hSw; go_simp; with_reducible rfl)
      try simp only [Act.put]
      try simp only [List.setIfInBounds_toArray]
      try simp only [List.set]
      refine wpAnyH_take (i := 7) (v := ?vb7) rfl (by kernel_rfl) (by kernel_rfl) (by kernel_rfl) (fun _ _ _ h => h) (Or.inl ⟨by rfl, fun ww hSw => ?yb7⟩) hHeld ?rb7
      case yb7 => (dsimp only at hSw; go_simp; with_reducible rfl)
      try simp only [Act.put]
      try simp only [List.setIfInBounds_toArray]
      try simp only [List.set]
      refine wpAnyH_take (i := 8) (v := ?vb8) rfl (by kernel_rfl) (by kernel_rfl) (by kernel_rfl) (fun _ _ _ h => h) (Or.inl ⟨by rfl, fun ww hSw => ?yb8⟩) hHeld ?rb8
      case yb8 => (dsimp only at hSw; go_simp; with_reducible rfl)
      try simp only [Act.put]
      try simp only [List.setIfInBounds_toArray]
      try simp only [List.set]
      refine wpAnyH_take (i := 9) (v := ?vb9) rfl (by kernel_rfl) (by kernel_rfl) (by kernel_rfl) (fun _ _ _ h => h) (Or.inl ⟨by rfl, fun ww hSw => ?yb9⟩) hHeld ?rb9
      case yb9 => (dsimp only at hSw; go_simp; with_reducible rfl)
      try simp only [Act.put]
      try simp only [List.setIfInBounds_toArray]
      try simp only [List.set]
      refine wpAnyH_take (i := 10) (v := ?vb10) rfl (by kernel_rfl) (by kernel_rfl) (by kernel_rfl) (fun _ _ _ h => h) (Or.inl ⟨by rfl, fun ww hSw => ?yb10⟩) hHeld ?rb10
      case yb10 => (dsimp only at hSw; go_simp; with_reducible rfl)
      try simp only [Act.put]
      try simp only [List.setIfInBounds_toArray]
      try simp only [List.set]
      refine wpAnyH_take (i := 11) (v := ?vb11) rfl (by kernel_rfl) (by kernel_rfl) (by kernel_rfl) (fun _ _ _ h => h) (Or.inl ⟨by rfl, fun ww hSw => ?yb11⟩) hHeld ?rb11
      case yb11 => (dsimp only at hSw; go_simp; with_reducible rfl)
      try simp only [Act.put]
      try simp only [List.setIfInBounds_toArray]
      try simp only [List.set]
      refine wpAnyH_take (i := 12) (v := ?vb12) rfl (by kernel_rfl) (by kernel_rfl) (by kernel_rfl) (fun _ _ _ h => h) (Or.inl ⟨by rfl, fun ww hSw => ?yb12⟩) hHeld ?rb12
      case yb12 => (dsimp only at hSw; go_simp; with_reducible rfl)
      try simp only [Act.put]
      try simp only [List.setIfInBounds_toArray]
      try simp only [List.set]
      refine wpAnyH_take (i := 13) (v := ?vb13) rfl (by kernel_rfl) (by kernel_rfl) (by kernel_rfl) (fun _ _ _ h => h) (Or.inl ⟨by rfl, fun ww hSw => ?yb13⟩) hHeld ?rb13
      case yb13 => (dsimp only at hSw; go_simp; with_reducible rfl)
      try simp only [Act.put]
      try simp only [List.setIfInBounds_toArray]
      try simp only [List.set]
      refine wpAnyH_take (i := 14) (v := ?vb14) rfl (by kernel_rfl) (by kernel_rfl) (by kernel_rfl) (fun _ _ _ h => h) (Or.inl ⟨by rfl, fun ww hSw => ?yb14⟩) hHeld ?rb14
      case yb14 => (dsimp only at hSw; go_simp; with_reducible rfl)
      try simp only [Act.put]
      try simp only [List.setIfInBounds_toArray]
      try simp only [List.set]
      refine wpAnyH_take (i := 15) (v := ?vb15) rfl (by kernel_rfl) (by kernel_rfl) (by kernel_rfl) (fun _ _ _ h => h) (Or.inl ⟨by rfl, fun ww hSw => ?yb15⟩) hHeld ?rb15
      case yb15 => (dsimp only at hSw; go_simp; with_reducible rfl)
      try simp only [Act.put]
      try simp only [List.setIfInBounds_toArray]
      try simp only [List.set]
      refine wpAnyH_take (i := 16) (v := ?vb16) rfl (by kernel_rfl) (by kernel_rfl) (by kernel_rfl) (fun _ _ _ h => h) (Or.inl ⟨by rfl, fun ww hSw => ?yb16⟩) hHeld ?rb16
      case yb16 => (dsimp only at hSw; go_simp; with_reducible rfl)
      try simp only [Act.put]
      try simp only [List.setIfInBounds_toArray]
      try simp only [List.set]
      refine wpAnyH_take (i := 17) (v := ?vb17) rfl (by kernel_rfl) (by kernel_rfl) (by kernel_rfl) (fun _ _ _ h => h) (Or.inl ⟨by rfl, fun ww hSw => ?yb17⟩) hHeld ?rb17
      case yb17 => (dsimp only at hSw; go_simp; with_reducible rfl)
      try simp only [Act.put]
      try simp only [List.setIfInBounds_toArray]
      try simp only [List.set]
      refine wpAnyH_take (i := 18) (v := ?vb18) rfl (by kernel_rfl) (by kernel_rfl) (by kernel_rfl) (fun _ _ _ h => h) (Or.inl ⟨by rfl, fun ww hSw => ?yb18⟩) hHeld ?rb18
      case yb18 => (dsimp only at hSw; go_simp; with_reducible rfl)
      try simp only [Act.put]
      try simp only [List.setIfInBounds_toArray]
      try simp only [List.set]
      refine wpAnyH_take (i := 19) (v := ?vb19) rfl (by kernel_rfl) (by kernel_rfl) (by kernel_rfl) (fun _ _ _ h => h) (Or.inl ⟨by rfl, fun ww hSw => ?yb19⟩) hHeld ?rb19
      case yb19 => (dsimp only at hSw; go_simp; with_reducible rfl)
      try simp only [Act.put]
      try simp only [List.setIfInBounds_toArray]
      try simp only [List.set]
      refine wpAnyH_take (i := 20) (v := ?vb20) rfl (by kernel_rfl) (by kernel_rfl) (by kernel_rfl) (fun _ _ _ h => h) (Or.inl ⟨by rfl, fun ww hSw => ?yb20⟩) hHeld ?rb20
      case yb20 => (dsimp only at hSw; go_simp; with_reducible rfl)
      try simp only [Act.put]
      try simp only [List.setIfInBounds_toArray]
      try simp only [List.set]
      refine wpAnyH_take (i := 21) (v := ?vb21) rfl (by kernel_rfl) (by kernel_rfl) (by kernel_rfl) (fun _ _ _ h => h) (Or.inl ⟨by rfl, fun ww hSw => ?yb21⟩) hHeld ?rb21
      case yb21 => (dsimp only at hSw; go_simp; with_reducible rfl)
      try simp only [Act.put]
      try simp only [List.setIfInBounds_toArray]
      try simp only [List.set]
      refine wpAnyH_take (i := 22) (v := ?vb22) rfl (by kernel_rfl) (by kernel_rfl) (by kernel_rfl) (fun _ _ _ h => h) (Or.inl ⟨by rfl, fun ww hSw => ?yb22⟩) hHeld ?rb22
      case yb22 => (dsimp only at hSw; go_simp; with_reducible rfl)
      try simp only [Act.put]
      try simp only [List.setIfInBounds_toArray]
      try simp only [List.set]
      refine wpAnyH_take (i := 23) (v := ?vb23) rfl (by kernel_rfl) (by kernel_rfl) (by kernel_rfl) (fun _ _ _ h => h) (Or.inl ⟨by rfl, fun ww hSw => ?yb23⟩) hHeld ?rb23
      case yb23 => (dsimp only at hSw; go_simp; with_reducible rfl)
      try simp only [Act.put]
      try simp only [List.setIfInBounds_toArray]
      try simp only [List.set]
      refine wpAnyH_take (i := 24) (v := ?vb24) rfl (by kernel_rfl) (by kernel_rfl) (by kernel_rfl) (fun _ _ _ h => h) (Or.inl ⟨by rfl, fun ww hSw => ?yb24⟩) hHeld ?rb24
      case yb24 => (dsimp only at hSw; go_simp; with_reducible rfl)
      try simp only [Act.put]
      try simp only [List.setIfInBounds_toArray]
      try simp only [List.set]
      refine wpAnyH_take (i := 25) (v := ?vb25) rfl (by kernel_rfl) (by kernel_rfl) (by kernel_rfl) (fun _ _ _ h => h) (Or.inl ⟨by rfl, fun ww hSw => ?yb25⟩) hHeld ?rb25
      case yb25 => (dsimp only at hSw; go_simp; with_reducible rfl)
      try simp only [Act.put]
      try simp only [List.setIfInBounds_toArray]
      try simp only [List.set]
      refine wpAnyH_take (i := 26) (v := ?vb26) rfl (by kernel_rfl) (by kernel_rfl) (by kernel_rfl) (fun _ _ _ h => h) (Or.inl ⟨by rfl, fun ww hSw => ?yb26⟩) hHeld ?rb26
      case yb26 => (dsimp only at hSw; go_simp; with_reducible rfl)
      try simp only [Act.put]
      try simp only [List.setIfInBounds_toArray]
      try simp only [List.set]
      refine wpAnyH_take (i := 27) (v := ?vb27) rfl (by kernel_rfl) (by kernel_rfl) (by kernel_rfl) (fun _ _ _ h => h) (Or.inl ⟨by rfl, fun ww hSw => ?yb27⟩) hHeld ?rb27
      case yb27 => (dsimp only at hSw; go_simp; with_reducible rfl)
      try simp only [Act.put]
      try simp only [List.setIfInBounds_toArray]
      try simp only [List.set]
      refine wpAnyH_ready (rs := [28]) (by kernel_rfl) (by simp) ?pb28
      refine AllReadyH.cons rfl (fun K hK => ?_) AllReadyH.nil
      go_simp
      refine hK.out _ _ ?Sb28 (fun hHeld => ?Mb28)
      case Sb28 => (simp [*, World.cell?_alloc_some])
      clear hK K
      try simp only [Act.put]
      try simp only [List.setIfInBounds_toArray]
      try simp only [List.set]
      refine wpAnyH_ready (rs := [29]) (by kernel_rfl) (by simp) ?pb29
      refine AllReadyH.cons rfl (fun K hK => ?_) AllReadyH.nil
      (refine step_append_lies _ (by rfl) _ _ _ (by rfl) B 45 i0 _ 4 32 Tryd.underlying22 hi0 hz0 hz1 hz2 rfl (by omega) v cs.length (csC cs) (by rfl) ((hown1.alloc _).drew) ⟨w1.heap.size, 0, none⟩ 1 1 [.int .i64 a, .int .i64 (x - a), .int .i64 b, .int .i64 (y - b)] (by rfl) (by rfl) (World.news_of_block (cs := #[.int .i64 a, .int .i64 (x - a), .int .i64 b, .int .i64 (y - b)]) (t := 45) (fr := (0, 0)) (heap_alloc_new w1 _)) (by simp [Value.oneCell']) (by omega) (by unfold maxLen; omega) (by omega) (by simp; omega) (w1.heap.size + 1) (by simp) ?_; intro gg cap w2 hown2 hgrow hat hlt)
      refine hK.out _ _ ?Sb29 (fun hHeld => ?Mb29)
      case Sb29 => (
        (try dsimp only at hHeld ⊢)
        obtain ⟨q0, q1, q2, q3, q4, q5⟩ := hHeld
        refine ⟨?_, ?_, ?_, ?_, ?_, ?_⟩
        · (rw [hgrow.cell_far _ (by simp; omega) (Ne.symm hne)]; exact q0)
        · (rw [hgrow.cell_far _ (by simp; omega) (Ne.symm hne)]; exact q1)
        · (rw [hgrow.cell_far _ (by simp; omega) (Ne.symm hne)]; exact q2)
        · (rw [hgrow.cell_far _ (by simp; omega) (Ne.symm hnr)]; exact q3)
        · (rw [hgrow.cell_far _ (by simp; omega) (Ne.symm hnr)]; exact q4)
        · (rw [hgrow.frozen_far _ (by simp; omega) (Ne.symm hne)]; exact q5))
      clear hK K
      try simp only [Act.put]
      try simp only [List.setIfInBounds_toArray]
      try simp only [List.set]
      refine wpAnyH_take (i := 30) (v := ?vb30) rfl (by kernel_rfl) (by kernel_rfl) (by kernel_rfl) (fun _ _ _ h => h) (Or.inl ⟨by rfl, fun ww hSw => ?yb30⟩) hHeld ?rb30
      case yb30 => (dsimp only at hSw; go_simp; with_reducible rfl)
      try simp only [Act.put]
      try simp only [List.setIfInBounds_toArray]
      try simp only [List.set]
      refine wpAnyH_take (i := 31) (v := ?vb31) rfl (by kernel_rfl) (by kernel_rfl) (by kernel_rfl) (fun _ _ _ h => h) (Or.inl ⟨by rfl, fun ww hSw => ?yb31⟩) hHeld ?rb31
      case yb31 => (dsimp only at hSw; go_simp; with_reducible rfl)
      try simp only [Act.put]
      try simp only [List.setIfInBounds_toArray]
      try simp only [List.set]
      refine wpAnyH_done (by kernel_rfl) ?_ _
      simp only [lastQ, List.getLast_cons_cons, List.getLast_singleton]
      obtain ⟨q0, q1, q2, q3, q4, q5⟩ := hHeld
      go_simp
      have hgb : w2.heap[g]? = some (.cells #[v, .int .i64 a, .int .i64 b] 77) := (hgrow.block g (by simp; omega) (Ne.symm hne)).trans ((((Below.refl w1.heap.size w1).alloc (Nat.le_refl _) _).block g hlg1).trans HG1.out)
      have hrb' : w2.heap[wb]? = some (.cells #[.int .i64 x, .int .i64 y, .int .i64 n] 80) := (hgrow.block wb (by simp; omega) (Ne.symm hnr)).trans ((((Below.refl w1.heap.size w1).alloc (Nat.le_refl _) _).block wb hlw1).trans HR.out)
      have HATX : Hid (∀ k, (Value.slice (some ⟨gg, 0, none⟩) (cs.length + 1) cap).ownBlock = some k → (k = g ∨ v.ownBlock = some k) ∨ w.heap.size ≤ k) := hid (fun k hk => by
        cases hk
        rcases hat with h | h
        · exact .inl (.inr h)
        · right; show w.heap.size ≤ gg; have := HS1.out; have := HWB.out; omega)
      have hgg : gg ≠ g := by
        rcases hat with h | h
        · intro e; subst e; exact hne h
        · omega
      have hgw : g ≠ wb := by omega
      have hg3 := set_heap w2 g 0 _ _ (.slice (some ⟨gg, 0, none⟩) (cs.length + 1) cap) hgb
      have hr3 : (w2.setCell ⟨g, 0, none⟩ (.slice (some ⟨gg, 0, none⟩) (cs.length + 1) cap)).heap[wb]? = some (.cells #[.int .i64 x, .int .i64 y, .int .i64 n] 80) := (set_other w2 hgw.symm).trans hrb'
      have hown3 : (w2.setCell ⟨g, 0, none⟩ (.slice (some ⟨gg, 0, none⟩) (cs.length + 1) cap)).ownsRow B 45 4 (.slice (some ⟨gg, 0, none⟩) (cs.length + 1) cap) (cs.length + 1) (csC cs ++ [.int .i64 a, .int .i64 (x - a), .int .i64 b, .int .i64 (y - b)]) := own_far hown2 (fun k hk => by cases hk; exact set_other w2 hgg)
      have hK3 : Kept (fun k => k = g ∨ v.ownBlock = some k) w (w2.setCell ⟨g, 0, none⟩ (.slice (some ⟨gg, 0, none⟩) (cs.length + 1) cap)) := by
        have h1 := HB1.out
        refine ⟨?_, ?_, ?_, ?_, fun k hk hx => ?_⟩
        · exact (set_os _ _ _ _).trans (hgrow.os.trans h1.os)
        · exact (set_tape _ _ _ _).trans (hgrow.tape.trans h1.tape)
        · exact (set_output _ _ _ _).trans (hgrow.output.trans h1.output)
        · rw [set_size]
          exact Nat.le_trans h1.size (Nat.le_trans (by simp) hgrow.size)
        · have hkg : k ≠ g := fun e => hx (.inl e)
          have hkr : v.ownBlock ≠ some k := fun e => hx (.inr e)
          rw [set_other w2 hkg]
          rw [hgrow.block k (by simp; have := h1.size; omega) (Ne.symm hkr)]
          exact (((Below.refl w1.heap.size w1).alloc (Nat.le_refl _) _).block k (by have := h1.size; omega)).trans (h1.block k hk)
      generalize (w2.setCell ⟨g, 0, none⟩ (.slice (some ⟨gg, 0, none⟩) (cs.length + 1) cap)) = w3 at hg3 hr3 hown3 hK3 ⊢
      have s0 : w3.cell? ⟨g, 0, none⟩ = some (.slice (some ⟨gg, 0, none⟩) (cs.length + 1) cap) := cell_of_blk hg3 0
      have s1 : w3.cell? ⟨g, 1, none⟩ = some (.int .i64 a) := cell_of_blk hg3 1
      have s2 : w3.cell? ⟨g, 2, none⟩ = some (.int .i64 b) := cell_of_blk hg3 2
      have f1 : w3.frozen? ⟨g, 1, none⟩ = false := frozen_of_blk hg3 1
      have f2 : w3.frozen? ⟨g, 2, none⟩ = false := frozen_of_blk hg3 2
      have t0 : w3.cell? ⟨wb, 0, none⟩ = some (.int .i64 x) := cell_of_blk hr3 0
      have t1 : w3.cell? ⟨wb, 1, none⟩ = some (.int .i64 y) := cell_of_blk hr3 1
      have t2 : w3.cell? ⟨wb, 2, none⟩ = some (.int .i64 n) := cell_of_blk hr3 2
      have HG3 := hid hg3
      have HO3 := hid hown3
      have HK3 := hid hK3
      clear hg3 hr3 hown3 hK3 hgrow hat hlt hown2 q0 q1 q2 q3 q4 q5 hgb hrb' hfz hown1 m0 m1 m2 mf r0 r1 r2 HB1 HR HG1
      go_wp2_with fail
      go_region
      have HEND := wr_end (A := x + n) (C := y + n) (l := cs ++ [⟨a, x - a, b, y - b⟩]) HK3.out (.inl rfl) HG3.out (by show World.ownsRow _ _ _ _ _ _ _; rw [List.length_append, csC_append]; exact HO3.out) (fun h => by cases h; exact hgg rfl) hBg HATX.out
      rw [← stayP_gap (n := n) HGAP.out] at HEND
      exact bodyPost_end (v := .tuple #[]) (by simp [results, Tryd.results40]) rfl ⟨rfl, HEND⟩
    · have hd : decide (a < x) = false := decide_eq_false hax
      have hd2 : decide (b < y) = false := decide_eq_false hby
      have HGAP : Hid (¬(a < x ∨ b < y)) := hid (by omega)
      go_enter Tryd.func40, Tryd.ntmps40
      go_wp2
      go_quiet (fail)
      go_wp2_with fail
      have hbA : Below w.heap.size w ((w.alloc (.cells #[.int .i64 x, .int .i64 y, .int .i64 n] 80)).drewN nq) := below_drewN ((Below.refl _ _).alloc (Nat.le_refl _) _) nq
      have hs1 : ((w.alloc (.cells #[.int .i64 x, .int .i64 y, .int .i64 n] 80)).drewN nq).heap.size = w.heap.size + 1 := by simp
      have hR : ((w.alloc (.cells #[.int .i64 x, .int .i64 y, .int .i64 n] 80)).drewN nq).heap[w.heap.size]? = some (.cells #[.int .i64 x, .int .i64 y, .int .i64 n] 80) := heap_alloc_new w _
      generalize ((w.alloc (.cells #[.int .i64 x, .int .i64 y, .int .i64 n] 80)).drewN nq) = w1 at hbA hs1 hR ⊢
      have hg1 := (hbA.block g lg).trans HG.out
      have hown1 := own_stays hown hbA
      have s1 : w1.cell? ⟨g, 1, none⟩ = some (.int .i64 a) := cell_of_blk hg1 1
      have s2 : w1.cell? ⟨g, 2, none⟩ = some (.int .i64 b) := cell_of_blk hg1 2
      have f1 : w1.frozen? ⟨g, 1, none⟩ = false := frozen_of_blk hg1 1
      have f2 : w1.frozen? ⟨g, 2, none⟩ = false := frozen_of_blk hg1 2
      have t0 : w1.cell? ⟨w.heap.size, 0, none⟩ = some (.int .i64 x) := cell_of_blk hR 0
      have t1 : w1.cell? ⟨w.heap.size, 1, none⟩ = some (.int .i64 y) := cell_of_blk hR 1
      have t2 : w1.cell? ⟨w.heap.size, 2, none⟩ = some (.int .i64 n) := cell_of_blk hR 2
      have HK3 : Hid (Kept (fun k => k = g ∨ v.ownBlock = some k) w w1) := hid ⟨hbA.os, hbA.tape, hbA.output, hbA.size, fun k hk _ => hbA.block k hk⟩
      have HG3 := hid hg1
      have HO3 := hid hown1
      obtain ⟨wb, hwb⟩ : ∃ wb, wb = w.heap.size := ⟨_, rfl⟩
      have hgw : g ≠ wb := by omega
      rw [← hwb] at t0 t1 t2 ⊢
      clear hg1 hR hown1 hbA hs1 k0 k1 k2 hwb
      go_region
      have HEND := wr_end (A := x + n) (C := y + n) (l := cs) HK3.out (.inl rfl) HG3.out HO3.out hne hBg (fun k hk => .inl (.inr hk))
      rw [← stayP_none (n := n) HGAP.out] at HEND
      exact bodyPost_end (v := .tuple #[]) (by simp [results, Tryd.results40]) rfl ⟨rfl, HEND⟩
theorem stay_any {B g : Nat} {st : WS} {X : Nat → Prop} {r : Run} {w : World} (hW : WrAt B g st X w) (hl : st.1.length ≤ 1000000000) (hB : B ≤ w.heap.size) (ha : 0 ≤ st.2.1) (hb : 0 ≤ st.2.2) (hra : 0 ≤ r.1) (hrb : 0 ≤ r.2.1) (hrn : 0 ≤ r.2.2) (h1 : r.1 ≤ 4194304) (h2 : r.2.1 ≤ 4194304) (h3 : r.2.2 ≤ 4194304) (h4 : st.2.1 ≤ 100000000) (h5 : st.2.2 ≤ 100000000) :
    Calls Tryd.prog 40 #[.pointer (some ⟨g, 0, none⟩), rV r] w fun e w' => e = .returned (.tuple #[]) ∧ Kept X w w' ∧ ∃ X', WrAt B g (stayP st r) X' w' :=
  (stay_far hW hl hB ha hb hra hrb hrn h1 h2 h3 h4 h5).mono fun _ _ ⟨h1, h2, X', h3, _⟩ => ⟨h1, h2, X', h3⟩
end Go.Proofs.YtjgjfnmljmmplaaDoor
