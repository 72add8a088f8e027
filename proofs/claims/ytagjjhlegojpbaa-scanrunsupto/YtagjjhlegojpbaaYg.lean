/-
  How texts end; both First.
-/
import Derived.Test.YtagjjhlegojpbaaYf
namespace Go.Proofs.Ytagjjhlegojpbaa
open Go.RowKit
open Ed (Ch Pr)

theorem frozen_of_blkY {w : World} {g : Nat} {cs : Array Value} {t : TypeId} (h : w.heap[g]? = some (.cells cs t)) (o : Nat) : w.frozen? ⟨g, o, none⟩ = false := by
  simp [World.frozen?, h]
theorem set_heapY (w : World) (g k : Nat) (cs : Array Value) (t : TypeId) (u : Value) (h : w.heap[g]? = some (.cells cs t)) : (w.setCell ⟨g, k, none⟩ u).heap[g]? = some (.cells (cs.setIfInBounds k u) t) := by
  have hl := lt_of_heap h
  have he : w.heap[g] = .cells cs t := by rw [Array.getElem?_eq_getElem hl] at h; exact Option.some.inj h
  simp [World.setCell, hl, Array.getElem_modify, he]
theorem below_setY {B g j : Nat} {w0 w : World} {u : Value} (h : Below B w0 w) (hg : B ≤ g) : Below B w0 (w.setCell ⟨g, j, none⟩ u) := h.setCell (p := ⟨g, j, none⟩) hg u
/-- a struct of four numbers written over -/
def put4 (w : World) (g : Nat) (c : Ch) : World := (((w.setCell ⟨g, 0, none⟩ (.int .i64 c.a)).setCell ⟨g, 1, none⟩ (.int .i64 c.n)).setCell ⟨g, 2, none⟩ (.int .i64 c.b)).setCell ⟨g, 3, none⟩ (.int .i64 c.m)
theorem put4_heap {w : World} {g : Nat} {c d : Ch} {t : TypeId} (h : w.heap[g]? = some (.cells #[.int .i64 d.a, .int .i64 d.n, .int .i64 d.b, .int .i64 d.m] t)) : (put4 w g c).heap[g]? = some (.cells #[.int .i64 c.a, .int .i64 c.n, .int .i64 c.b, .int .i64 c.m] t) :=
  set_heapY _ g 3 _ _ _ (set_heapY _ g 2 _ _ _ (set_heapY _ g 1 _ _ _ (set_heapY _ g 0 _ _ _ h)))
theorem put4_below {w0 w : World} {B g : Nat} {c : Ch} (h : Below B w0 w) (hg : B ≤ g) : Below B w0 (put4 w g c) := below_setY (below_setY (below_setY (below_setY h hg) hg) hg) hg
theorem first_res {W : World} {g : Nat} {c : Ch} {ok : Bool} {n : Int} {tmps : Array Value} (h : W.heap[g]? = some (.cells #[.int .i64 c.a, .int .i64 c.n, .int .i64 c.b, .int .i64 c.m] 23)) (h4 : tmps[4]? = some (.pointer (some ⟨g, 0, none⟩))) (h5 : tmps[5]? = some (.bool ok)) (h6 : tmps[6]? = some (.int .i64 n)) :
    (results Try.f9 tmps).run Try.prog W = .ok (.tuple #[uV c, .bool ok, .int .i64 n]) W := by
  have c0 : W.cell? ⟨g, 0, none⟩ = some (.int .i64 c.a) := cell_of_blk h 0
  have c1 : W.cell? ⟨g, 1, none⟩ = some (.int .i64 c.n) := cell_of_blk h 1
  have c2 : W.cell? ⟨g, 2, none⟩ = some (.int .i64 c.b) := cell_of_blk h 2
  have c3 : W.cell? ⟨g, 3, none⟩ = some (.int .i64 c.m) := cell_of_blk h 3
  unfold uV
  simp [results, Try.results9, go_sem, h4, h5, h6, c0, c1, c2, c3]
theorem wpQuiet_callY {P : Program} {ops : Array Oper} {C : World → Prop} {Q : Act → Prop} {o : Oper} {rest : List Oper} {a : Act} {f : FuncId} {args : Array Value} (v : Value) (hw : Region.wanted o (yielded ops a.tmps) = true) (he : ∀ w, (execOp a.eval o).run P w = .ok (.enter f args) w) (hc : ∀ w, C w → Calls P f args w fun e w'' => e = .returned v ∧ C w'') (h : wpQuiet P ops C Q rest (a.put o.dst v)) : wpQuiet P ops C Q (o :: rest) a := by
  unfold wpQuiet
  rw [if_pos hw]
  refine ⟨v, fun w hC => ?_, h⟩
  unfold Oper.quietAt
  rw [he w]
  exact ⟨rfl, hc w hC⟩
theorem first_res2 {W : World} {g : Nat} {c : Ch} {ok : Bool} {n : Int} {tmps : Array Value} (h : W.heap[g]? = some (.cells #[.int .i64 c.a, .int .i64 c.n, .int .i64 c.b, .int .i64 c.m] 26)) (h4 : tmps[4]? = some (.pointer (some ⟨g, 0, none⟩))) (h5 : tmps[5]? = some (.bool ok)) (h6 : tmps[6]? = some (.int .i64 n)) :
    (results Try.f10 tmps).run Try.prog W = .ok (.tuple #[uV c, .bool ok, .int .i64 n]) W := by
  have c0 : W.cell? ⟨g, 0, none⟩ = some (.int .i64 c.a) := cell_of_blk h 0
  have c1 : W.cell? ⟨g, 1, none⟩ = some (.int .i64 c.n) := cell_of_blk h 1
  have c2 : W.cell? ⟨g, 2, none⟩ = some (.int .i64 c.b) := cell_of_blk h 2
  have c3 : W.cell? ⟨g, 3, none⟩ = some (.int .i64 c.m) := cell_of_blk h 3
  unfold uV
  simp [results, Try.results10, go_sem, h4, h5, h6, c0, c1, c2, c3]
theorem wpQuiet_valY {P : Program} {ops : Array Oper} {C : World → Prop} {Q : Act → Prop} {o : Oper} {rest : List Oper} {a : Act} (v : Value) (hw : Region.wanted o (yielded ops a.tmps) = true) (he : ∀ w, C w → (execOp a.eval o).run P w = .ok (.value v) w) (h : wpQuiet P ops C Q rest (a.put o.dst v)) : wpQuiet P ops C Q (o :: rest) a := by
  unfold wpQuiet
  rw [if_pos hw]
  refine ⟨v, fun w hC => ?_, h⟩
  unfold Oper.quietAt
  rw [he w hC]
  exact ⟨rfl, rfl⟩
def endN (x y : ByteArray) : Nat := if x.size < y.size then 1 else if y.size < x.size then 2 else 0
set_option maxHeartbeats 1000000 in
theorem ends_any (x y : ByteArray) (w : World) : Calls Try.prog 20 #[.string x, .string y] w fun e w' => e = .returned (.int .i64 (endN x y)) ∧ w' = w := by
  go_enter Try.func20, Try.ntmps20
  unfold endN
  by_cases h1 : x.size < y.size
  · have i1 : (x.size : Int) < (y.size : Int) := by omega
    rw [if_pos h1]
    clear h1
    go_wp2
    go_ret
    exact ⟨rfl, rfl⟩
  · have i1 : ¬ (x.size : Int) < (y.size : Int) := by omega
    rw [if_neg h1]
    by_cases h2 : y.size < x.size
    · have i2 : (y.size : Int) < (x.size : Int) := by omega
      rw [if_pos h2]
      clear h1 h2
      go_wp2
      go_ret
      exact ⟨rfl, rfl⟩
    · have i2 : ¬ (y.size : Int) < (x.size : Int) := by omega
      rw [if_neg h2]
      clear h1 h2
      go_wp2
      go_ret
      exact ⟨rfl, rfl⟩
/-- what First answers -/
def fstV (x y : ByteArray) : Value := .tuple #[uV ((plc x y).headD zU), .bool (!(plc x y).isEmpty), .int .i64 (endN x y)]

theorem wp_region_qtailY {P : Program} {id : Nat} {Q : Exit → Act → World → Prop} {a : Act} {w : World} {l : List Oper} (n : Nat) (hm : P.follows .mixedOrders = true) (hB : Region.lexTailB .any l.toArray n = true)
    (h : wpQuiet P l.toArray (fun w' => w' = w.drewN 1) (fun a' => wpList P l.toArray Q (l.drop n) a' (w.drewN 1)) (l.take n) a) : (Code.region id l.toArray true).wp P Q a w :=
  wp_region_still_tail n hm hB (still_of_quietY _ _ h)
set_option maxHeartbeats 1000000 in
set_option maxRecDepth 100000 in
theorem first_any (x y : ByteArray) (w : World) (hx : x.size ≤ 1099511627776) (hy : y.size ≤ 1099511627776) :
    Calls Try.prog 9 #[.string x, .string y] w fun e w' => e = .returned (fstV x y) ∧ Below w.heap.size w w' := by
  have HE : Hid (∀ w', Calls Try.prog 20 #[.string x, .string y] w' fun e w'' => e = .returned (.int .i64 (endN x y)) ∧ w'' = w') := hid fun w' => ends_any x y w'
  obtain ⟨g, hg⟩ : ∃ g, w.heap.size = g := ⟨_, rfl⟩
  go_enter Try.func9, Try.ntmps9
  go_wp2_with fail
  have HAL := hid (all_any x y 1 (w.alloc (.cells #[.int .i64 0, .int .i64 0, .int .i64 0, .int .i64 0] 23)) hx hy)
  refine HAL.out.mono ?_
  rintro e w1 ⟨v, rfl, hO, hb1⟩
  obtain ⟨ao, co, e⟩ := own_shape hO
  subst e
  rw [World.size_alloc, hg] at hb1 hO
  have h0 : w1.heap[g]? = some (.cells #[.int .i64 0, .int .i64 0, .int .i64 0, .int .i64 0] 23) := (hb1.block g (by omega)).trans (by rw [← hg]; exact heap_alloc_new w _)
  have HB1 : Hid (Below g w w1) := hid (((Below.refl g w).alloc (by omega) _).trans (hb1.mono (by omega)))
  have e1 : Scn.mst 1 (plc x y) = (plc x y).take 1 := by unfold Scn.mst; rfl
  rw [e1] at hO ⊢
  have hlt := lt_of_heap h0
  clear hb1 e1 HAL
  cases hp : plc x y with
  | nil =>
    have HF : Hid (fstV x y = .tuple #[uV zU, .bool false, .int .i64 (endN x y)]) := hid (by unfold fstV; rw [hp]; rfl)
    rw [hp] at hO
    have f0 : w1.frozen? ⟨g, 0, none⟩ = false := frozen_of_blkY h0 0
    have f1 : w1.frozen? ⟨g, 1, none⟩ = false := frozen_of_blkY h0 1
    have f2 : w1.frozen? ⟨g, 2, none⟩ = false := frozen_of_blkY h0 2
    have f3 : w1.frozen? ⟨g, 3, none⟩ = false := frozen_of_blkY h0 3
    have c0 : w1.cell? ⟨g, 0, none⟩ = some (.int .i64 0) := cell_of_blk h0 0
    have c1 : w1.cell? ⟨g, 1, none⟩ = some (.int .i64 0) := cell_of_blk h0 1
    have c2 : w1.cell? ⟨g, 2, none⟩ = some (.int .i64 0) := cell_of_blk h0 2
    have c3 : w1.cell? ⟨g, 3, none⟩ = some (.int .i64 0) := cell_of_blk h0 3
    have H0 := hid h0
    clear hO h0
    go_wp2_with fail
    go_loopw [13] (fun i wr => i = .int .i64 0 ∧ wr = w1) (fun _ _ => 0)
    case atStart => exact ⟨rfl, rfl⟩
    case round =>
      obtain ⟨rfl, hwr⟩ := hrel
      subst hwr
      have HP : Hid (((((wr.setCell ⟨g, 0, none⟩ (.int .i64 0)).setCell ⟨g, 1, none⟩ (.int .i64 0)).setCell ⟨g, 2, none⟩ (.int .i64 0)).setCell ⟨g, 3, none⟩ (.int .i64 0)).heap[g]? = some (.cells #[.int .i64 0, .int .i64 0, .int .i64 0, .int .i64 0] 23)) := hid (put4_heap (c := zU) (d := zU) H0.out)
      have HBP : Hid (Below g w ((((wr.setCell ⟨g, 0, none⟩ (.int .i64 0)).setCell ⟨g, 1, none⟩ (.int .i64 0)).setCell ⟨g, 2, none⟩ (.int .i64 0)).setCell ⟨g, 3, none⟩ (.int .i64 0))) := hid (put4_below (c := zU) HB1.out (Nat.le_refl _))
      go_wp2_with (go_at_call 20; refine (HE.out _).mono ?_; rintro e w2 ⟨rfl, h2⟩; obtain rfl := h2.symm)
      generalize (((wr.setCell ⟨g, 0, none⟩ (.int .i64 0)).setCell ⟨g, 1, none⟩ (.int .i64 0)).setCell ⟨g, 2, none⟩ (.int .i64 0)).setCell ⟨g, 3, none⟩ (.int .i64 0) = W at HP HBP ⊢
      refine bodyPost_ret (first_res (c := zU) HP.out rfl rfl rfl) rfl ?_
      rw [HF.out, hg]
      exact ⟨rfl, HBP.out⟩
  | cons u r =>
    have HF : Hid (fstV x y = .tuple #[uV u, .bool true, .int .i64 (endN x y)]) := hid (by unfold fstV; rw [hp]; rfl)
    rw [hp] at hO
    have hr := own_rd hO
    obtain ⟨b, o, rfl, hb, d0, d1, d2, d3⟩ := rdC_at (k := 0) (x := u) hr rfl
    obtain ⟨ua, un, ub, um⟩ := u
    simp only [Nat.zero_mul, Nat.add_zero] at d0 d1 d2 d3
    have H0 := hid h0
    clear hO h0 hr
    go_wp2_with fail
    go_loopw [13] (fun i wr => i = .int .i64 0 ∧ wr = w1) (fun _ _ => 0)
    case atStart => exact ⟨rfl, rfl⟩
    case round =>
      obtain ⟨rfl, hwr⟩ := hrel
      subst hwr
      go_wp2_with fail
      have HQ0 : Hid ((wr.alloc (.cells #[.int .i64 ua, .int .i64 un, .int .i64 ub, .int .i64 um] 23)).heap[g]? = some (.cells #[.int .i64 0, .int .i64 0, .int .i64 0, .int .i64 0] 23) ∧ (wr.alloc (.cells #[.int .i64 ua, .int .i64 un, .int .i64 ub, .int .i64 um] 23)).heap[wr.heap.size]? = some (.cells #[.int .i64 ua, .int .i64 un, .int .i64 ub, .int .i64 um] 23)) :=
        hid ⟨(((Below.refl _ wr).alloc (Nat.le_refl _) _).block g hlt).trans H0.out, heap_alloc_new wr _⟩
      have HBQ : Hid (Below g w (wr.alloc (.cells #[.int .i64 ua, .int .i64 un, .int .i64 ub, .int .i64 um] 23))) := hid (HB1.out.trans ((Below.refl _ wr).alloc (by omega) _))
      obtain ⟨E, hE⟩ : ∃ E, E = wr.heap.size := ⟨_, rfl⟩
      rw [← hE] at HQ0
      rw [← hE]
      generalize wr.alloc (.cells #[.int .i64 ua, .int .i64 un, .int .i64 ub, .int .i64 um] 23) = wq at HQ0 HBQ ⊢
      have k0 : (wq.drewN 1).cell? ⟨E, 0, none⟩ = some (.int .i64 ua) := cell_of_blk HQ0.out.2 0
      have k1 : (wq.drewN 1).cell? ⟨E, 1, none⟩ = some (.int .i64 un) := cell_of_blk HQ0.out.2 1
      have k2 : (wq.drewN 1).cell? ⟨E, 2, none⟩ = some (.int .i64 ub) := cell_of_blk HQ0.out.2 2
      have k3 : (wq.drewN 1).cell? ⟨E, 3, none⟩ = some (.int .i64 um) := cell_of_blk HQ0.out.2 3
      refine wp_region_qtailY 4 (by kernel_rfl) (by kernel_rfl) ?_
      simp only [List.take_succ_cons, List.take_zero, List.drop_succ_cons, List.drop_zero]
      refine wpQuiet_valY (.agg #[.int .i64 ua, .int .i64 un, .int .i64 ub, .int .i64 um]) rfl (fun w' hw' => by subst hw'; simp [go_sem, k0, k1, k2, k3]) ?_
      simp only [Act.put, List.setIfInBounds_toArray, List.set_cons_succ, List.set_cons_zero]
      repeat go_big_quiet_step (fail)
      refine wpQuiet_callY (.int .i64 (endN x y)) rfl (fun w => by simp [go_sem, callFunc]; rfl) (fun w' hw' => (HE.out w').mono (by rintro e w'' ⟨rfl, rfl⟩; exact ⟨rfl, hw'⟩)) ?_
      simp only [Act.put, List.setIfInBounds_toArray, List.set_cons_succ, List.set_cons_zero]
      repeat go_big_quiet_step (fail)
      refine wpQuiet_nil ?_
      have H2 : Hid ((wq.drewN 1).heap[g]? = some (.cells #[.int .i64 0, .int .i64 0, .int .i64 0, .int .i64 0] 23)) := hid HQ0.out.1
      have HB2 := hid (below_drewN HBQ.out 1)
      generalize wq.drewN 1 = w2 at H2 HB2 ⊢
      clear k0 k1 k2 k3 d0 d1 d2 d3
      have f0 : w2.frozen? ⟨g, 0, none⟩ = false := frozen_of_blkY H2.out 0
      have f1 : w2.frozen? ⟨g, 1, none⟩ = false := frozen_of_blkY H2.out 1
      have f2 : w2.frozen? ⟨g, 2, none⟩ = false := frozen_of_blkY H2.out 2
      have f3 : w2.frozen? ⟨g, 3, none⟩ = false := frozen_of_blkY H2.out 3
      have c0 : w2.cell? ⟨g, 0, none⟩ = some (.int .i64 0) := cell_of_blk H2.out 0
      have c1 : w2.cell? ⟨g, 1, none⟩ = some (.int .i64 0) := cell_of_blk H2.out 1
      have c2 : w2.cell? ⟨g, 2, none⟩ = some (.int .i64 0) := cell_of_blk H2.out 2
      have c3 : w2.cell? ⟨g, 3, none⟩ = some (.int .i64 0) := cell_of_blk H2.out 3
      have HP : Hid (((((w2.setCell ⟨g, 0, none⟩ (.int .i64 ua)).setCell ⟨g, 1, none⟩ (.int .i64 un)).setCell ⟨g, 2, none⟩ (.int .i64 ub)).setCell ⟨g, 3, none⟩ (.int .i64 um)).heap[g]? = some (.cells #[.int .i64 ua, .int .i64 un, .int .i64 ub, .int .i64 um] 23)) := hid (put4_heap (c := ⟨ua, un, ub, um⟩) (d := zU) H2.out)
      have HBP : Hid (Below g w ((((w2.setCell ⟨g, 0, none⟩ (.int .i64 ua)).setCell ⟨g, 1, none⟩ (.int .i64 un)).setCell ⟨g, 2, none⟩ (.int .i64 ub)).setCell ⟨g, 3, none⟩ (.int .i64 um))) := hid (put4_below (c := ⟨ua, un, ub, um⟩) HB2.out (Nat.le_refl _))
      go_wp2_with fail
      generalize (((w2.setCell ⟨g, 0, none⟩ (.int .i64 ua)).setCell ⟨g, 1, none⟩ (.int .i64 un)).setCell ⟨g, 2, none⟩ (.int .i64 ub)).setCell ⟨g, 3, none⟩ (.int .i64 um) = W at HP HBP ⊢
      refine bodyPost_ret (first_res (c := ⟨ua, un, ub, um⟩) HP.out rfl rfl rfl) rfl ?_
      rw [HF.out, hg]
      exact ⟨rfl, HBP.out⟩
set_option maxHeartbeats 1000000 in
set_option maxRecDepth 100000 in
theorem refFirst_any (x y : ByteArray) (w : World) (hx : x.size ≤ 1099511627776) (hy : y.size ≤ 1099511627776) :
    Calls Try.prog 10 #[.string x, .string y] w fun e w' => e = .returned (fstV x y) ∧ Below w.heap.size w w' := by
  obtain ⟨g, hg⟩ : ∃ g, w.heap.size = g := ⟨_, rfl⟩
  go_enter Try.func10, Try.ntmps10
  by_cases h1 : x.size < y.size
  · have i1 : (x.size : Int) < (y.size : Int) := by omega
    have i2 : ¬ (y.size : Int) < (x.size : Int) := by omega
    have HEN : Hid (endN x y = 1) := hid (by unfold endN; rw [if_pos h1])
    clear h1
    go_wp2_with fail
    have HAL := hid (refAll_any x y 1 (w.alloc (.cells #[.int .i64 0, .int .i64 0, .int .i64 0, .int .i64 0] 26)) hx hy)
    refine HAL.out.mono ?_
    rintro e w1 ⟨v, rfl, hO, hb1⟩
    obtain ⟨ao, co, e⟩ := own_shape hO
    subst e
    rw [World.size_alloc, hg] at hb1 hO
    have h0 : w1.heap[g]? = some (.cells #[.int .i64 0, .int .i64 0, .int .i64 0, .int .i64 0] 26) := (hb1.block g (by omega)).trans (by rw [← hg]; exact heap_alloc_new w _)
    have HB1 : Hid (Below g w w1) := hid (((Below.refl g w).alloc (by omega) _).trans (hb1.mono (by omega)))
    have e1 : Scn.mst 1 (plc x y) = (plc x y).take 1 := by unfold Scn.mst; rfl
    rw [e1] at hO ⊢
    have hlt := lt_of_heap h0
    have H0 := hid h0
    clear hb1 e1 HAL
    have f0 : w1.frozen? ⟨g, 0, none⟩ = false := frozen_of_blkY h0 0
    have f1 : w1.frozen? ⟨g, 1, none⟩ = false := frozen_of_blkY h0 1
    have f2 : w1.frozen? ⟨g, 2, none⟩ = false := frozen_of_blkY h0 2
    have f3 : w1.frozen? ⟨g, 3, none⟩ = false := frozen_of_blkY h0 3
    have c0 : w1.cell? ⟨g, 0, none⟩ = some (.int .i64 0) := cell_of_blk h0 0
    have c1 : w1.cell? ⟨g, 1, none⟩ = some (.int .i64 0) := cell_of_blk h0 1
    have c2 : w1.cell? ⟨g, 2, none⟩ = some (.int .i64 0) := cell_of_blk h0 2
    have c3 : w1.cell? ⟨g, 3, none⟩ = some (.int .i64 0) := cell_of_blk h0 3
    clear h0
    cases hp : plc x y with
    | nil =>
      have HF : Hid (fstV x y = .tuple #[uV zU, .bool false, .int .i64 1]) := hid (by unfold fstV; rw [hp, HEN.out]; rfl)
      have HP : Hid (((((w1.setCell ⟨g, 0, none⟩ (.int .i64 0)).setCell ⟨g, 1, none⟩ (.int .i64 0)).setCell ⟨g, 2, none⟩ (.int .i64 0)).setCell ⟨g, 3, none⟩ (.int .i64 0)).heap[g]? = some (.cells #[.int .i64 0, .int .i64 0, .int .i64 0, .int .i64 0] 26)) := hid (put4_heap (c := zU) (d := zU) H0.out)
      have HBP : Hid (Below g w ((((w1.setCell ⟨g, 0, none⟩ (.int .i64 0)).setCell ⟨g, 1, none⟩ (.int .i64 0)).setCell ⟨g, 2, none⟩ (.int .i64 0)).setCell ⟨g, 3, none⟩ (.int .i64 0))) := hid (put4_below (c := zU) HB1.out (Nat.le_refl _))
      clear hO
      go_wp2_with fail
      generalize (((w1.setCell ⟨g, 0, none⟩ (.int .i64 0)).setCell ⟨g, 1, none⟩ (.int .i64 0)).setCell ⟨g, 2, none⟩ (.int .i64 0)).setCell ⟨g, 3, none⟩ (.int .i64 0) = W at HP HBP ⊢
      refine bodyPost_ret (first_res2 (c := zU) HP.out rfl rfl rfl) rfl ?_
      rw [HF.out, hg]
      exact ⟨rfl, HBP.out⟩
    | cons u r =>
      have HF : Hid (fstV x y = .tuple #[uV u, .bool true, .int .i64 1]) := hid (by unfold fstV; rw [hp, HEN.out]; rfl)
      rw [hp] at hO
      have hr := own_rd hO
      obtain ⟨b, o, rfl, hb, d0, d1, d2, d3⟩ := rdC_at (k := 0) (x := u) hr rfl
      obtain ⟨ua, un, ub, um⟩ := u
      simp only [Nat.zero_mul, Nat.add_zero] at d0 d1 d2 d3
      have HP : Hid (((((w1.setCell ⟨g, 0, none⟩ (.int .i64 ua)).setCell ⟨g, 1, none⟩ (.int .i64 un)).setCell ⟨g, 2, none⟩ (.int .i64 ub)).setCell ⟨g, 3, none⟩ (.int .i64 um)).heap[g]? = some (.cells #[.int .i64 ua, .int .i64 un, .int .i64 ub, .int .i64 um] 26)) := hid (put4_heap (c := ⟨ua, un, ub, um⟩) (d := zU) H0.out)
      have HBP : Hid (Below g w ((((w1.setCell ⟨g, 0, none⟩ (.int .i64 ua)).setCell ⟨g, 1, none⟩ (.int .i64 un)).setCell ⟨g, 2, none⟩ (.int .i64 ub)).setCell ⟨g, 3, none⟩ (.int .i64 um))) := hid (put4_below (c := ⟨ua, un, ub, um⟩) HB1.out (Nat.le_refl _))
      clear hO hr
      go_wp2_with fail
      generalize (((w1.setCell ⟨g, 0, none⟩ (.int .i64 ua)).setCell ⟨g, 1, none⟩ (.int .i64 un)).setCell ⟨g, 2, none⟩ (.int .i64 ub)).setCell ⟨g, 3, none⟩ (.int .i64 um) = W at HP HBP ⊢
      refine bodyPost_ret (first_res2 (c := ⟨ua, un, ub, um⟩) HP.out rfl rfl rfl) rfl ?_
      rw [HF.out, hg]
      exact ⟨rfl, HBP.out⟩
  · have i1 : ¬ (x.size : Int) < (y.size : Int) := by omega
    by_cases h2 : y.size < x.size
    · have i2 : (y.size : Int) < (x.size : Int) := by omega
      have HEN : Hid (endN x y = 2) := hid (by unfold endN; rw [if_neg h1, if_pos h2])
      clear h1 h2
      go_wp2_with fail
      have HAL := hid (refAll_any x y 1 (w.alloc (.cells #[.int .i64 0, .int .i64 0, .int .i64 0, .int .i64 0] 26)) hx hy)
      refine HAL.out.mono ?_
      rintro e w1 ⟨v, rfl, hO, hb1⟩
      obtain ⟨ao, co, e⟩ := own_shape hO
      subst e
      rw [World.size_alloc, hg] at hb1 hO
      have h0 : w1.heap[g]? = some (.cells #[.int .i64 0, .int .i64 0, .int .i64 0, .int .i64 0] 26) := (hb1.block g (by omega)).trans (by rw [← hg]; exact heap_alloc_new w _)
      have HB1 : Hid (Below g w w1) := hid (((Below.refl g w).alloc (by omega) _).trans (hb1.mono (by omega)))
      have e1 : Scn.mst 1 (plc x y) = (plc x y).take 1 := by unfold Scn.mst; rfl
      rw [e1] at hO ⊢
      have hlt := lt_of_heap h0
      have H0 := hid h0
      clear hb1 e1 HAL
      have f0 : w1.frozen? ⟨g, 0, none⟩ = false := frozen_of_blkY h0 0
      have f1 : w1.frozen? ⟨g, 1, none⟩ = false := frozen_of_blkY h0 1
      have f2 : w1.frozen? ⟨g, 2, none⟩ = false := frozen_of_blkY h0 2
      have f3 : w1.frozen? ⟨g, 3, none⟩ = false := frozen_of_blkY h0 3
      have c0 : w1.cell? ⟨g, 0, none⟩ = some (.int .i64 0) := cell_of_blk h0 0
      have c1 : w1.cell? ⟨g, 1, none⟩ = some (.int .i64 0) := cell_of_blk h0 1
      have c2 : w1.cell? ⟨g, 2, none⟩ = some (.int .i64 0) := cell_of_blk h0 2
      have c3 : w1.cell? ⟨g, 3, none⟩ = some (.int .i64 0) := cell_of_blk h0 3
      clear h0
      cases hp : plc x y with
      | nil =>
        have HF : Hid (fstV x y = .tuple #[uV zU, .bool false, .int .i64 2]) := hid (by unfold fstV; rw [hp, HEN.out]; rfl)
        have HP : Hid (((((w1.setCell ⟨g, 0, none⟩ (.int .i64 0)).setCell ⟨g, 1, none⟩ (.int .i64 0)).setCell ⟨g, 2, none⟩ (.int .i64 0)).setCell ⟨g, 3, none⟩ (.int .i64 0)).heap[g]? = some (.cells #[.int .i64 0, .int .i64 0, .int .i64 0, .int .i64 0] 26)) := hid (put4_heap (c := zU) (d := zU) H0.out)
        have HBP : Hid (Below g w ((((w1.setCell ⟨g, 0, none⟩ (.int .i64 0)).setCell ⟨g, 1, none⟩ (.int .i64 0)).setCell ⟨g, 2, none⟩ (.int .i64 0)).setCell ⟨g, 3, none⟩ (.int .i64 0))) := hid (put4_below (c := zU) HB1.out (Nat.le_refl _))
        clear hO
        go_wp2_with fail
        generalize (((w1.setCell ⟨g, 0, none⟩ (.int .i64 0)).setCell ⟨g, 1, none⟩ (.int .i64 0)).setCell ⟨g, 2, none⟩ (.int .i64 0)).setCell ⟨g, 3, none⟩ (.int .i64 0) = W at HP HBP ⊢
        refine bodyPost_ret (first_res2 (c := zU) HP.out rfl rfl rfl) rfl ?_
        rw [HF.out, hg]
        exact ⟨rfl, HBP.out⟩
      | cons u r =>
        have HF : Hid (fstV x y = .tuple #[uV u, .bool true, .int .i64 2]) := hid (by unfold fstV; rw [hp, HEN.out]; rfl)
        rw [hp] at hO
        have hr := own_rd hO
        obtain ⟨b, o, rfl, hb, d0, d1, d2, d3⟩ := rdC_at (k := 0) (x := u) hr rfl
        obtain ⟨ua, un, ub, um⟩ := u
        simp only [Nat.zero_mul, Nat.add_zero] at d0 d1 d2 d3
        have HP : Hid (((((w1.setCell ⟨g, 0, none⟩ (.int .i64 ua)).setCell ⟨g, 1, none⟩ (.int .i64 un)).setCell ⟨g, 2, none⟩ (.int .i64 ub)).setCell ⟨g, 3, none⟩ (.int .i64 um)).heap[g]? = some (.cells #[.int .i64 ua, .int .i64 un, .int .i64 ub, .int .i64 um] 26)) := hid (put4_heap (c := ⟨ua, un, ub, um⟩) (d := zU) H0.out)
        have HBP : Hid (Below g w ((((w1.setCell ⟨g, 0, none⟩ (.int .i64 ua)).setCell ⟨g, 1, none⟩ (.int .i64 un)).setCell ⟨g, 2, none⟩ (.int .i64 ub)).setCell ⟨g, 3, none⟩ (.int .i64 um))) := hid (put4_below (c := ⟨ua, un, ub, um⟩) HB1.out (Nat.le_refl _))
        clear hO hr
        go_wp2_with fail
        generalize (((w1.setCell ⟨g, 0, none⟩ (.int .i64 ua)).setCell ⟨g, 1, none⟩ (.int .i64 un)).setCell ⟨g, 2, none⟩ (.int .i64 ub)).setCell ⟨g, 3, none⟩ (.int .i64 um) = W at HP HBP ⊢
        refine bodyPost_ret (first_res2 (c := ⟨ua, un, ub, um⟩) HP.out rfl rfl rfl) rfl ?_
        rw [HF.out, hg]
        exact ⟨rfl, HBP.out⟩
    · have i2 : ¬ (y.size : Int) < (x.size : Int) := by omega
      have HEN : Hid (endN x y = 0) := hid (by unfold endN; rw [if_neg h1, if_neg h2])
      clear h1 h2
      go_wp2_with fail
      have HAL := hid (refAll_any x y 1 (w.alloc (.cells #[.int .i64 0, .int .i64 0, .int .i64 0, .int .i64 0] 26)) hx hy)
      refine HAL.out.mono ?_
      rintro e w1 ⟨v, rfl, hO, hb1⟩
      obtain ⟨ao, co, e⟩ := own_shape hO
      subst e
      rw [World.size_alloc, hg] at hb1 hO
      have h0 : w1.heap[g]? = some (.cells #[.int .i64 0, .int .i64 0, .int .i64 0, .int .i64 0] 26) := (hb1.block g (by omega)).trans (by rw [← hg]; exact heap_alloc_new w _)
      have HB1 : Hid (Below g w w1) := hid (((Below.refl g w).alloc (by omega) _).trans (hb1.mono (by omega)))
      have e1 : Scn.mst 1 (plc x y) = (plc x y).take 1 := by unfold Scn.mst; rfl
      rw [e1] at hO ⊢
      have hlt := lt_of_heap h0
      have H0 := hid h0
      clear hb1 e1 HAL
      have f0 : w1.frozen? ⟨g, 0, none⟩ = false := frozen_of_blkY h0 0
      have f1 : w1.frozen? ⟨g, 1, none⟩ = false := frozen_of_blkY h0 1
      have f2 : w1.frozen? ⟨g, 2, none⟩ = false := frozen_of_blkY h0 2
      have f3 : w1.frozen? ⟨g, 3, none⟩ = false := frozen_of_blkY h0 3
      have c0 : w1.cell? ⟨g, 0, none⟩ = some (.int .i64 0) := cell_of_blk h0 0
      have c1 : w1.cell? ⟨g, 1, none⟩ = some (.int .i64 0) := cell_of_blk h0 1
      have c2 : w1.cell? ⟨g, 2, none⟩ = some (.int .i64 0) := cell_of_blk h0 2
      have c3 : w1.cell? ⟨g, 3, none⟩ = some (.int .i64 0) := cell_of_blk h0 3
      clear h0
      cases hp : plc x y with
      | nil =>
        have HF : Hid (fstV x y = .tuple #[uV zU, .bool false, .int .i64 0]) := hid (by unfold fstV; rw [hp, HEN.out]; rfl)
        have HP : Hid (((((w1.setCell ⟨g, 0, none⟩ (.int .i64 0)).setCell ⟨g, 1, none⟩ (.int .i64 0)).setCell ⟨g, 2, none⟩ (.int .i64 0)).setCell ⟨g, 3, none⟩ (.int .i64 0)).heap[g]? = some (.cells #[.int .i64 0, .int .i64 0, .int .i64 0, .int .i64 0] 26)) := hid (put4_heap (c := zU) (d := zU) H0.out)
        have HBP : Hid (Below g w ((((w1.setCell ⟨g, 0, none⟩ (.int .i64 0)).setCell ⟨g, 1, none⟩ (.int .i64 0)).setCell ⟨g, 2, none⟩ (.int .i64 0)).setCell ⟨g, 3, none⟩ (.int .i64 0))) := hid (put4_below (c := zU) HB1.out (Nat.le_refl _))
        clear hO
        go_wp2_with fail
        generalize (((w1.setCell ⟨g, 0, none⟩ (.int .i64 0)).setCell ⟨g, 1, none⟩ (.int .i64 0)).setCell ⟨g, 2, none⟩ (.int .i64 0)).setCell ⟨g, 3, none⟩ (.int .i64 0) = W at HP HBP ⊢
        refine bodyPost_ret (first_res2 (c := zU) HP.out rfl rfl rfl) rfl ?_
        rw [HF.out, hg]
        exact ⟨rfl, HBP.out⟩
      | cons u r =>
        have HF : Hid (fstV x y = .tuple #[uV u, .bool true, .int .i64 0]) := hid (by unfold fstV; rw [hp, HEN.out]; rfl)
        rw [hp] at hO
        have hr := own_rd hO
        obtain ⟨b, o, rfl, hb, d0, d1, d2, d3⟩ := rdC_at (k := 0) (x := u) hr rfl
        obtain ⟨ua, un, ub, um⟩ := u
        simp only [Nat.zero_mul, Nat.add_zero] at d0 d1 d2 d3
        have HP : Hid (((((w1.setCell ⟨g, 0, none⟩ (.int .i64 ua)).setCell ⟨g, 1, none⟩ (.int .i64 un)).setCell ⟨g, 2, none⟩ (.int .i64 ub)).setCell ⟨g, 3, none⟩ (.int .i64 um)).heap[g]? = some (.cells #[.int .i64 ua, .int .i64 un, .int .i64 ub, .int .i64 um] 26)) := hid (put4_heap (c := ⟨ua, un, ub, um⟩) (d := zU) H0.out)
        have HBP : Hid (Below g w ((((w1.setCell ⟨g, 0, none⟩ (.int .i64 ua)).setCell ⟨g, 1, none⟩ (.int .i64 un)).setCell ⟨g, 2, none⟩ (.int .i64 ub)).setCell ⟨g, 3, none⟩ (.int .i64 um))) := hid (put4_below (c := ⟨ua, un, ub, um⟩) HB1.out (Nat.le_refl _))
        clear hO hr
        go_wp2_with fail
        generalize (((w1.setCell ⟨g, 0, none⟩ (.int .i64 ua)).setCell ⟨g, 1, none⟩ (.int .i64 un)).setCell ⟨g, 2, none⟩ (.int .i64 ub)).setCell ⟨g, 3, none⟩ (.int .i64 um) = W at HP HBP ⊢
        refine bodyPost_ret (first_res2 (c := ⟨ua, un, ub, um⟩) HP.out rfl rfl rfl) rfl ?_
        rw [HF.out, hg]
        exact ⟨rfl, HBP.out⟩
end Go.Proofs.Ytagjjhlegojpbaa
