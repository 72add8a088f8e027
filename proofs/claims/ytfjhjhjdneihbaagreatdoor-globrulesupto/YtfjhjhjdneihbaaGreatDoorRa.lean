/-
  The document's parts as they lie in memory: 257 cells each; the walk of a byte's own.
-/
import Derived.Test.YtfjhjhjdneihbaaGreatDoorGw
import Derived.Laws.Tables
namespace Go.Proofs.YtfjhjhjdneihbaaGreatDoor
open Go.RowKit

/-- a part as the document holds it -/
def rpC (p : Pg.Pt) : Array Value := (.bool p.star :: (List.range 256).map fun b => .bool (p.set (UInt8.ofNat b))).toArray
theorem rpC_size (p : Pg.Pt) : (rpC p).size = 257 := by simp [rpC]
theorem rpC_star (p : Pg.Pt) : (rpC p)[0]? = some (.bool p.star) := by simp [rpC]
theorem rpC_at (p : Pg.Pt) (b : Nat) (h : b < 256) : (rpC p)[1 + b]? = some (.bool (p.set (UInt8.ofNat b))) := by
  unfold rpC
  rw [List.getElem?_toArray, Nat.add_comm, List.getElem?_cons_succ, List.getElem?_map, List.getElem?_range h]
  rfl
theorem rpC_one (p : Pg.Pt) : (rpC p).all (·.oneCell') = true := by
  rw [Array.all_eq_true_iff_forall_mem]
  intro v hv
  unfold rpC at hv
  rw [List.mem_toArray, List.mem_cons, List.mem_map] at hv
  rcases hv with rfl | ⟨b, _, rfl⟩ <;> rfl
def upd (f : UInt8 → Bool) (b : Nat) (v : Bool) : UInt8 → Bool := fun x => if x.toNat = b then v else f x
theorem rpC_set (p : Pg.Pt) (b : Nat) (v : Bool) (_h : b < 256) : (rpC p).setIfInBounds (1 + b) (.bool v) = rpC ⟨p.star, upd p.set b v⟩ := by
  apply Array.ext_getElem?
  intro j
  rw [Array.getElem?_setIfInBounds, rpC_size]
  by_cases hj : 1 + b = j
  · subst hj
    rw [if_pos rfl, if_pos (by omega), rpC_at _ b _h]
    have e : (UInt8.ofNat b).toNat = b := by rw [UInt8.toNat_ofNat']; omega
    simp [upd, e]
  · rw [if_neg hj]
    rcases Nat.lt_or_ge j 257 with h | h
    · cases j with
      | zero => rw [rpC_star, rpC_star]
      | succ j =>
        rw [Nat.add_comm j 1, rpC_at _ j (by omega), rpC_at _ j (by omega)]
        have e : (UInt8.ofNat j).toNat = j := by rw [UInt8.toNat_ofNat']; omega
        simp only [upd, e]
        rw [if_neg (by omega)]
    · rw [Array.getElem?_eq_none (by rw [rpC_size]; exact h), Array.getElem?_eq_none (by rw [rpC_size]; exact h)]
theorem zeroPart : Tryz.zeroCells130 = rpC ⟨false, Pg.no⟩ := by kernel_rfl
theorem Tryz.infoRef : (Tryz.prog.info? 130).map (·.size) = some 257 := by kernel_rfl

/-! ### a whole part read, a whole part written -/
theorem ld_part {W : World} {g : Nat} {p : Pg.Pt} (hg : W.heap[g]? = some (.cells (rpC p) 130 (0, 0))) : (loadCells ⟨g, 0, none⟩ 257).run Tryz.prog W = .ok (rpC p) W := by
  have h := run_loadCells_list (P := Tryz.prog) W ⟨g, 0, none⟩ (rpC p).toList (fun j v hv => by
    have hadd : (⟨g, 0, none⟩ : Addr).add j = ⟨g, j, none⟩ := by unfold Addr.add; split <;> simp_all
    rw [hadd, cell_of_blk hg]
    simpa using hv)
  have e : (rpC p).toList.length = 257 := by rw [Array.length_toList, rpC_size]
  rw [e, Array.toArray_toList] at h
  exact h
theorem st_part {W : World} {g : Nat} {p q : Pg.Pt} (hg : W.heap[g]? = some (.cells (rpC p) 130 (0, 0))) : (storeCells ⟨g, 0, none⟩ (rpC q).toList).run Tryz.prog W = .ok () (W.setRow g (rpC q)) := by
  have h := run_storeCells_from (P := Tryz.prog) g 130 (rpC q).toList 0 (rpC p) W hg (by rw [Array.length_toList, rpC_size, rpC_size])
    (fun v hv => (Array.all_eq_true_iff_forall_mem.1 (rpC_one q)) v (by simpa using hv))
  simpa using h
theorem ldAt {W : World} {g : Nat} {p : Pg.Pt} (hg : W.heap[g]? = some (.cells (rpC p) 130 (0, 0))) : (Instr.loadAt 130 (.pointer (some ⟨g, 0, none⟩))).run Tryz.prog W = .ok (.agg (rpC p)) W := by
  simp only [Instr.loadAt, Instr.sureAddr, Sem.run_bind, Sem.run_pure, Result.andThen_ok, run_loadVar_row W g _ _ _ _ _ hg Tryz.underlying130 rfl (by rw [Tryz.infoRef, rpC_size])]
theorem stAt {W : World} {g : Nat} {p q : Pg.Pt} (hg : W.heap[g]? = some (.cells (rpC p) 130 (0, 0))) : (Instr.storeAt 130 (.pointer (some ⟨g, 0, none⟩)) (.agg (rpC q))).run Tryz.prog W = .ok () (W.setRow g (rpC q)) := by
  simp only [Instr.storeAt, Instr.sureAddr, Sem.run_bind, Sem.run_pure, Result.andThen_ok, run_storeVar_row W g _ _ _ _ hg (by rw [Tryz.infoRef, rpC_size]) (by rw [rpC_size, rpC_size]) (rpC_one q)]
theorem wpList_ld {ops : Array Oper} {rest : List Oper} {o : Oper} {a : Act} {W : World} {Q : Exit → Act → World → Prop} {x : Operand} (ho : o.op = .load 130 x) (hgd : o.guard = none) {g : Nat} {p : Pg.Pt} (hg : W.heap[g]? = some (.cells (rpC p) 130 (0, 0))) (hx : a.eval x = .pointer (some ⟨g, 0, none⟩))
    (h : wpList Tryz.prog ops Q rest (a.put o.dst (.agg (rpC p))) W) : wpList Tryz.prog ops Q (o :: rest) a W :=
  wpList_plain hgd fun _ hK => by
    unfold Oper.wp execOp
    simp only [ho, hx, Sem.run_bind, ldAt hg, Result.andThen_ok]
    exact hK _ _ h
theorem setRow_same {W : World} {g : Nat} {p q : Pg.Pt} (hg : W.heap[g]? = some (.cells (rpC p) 130 (0, 0))) : (W.setRow g (rpC q)).heap[g]? = some (.cells (rpC q) 130 (0, 0)) := setRow_heap W g _ _ _ _ hg
theorem Below.setRow {B : Nat} {w W : World} (hb : Below B w W) {g : Nat} (hg : B ≤ g) (cs : Array Value) : Below B w (W.setRow g cs) :=
  ⟨hb.os, hb.tape, hb.output, by have := hb.size; unfold World.setRow; simpa using this, fun k hk => (setRow_other W g k cs (by omega)).trans (hb.block k hk)⟩
theorem setRow_id {W : World} {g : Nat} {p : Pg.Pt} (hg : W.heap[g]? = some (.cells (rpC p) 130 (0, 0))) : (storeCells ⟨g, 0, none⟩ (rpC p).toList).run Tryz.prog W = .ok () W := by
  rw [st_part hg, setRow_self W g _ _ _ hg]
theorem ldVar {W : World} {g : Nat} {p : Pg.Pt} (hg : W.heap[g]? = some (.cells (rpC p) 130 (0, 0))) : (loadVar 130 ⟨g, 0, none⟩).run Tryz.prog W = .ok (.agg (rpC p)) W :=
  run_loadVar_row W g _ _ _ _ _ hg Tryz.underlying130 rfl (by rw [Tryz.infoRef, rpC_size])
theorem results_part {fn : Func} {t : Nat} {tmps : Array Value} {W : World} {g : Nat} {p : Pg.Pt} (h : fn.results = #[.cell t 130]) (hx : tmps.getD t undef = .pointer (some ⟨g, 0, none⟩)) (hg : W.heap[g]? = some (.cells (rpC p) 130 (0, 0))) :
    (results fn tmps).run Tryz.prog W = .ok (.agg (rpC p)) W := by
  have hl := ldVar hg
  have hx' : tmps[t]?.getD undef = .pointer (some ⟨g, 0, none⟩) := by rw [← Array.getD_eq_getD_getElem?]; exact hx
  simp [results, h, hx', hl, asAddr]
theorem results_part2 {fn : Func} {t u : Nat} {tmps : Array Value} {W : World} {g : Nat} {p : Pg.Pt} (h : fn.results = #[.cell t 130, .tmp u]) (hx : tmps.getD t undef = .pointer (some ⟨g, 0, none⟩)) (hg : W.heap[g]? = some (.cells (rpC p) 130 (0, 0))) :
    (results fn tmps).run Tryz.prog W = .ok (.tuple #[.agg (rpC p), tmps.getD u undef]) W := by
  have hl := ldVar hg
  have hx' : tmps[t]?.getD undef = .pointer (some ⟨g, 0, none⟩) := by rw [← Array.getD_eq_getD_getElem?]; exact hx
  simp [results, h, hx', hl, asAddr]
theorem wpList_st {ops : Array Oper} {rest : List Oper} {o : Oper} {a : Act} {W : World} {Q : Exit → Act → World → Prop} {x y : Operand} (ho : o.op = .store 130 x y) (hgd : o.guard = none) {g : Nat} {p q : Pg.Pt} (hg : W.heap[g]? = some (.cells (rpC p) 130 (0, 0))) (hx : a.eval x = .pointer (some ⟨g, 0, none⟩)) (hy : a.eval y = .agg (rpC q))
    (h : wpList Tryz.prog ops Q rest (a.put o.dst undef) (W.setRow g (rpC q))) : wpList Tryz.prog ops Q (o :: rest) a W :=
  wpList_plain hgd fun _ hK => by
    unfold Oper.wp execOp
    simp only [ho, hx, hy, Sem.run_bind, stAt hg, Result.andThen_ok]
    exact hK _ _ h
theorem upd_lit (c : UInt8) : upd Pg.no c.toNat true = (Pg.lit c).set := by
  funext x
  rw [Pg.lit_set]
  unfold upd Pg.no
  by_cases h : x = c
  · subst h; simp
  · rw [if_neg (fun e => h (UInt8.toNat_inj.1 e)), decide_eq_false h]
theorem set_lit (c : UInt8) : (rpC ⟨false, Pg.no⟩).setIfInBounds (1 + c.toNat) (.bool true) = rpC (Pg.lit c) := by
  rw [rpC_set _ _ _ (by have := c.toNat_lt; omega)]
  show rpC ⟨false, upd Pg.no c.toNat true⟩ = _
  rw [upd_lit]; rfl

set_option maxHeartbeats 1000000 in
set_option maxRecDepth 100000 in
theorem one_any (c : UInt8) (w : World) :
    Calls Tryz.prog 64 #[.int .u8 c.toNat] w fun e w' => e = .returned (.agg (rpC (Pg.lit c))) ∧ Below w.heap.size w w' := by
  have hz := zeroPart
  have hB1 := heap_b1 w (.cells (rpC ⟨false, Pg.no⟩) 130) (.cells (rpC ⟨false, Pg.no⟩) 130)
  have hst := setRow_id hB1
  have hs := rpC_size ⟨false, Pg.no⟩
  have hs2 := rpC_size (Pg.lit c)
  have hc := c.toNat_lt
  have hcell := (cell_of_blk hB1 (1 + c.toNat)).trans (rpC_at _ c.toNat (by omega))
  have hfree := free_of_blk hB1 (1 + c.toNat)
  have hset := set_lit c
  have hB2 := heap_b1 w (.cells (rpC ⟨false, Pg.no⟩) 130) (.cells (rpC (Pg.lit c)) 130)
  have hB3 := heap_b0 w (.cells (rpC ⟨false, Pg.no⟩) 130) (.cells (rpC (Pg.lit c)) 130)
  have HB2 := hid hB2
  have hst2 := st_part (q := Pg.lit c) hB3
  have hld2 := setRow_same (q := Pg.lit c) hB3
  have hbl : Below w.heap.size w (((w.alloc (.cells (rpC ⟨false, Pg.no⟩) 130)).alloc (.cells (rpC (Pg.lit c)) 130)).setRow w.heap.size (rpC (Pg.lit c))) := Below.setRow (((Below.refl _ _).alloc (Nat.le_refl _) _).alloc (by simp) _) (Nat.le_refl _) _
  clear hB1 hB2 hB3
  have HL := hid hld2
  have HB := hid hbl
  clear hld2 hbl
  go_enter Tryz.func64, Tryz.ntmps64
  go_wp2_with (guard_target =~ wpList _ _ _ (_ :: _) _ _; refine wpList_ld rfl rfl HB2.out rfl ?_)
  exact bodyPost_ret (results_part rfl rfl HL.out) rfl ⟨rfl, HB.out⟩
end Go.Proofs.YtfjhjhjdneihbaaGreatDoor
