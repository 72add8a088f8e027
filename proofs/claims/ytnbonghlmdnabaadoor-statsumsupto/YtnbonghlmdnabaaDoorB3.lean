/-
  The walks of the program's isCount, lines, plus, inAll.
-/
import Derived.Test.YtnbonghlmdnabaaDoorB2
import Derived.Laws.Tables
namespace Go.Proofs.YtnbonghlmdnabaaDoor.Sx
open Go.RowKit

theorem setRow_heap' (w : World) (g : Nat) (cur R : Array Value) (t : TypeId) (h : w.heap[g]? = some (.cells cur t)) : (w.setRow g R).heap[g]? = some (.cells R t) := by
  simp [World.setRow, Array.getElem?_modify, h]
theorem setRow_other' (w : World) {g j : Nat} (R : Array Value) (h : j ≠ g) : (w.setRow g R).heap[j]? = w.heap[j]? := by
  have : g ≠ j := fun e => h e.symm
  simp [World.setRow, Array.getElem?_modify, this]
theorem setRow_size' (w : World) (g : Nat) (R : Array Value) : (w.setRow g R).heap.size = w.heap.size := by simp [World.setRow]
/-- a whole struct written: its block holds it, all else is as it was -/
theorem wpList_stK {ops : Array Oper} {rest : List Oper} {o : Oper} {a : Act} {W : World} {Q : Exit → Act → World → Prop} {x y : Operand} (T : TypeId) (cs : Array Value) (ho : o.op = .store T x y) (hgd : o.guard = none) {g : Nat} {old : Array Value} (hg : W.heap[g]? = some (.cells old T)) (hsz : (Tryd.prog.info? T).map (·.size) = some cs.size) (hs : old.size = cs.size) (hall : cs.toList.all (·.oneCell') = true) (hx : a.eval x = .pointer (some ⟨g, 0, none⟩)) (hy : a.eval y = .agg cs)
    (hh : ∀ W', W'.heap[g]? = some (.cells cs T) → Kept (fun j => j = g) W W' → wpList Tryd.prog ops Q rest (a.put o.dst undef) W') : wpList Tryd.prog ops Q (o :: rest) a W :=
  wpList_plain hgd fun _ hK => by
    unfold Oper.wp execOp
    have hst : (Instr.storeAt T (.pointer (some ⟨g, 0, none⟩)) (.agg cs)).run Tryd.prog W = .ok () (W.setRow g cs) := by
      simp only [Instr.storeAt, Instr.sureAddr, Sem.run_bind, Sem.run_pure, Result.andThen_ok, run_storeVar_row W g _ _ _ cs hg hsz hs (by rw [← Array.all_toList]; exact hall)]
    simp only [ho, hx, hy, Sem.run_bind, hst, Result.andThen_ok]
    exact hK _ _ (hh _ (setRow_heap' W g _ _ _ hg) ⟨rfl, rfl, rfl, by rw [setRow_size']; exact Nat.le_refl _, fun j _ hj => setRow_other' W _ hj⟩)
theorem ct_size : (Tryd.prog.info? 38).map (·.size) = some 3 := by kernel_rfl
theorem heapK3 (w : World) (A B C : Obj) : (((w.alloc A).alloc B).alloc C).heap[w.heap.size + 1 + 1]? = some C := by
  have := heap_alloc_new ((w.alloc A).alloc B) C
  simpa using this

theorem ctIs_any (c : Ct) (w : World) : Calls Tryd.prog 24 #[CtV c] w fun e w' => e = .returned (.bool (okC c)) ∧ Below w.heap.size w w' := by
  obtain ⟨nm, a, d⟩ := c
  unfold CtV okC
  simp only
  have HA := hid (fun w => isNumber_any a w)
  have HD := hid (fun w => isNumber_any d w)
  cases ea : okN a with
  | false =>
    rw [ea] at HA
    clear HD
    rw [Bool.false_and]
    go_enter Tryd.func24, Tryd.ntmps24
    go_wp2_with fail
    refine (HA.out _).mono ?_
    rintro e w1 ⟨rfl, rfl⟩
    go_wp2_with fail
    go_ret
    exact ⟨rfl, (Below.refl _ _).alloc (Nat.le_refl _) _⟩
  | true =>
    rw [ea] at HA
    rw [Bool.true_and]
    generalize okN d = q at HD ⊢
    go_enter Tryd.func24, Tryd.ntmps24
    go_wp2_with fail
    refine (HA.out _).mono ?_
    rintro e w1 ⟨rfl, rfl⟩
    go_wp2_with fail
    refine (HD.out _).mono ?_
    rintro e w2 ⟨rfl, rfl⟩
    go_wp2_with fail
    go_ret
    exact ⟨rfl, (Below.refl _ _).alloc (Nat.le_refl _) _⟩
theorem ctLines_any (c : Ct) (w : World) (h : -9223372036854775808 ≤ c.a + c.d ∧ c.a + c.d ≤ 9223372036854775807) : Calls Tryd.prog 50 #[CtV c] w fun e w' => e = .returned (.int .i64 (c.a + c.d)) ∧ Below w.heap.size w w' := by
  obtain ⟨nm, a, d⟩ := c
  unfold CtV
  simp only at h ⊢
  have e1 : IntKind.i64.wrap (a + d) = a + d := wrapI h.1 h.2
  clear h
  go_enter Tryd.func50, Tryd.ntmps50
  go_wp2_with fail
  go_ret
  exact ⟨rfl, (Below.refl _ _).alloc (Nat.le_refl _) _⟩
set_option maxHeartbeats 1000000 in
theorem ctPlus_any (c e : Ct) (w : World) (h1 : -9223372036854775808 ≤ c.a + e.a ∧ c.a + e.a ≤ 9223372036854775807) (h2 : -9223372036854775808 ≤ c.d + e.d ∧ c.d + e.d ≤ 9223372036854775807) :
    Calls Tryd.prog 12 #[CtV c, CtV e] w fun r w' => r = .returned (CtV ⟨c.nm, c.a + e.a, c.d + e.d⟩) ∧ Below w.heap.size w w' := by
  obtain ⟨nm, a, d⟩ := c
  obtain ⟨nm2, a2, d2⟩ := e
  unfold CtV
  simp only at h1 h2 ⊢
  have e1 : IntKind.i64.wrap (a + a2) = a + a2 := wrapI h1.1 h1.2
  have e2 : IntKind.i64.wrap (d + d2) = d + d2 := wrapI h2.1 h2.2
  clear h1 h2
  go_enter Tryd.func12, Tryd.ntmps12
  go_wp2_with fail
  refine bodyPost_ret_by (results_cell_row Tryd.results12 _ _ (w.heap.size + 1 + 1) _ _ _ _ rfl (heapK3 w _ _ _) Tryd.underlying38 rfl (by kernel_rfl)) rfl ?_
  exact ⟨rfl, (((Below.refl _ _).alloc (Nat.le_refl _) _).alloc (by simp) _).alloc (by simp; omega) _⟩
end Go.Proofs.YtnbonghlmdnabaaDoor.Sx
