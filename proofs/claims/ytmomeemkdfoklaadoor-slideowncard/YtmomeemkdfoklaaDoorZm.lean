/-
  What Slide answers may be written over and appended to.
-/
import Derived.Test.YtmomeemkdfoklaaDoorZv
import Derived.Test.YtmomeemkdfoklaaDoorZi
import Derived.ArgAppend
namespace Go.Proofs.YtmomeemkdfoklaaDoor
open Go.RowKit
open Ed (Ch Run Pr)

set_option maxHeartbeats 2000000 in
set_option maxRecDepth 100000 in
theorem slide_placed {w : World} {v va vb : Value} {s : List Ch} {a b : List Int} (hr : RdC w v s) (hwf : ∀ c ∈ s, WfC c) (hl : s.length ≤ 10000000000000) (ha : RdI w va a) (hb : RdI w vb b) :
    Calls Tryd.prog 6 #[v, va, vb] w fun e w' => ∃ v', e = .returned (.tuple #[v', errV (fitN s a b)]) ∧ RdC w' v' (slA s a b) ∧ Below w.heap.size w w' ∧ PtC w' w.heap.size v' (slA s a b).length := by
  by_cases hf : fitN s a b = 0
  · refine (slide_place hr hwf hl ha hb hf).mono ?_
    rintro e w' ⟨v', rfl, h1, h2, h3⟩
    have e : slA s a b = Ed.slideL a b (Ed.normal s a.length b.length) := by unfold slA; rw [if_pos hf]
    rw [e]
    exact ⟨v', by rw [hf, errV_zero], h1, h2, h3⟩
  · have HF := hid (fits_all hr hwf hl ha hb)
    have he : errV (fitN s a b) = .iface 60 (.int .i64 (fitN s a b)) := by unfold errV; rw [if_neg hf]
    rw [he] at HF
    have HE := hid he
    obtain ⟨av, cv, rfl⟩ := ha.shape
    obtain ⟨au, cu, rfl⟩ := hb.shape
    obtain ⟨ah, ch, rfl⟩ := hr.shape
    have HSA : Hid (slA s a b = []) := hid (by unfold slA; rw [if_neg hf])
    clear hr hwf ha hb he hf
    generalize fitN s a b = N at HF HE ⊢
    go_enter Tryd.func6, Tryd.ntmps6
    go_wp2_with fail
    refine HF.out.mono ?_
    rintro e w1 ⟨rfl, hb1⟩
    have HB1 := hid hb1
    clear hb1
    go_wp2
    go_ret2
    refine ⟨_, by rw [HE.out]; rfl, ?_, HB1.out, ?_⟩
    · rw [HSA.out]
      exact .inl ⟨rfl, none, 0, rfl⟩
    · rw [HSA.out]
      exact ⟨none, 0, rfl, Nat.le_refl _, fun _ => rfl, fun h => absurd h (Nat.lt_irrefl _)⟩
theorem PtC.set {w : World} {B n g k : Nat} {v u : Value} (h : PtC w B v n) : PtC (w.setCell ⟨g, k, none⟩ u) B v n := by
  obtain ⟨ao, c, h1, h2, h3, h4⟩ := h
  refine ⟨ao, c, h1, h2, h3, fun hc => ?_⟩
  obtain ⟨g', o, cur, i1, i2, i3, i4⟩ := h4 hc
  by_cases e : g' = g
  · subst e
    exact ⟨g', o, _, i1, i2, set_heap w g' k _ _ u i3, by simpa using i4⟩
  · exact ⟨g', o, cur, i1, i2, (set_other w e).trans i3, i4⟩
theorem PtC.row4 {w : World} {B n k : Nat} {v : Value} (h : PtC w B v n) (hk : k < n) : ∃ g o c, v = .slice (some ⟨g, o, none⟩) n c ∧ B ≤ g ∧ ∃ x0 x1 x2 x3, w.cell? ⟨g, o + k * 4, none⟩ = some x0 ∧ w.cell? ⟨g, o + k * 4 + 1, none⟩ = some x1 ∧ w.cell? ⟨g, o + k * 4 + 2, none⟩ = some x2 ∧ w.cell? ⟨g, o + k * 4 + 3, none⟩ = some x3 ∧ ∀ j, w.frozen? ⟨g, j, none⟩ = false := by
  obtain ⟨ao, c, h1, h2, h3, h4⟩ := h
  obtain ⟨g, o, cur, i1, i2, i3, i4⟩ := h4 (by omega)
  have e : ∀ j, j < 4 → ∃ x, w.cell? ⟨g, o + k * 4 + j, none⟩ = some x := fun j hj => ⟨_, (cell_of_blk i3 _).trans (Array.getElem?_eq_getElem (by omega))⟩
  obtain ⟨x0, e0⟩ := e 0 (by omega)
  obtain ⟨x1, e1⟩ := e 1 (by omega)
  obtain ⟨x2, e2⟩ := e 2 (by omega)
  obtain ⟨x3, e3⟩ := e 3 (by omega)
  exact ⟨g, o, c, by rw [h1, i1], i2, x0, x1, x2, x3, e0, e1, e2, e3, fun j => frozen_of_blk i3 j⟩
def two8 : List Value := [.int .i64 (-8), .int .i64 0, .int .i64 0, .int .i64 0, .int .i64 (-8), .int .i64 0, .int .i64 0, .int .i64 0]
theorem two8_one : ∀ u ∈ two8, u.oneCell' = true := by
  intro u hu
  unfold two8 at hu
  simp at hu
  rcases hu with rfl | rfl | rfl | rfl <;> rfl
/-- two changes more behind what was answered -/
theorem append_two {w : World} {B n : Nat} {v : Value} (h : PtC w B v n) (hn : n ≤ 100000000) (hB : B ≤ w.heap.size) (g2 : Nat) (hg2 : w.heap[g2]? = some (.cells two8.toArray 42)) (ty : TypeId) :
    ∃ v' w', (Builtin.append_ #[22, 22] ty #[v, .slice (some ⟨g2, 0, none⟩) 2 2]).run Tryd.prog w = .ok v' w' ∧ (∃ b o c, v' = .slice (some ⟨b, o, none⟩) (n + 1 + 1) c ∧ b < w'.heap.size ∧ w'.cell? ⟨b, o + (n + 1) * 4, none⟩ = some (.int .i64 (-8))) ∧ Below B w w' := by
  obtain ⟨i0, hi, hz0, hz1, hz2⟩ := info_parts Tryd.infoChange
  have hnews : ∀ j u, two8[j]? = some u → w.cell? ((⟨g2, 0, none⟩ : Addr).add j) = some u := by
    intro j u hj
    rw [Go.WideShapes.add_plain, cell_of_blk hg2]
    simpa using hj
  obtain ⟨ao, c, h1, h2, h3, h4⟩ := h
  subst h1
  by_cases hr : n + 2 ≤ c
  · obtain ⟨g, o, cur, e1, e2, e3, e4⟩ := h4 (by omega)
    subst e1
    have hin : ∀ j, j < 8 → (w.cell? ⟨g, o + n * 4 + j, none⟩).isSome = true := fun j hj => by
      rw [cell_of_blk e3, Array.getElem?_eq_getElem (by omega)]
      rfl
    have hrun := run_append_room_cells (P := Tryd.prog) w 22 ty 42 i0 Tryd.underlying22 hi g o n c ⟨g2, 0, none⟩ 2 2 two8 (by rw [hz1]; rfl) hnews two8_one hr
      (fun j hj => by rw [hz1]; exact hin j hj) (fun j hj => frozen_of_blk e3 _)
    rw [hz1] at hrun
    have hK : Kept (fun j => j = g) w (w.setCells g (o + n * 4) two8) := Zf9.KpCells (X := fun j => j = g) rfl _ _ _ (Zf9.KpR _ _)
    refine ⟨_, _, hrun, ⟨g, o, c, rfl, Nat.lt_of_lt_of_le (lt_of_heap e3) hK.size, ?_⟩, hK.below (fun j e => by omega) hB⟩
    have := World.cell?_setCells_in g two8 (o + n * 4) w (fun j hj => hin j hj) 4 (by decide)
    rw [show o + (n + 1) * 4 = o + n * 4 + 4 by omega, this]
    rfl
  · have grown : ∀ (olds : List Value) v' w', w'.ownsRow w.heap.size 42 4 v' (n + 2) (olds ++ two8) → olds.length = n * 4 → w.grownBy w' none → (∃ b o c, v' = .slice (some ⟨b, o, none⟩) (n + 1 + 1) c ∧ b < w'.heap.size ∧ w'.cell? ⟨b, o + (n + 1) * 4, none⟩ = some (.int .i64 (-8))) ∧ Below B w w' := by
      intro olds v' w' ho hlo hgr
      refine ⟨?_, (Below.refl _ _).grown hgr hB (by simp)⟩
      rcases own_rd ho with ⟨h0, _⟩ | ⟨b, o, c', hv, _, hb, hX⟩
      · omega
      · refine ⟨b, o, c', hv, hb, hX ((n + 1) * 4) _ ?_⟩
        rw [List.getElem?_append_right (by omega), show (n + 1) * 4 - olds.length = 4 by omega]
        rfl
    cases ao with
    | none =>
      have hc := h3 rfl
      subst hc
      obtain rfl : n = 0 := by omega
      obtain ⟨v', w', hrun, r1, r2, _⟩ := run_append_own (P := Tryd.prog) w w.heap.size 22 ty 42 i0 (.agg #[.int .i64 0, .int .i64 0, .int .i64 0, .int .i64 0]) 4 32 Tryd.underlying22 hi hz0 hz1 hz2 rfl (by decide) (.slice none 0 0) 0 [] (World.ownsRow_nil w _ _ _) ⟨g2, 0, none⟩ 2 2 two8 rfl hnews two8_one (by unfold maxLen; omega) (by omega) (Nat.le_refl _)
      have hr1 : w'.ownsRow w.heap.size 42 4 v' (0 + 2) ([] ++ two8) := r1
      obtain ⟨g1, g3⟩ := grown [] v' w' hr1 rfl r2
      exact ⟨v', w', hrun, g1, g3⟩
    | some ad =>
      by_cases hc : 0 < c
      · obtain ⟨g, o, cur, e1, e2, e3, e4⟩ := h4 hc
        cases e1
        have hlo : ((cur.toList.drop o).take (n * 4)).length = n * 4 := by
          rw [List.length_take, List.length_drop, Array.length_toList]
          omega
        obtain ⟨v', w', hrun, r1, r2⟩ := run_append_arg_grows (P := Tryd.prog) w 22 ty 42 i0 (.agg #[.int .i64 0, .int .i64 0, .int .i64 0, .int .i64 0]) 4 32 Tryd.underlying22 hi hz0 hz1 hz2 rfl (by decide) ⟨g, o, none⟩ n c ((cur.toList.drop o).take (n * 4)) hlo (fun j u hj => by
          rw [Go.WideShapes.add_plain, cell_of_blk e3]
          rw [List.getElem?_take] at hj
          split at hj
          · rw [List.getElem?_drop] at hj
            simpa using hj
          · cases hj) ⟨g2, 0, none⟩ 2 2 two8 rfl hnews (by omega) (by unfold maxLen; omega) (by omega)
        obtain ⟨g1, g3⟩ := grown _ v' w' r1 hlo r2
        exact ⟨v', w', hrun, g1, g3⟩
      · obtain rfl : n = 0 := by omega
        obtain ⟨v', w', hrun, r1, r2⟩ := run_append_arg_grows (P := Tryd.prog) w 22 ty 42 i0 (.agg #[.int .i64 0, .int .i64 0, .int .i64 0, .int .i64 0]) 4 32 Tryd.underlying22 hi hz0 hz1 hz2 rfl (by decide) ad 0 c [] rfl (fun j u hj => by simp at hj) ⟨g2, 0, none⟩ 2 2 two8 rfl hnews (by omega) (by unfold maxLen; omega) (by omega)
        obtain ⟨g1, g3⟩ := grown _ v' w' r1 rfl r2
        exact ⟨v', w', hrun, g1, g3⟩
theorem wpList_append_two {w : World} {ops : Array Oper} {rest : List Oper} {o : Oper} {a : Act} {Q : Exit → Act → World → Prop} (hgd : o.guard = none) (s x : Operand)
    (hop : o.op = .call { callee := .builtin .append, args := #[s, x], argTypes := #[22, 22] }) (B n : Nat) (v : Value) (hs : a.eval s = v) (h : PtC w B v n) (hn : n ≤ 100000000) (hB : B ≤ w.heap.size)
    (g2 : Nat) (hx : a.eval x = .slice (some ⟨g2, 0, none⟩) 2 2) (hg2 : w.heap[g2]? = some (.cells two8.toArray 42))
    (hK : ∀ v' w', (∃ b o c, v' = .slice (some ⟨b, o, none⟩) (n + 1 + 1) c ∧ b < w'.heap.size ∧ w'.cell? ⟨b, o + (n + 1) * 4, none⟩ = some (.int .i64 (-8))) → Below B w w' → wpList Tryd.prog ops Q rest (a.put o.dst v') w') : wpList Tryd.prog ops Q (o :: rest) a w := by
  refine wpList_plain hgd fun K hK' => ?_
  obtain ⟨v', w', hrun, r1, r2⟩ := append_two h hn hB g2 hg2 o.type
  unfold Oper.wp
  simp [execOp, hop, resolve, invoke, builtin, hs, hx, hrun, Result.andThen]
  exact hK' _ _ (hK v' w' r1 r2)
end Go.Proofs.YtmomeemkdfoklaaDoor
