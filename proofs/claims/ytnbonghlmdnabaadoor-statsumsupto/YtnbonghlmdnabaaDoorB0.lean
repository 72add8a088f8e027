/-
  Counts of lines, plain: bars.
-/
namespace Go.Proofs.YtnbonghlmdnabaaDoor.Sx

/-- a number of lines as columns -/
def scl (x w m : Int) : Int := if x = 0 then 0 else 1 + x * (w - 1) / m
structure OkB (a d w m : Int) : Prop where
  a0 : 0 ≤ a
  a1 : a ≤ 2147483647
  d0 : 0 ≤ d
  d1 : d ≤ 2147483647
  w0 : 2 ≤ w
  w1 : w ≤ 2147483647
  m0 : a + d ≤ m
  m1 : m ≤ 4294967294
theorem okB_iff (a d w m : Int) : OkB a d w m ↔ (0 ≤ a ∧ a ≤ 2147483647 ∧ 0 ≤ d ∧ d ≤ 2147483647 ∧ 2 ≤ w ∧ w ≤ 2147483647 ∧ a + d ≤ m ∧ m ≤ 4294967294) :=
  ⟨fun h => ⟨h.a0, h.a1, h.d0, h.d1, h.w0, h.w1, h.m0, h.m1⟩, fun ⟨a, b, c, d, e, f, g, h⟩ => ⟨a, b, c, d, e, f, g, h⟩⟩
instance (a d w m : Int) : Decidable (OkB a d w m) := decidable_of_iff _ (okB_iff a d w m).symm
/-- a bar's length -/
def lng (a d w m : Int) : Int := if 0 < a ∧ 0 < d then max (scl (a + d) w m) 2 else scl (a + d) w m
def bar (a d w m : Int) : Int × Int :=
  if ¬ OkB a d w m then (0, 0) else if m ≤ w then (a, d) else if a ≤ d then (scl a w m, lng a d w m - scl a w m) else (lng a d w m - scl d w m, scl d w m)

theorem scl_zero (w m : Int) : scl 0 w m = 0 := if_pos rfl
theorem scl_pos {x : Int} (w m : Int) (h : x ≠ 0) : scl x w m = 1 + x * (w - 1) / m := if_neg h
theorem q_bound {x w m : Int} (h0 : 0 ≤ x) (h1 : x ≤ m) (hw : 2 ≤ w) (hm : 0 < m) : 0 ≤ x * (w - 1) / m ∧ x * (w - 1) / m ≤ w - 1 := by
  have hw1 : 0 ≤ w - 1 := by omega
  refine ⟨Int.ediv_nonneg (Int.mul_nonneg h0 hw1) (by omega), ?_⟩
  refine Int.ediv_le_of_le_mul hm ?_
  rw [Int.mul_comm (w - 1) m]
  exact Int.mul_le_mul_of_nonneg_right h1 hw1
theorem prod_bound {x w : Int} (h0 : 0 ≤ x) (h1 : x ≤ 4294967294) (hw : 2 ≤ w) (hw1 : w ≤ 2147483647) : 0 ≤ x * (w - 1) ∧ x * (w - 1) ≤ 9223372036854775807 := by
  refine ⟨Int.mul_nonneg h0 (by omega), ?_⟩
  have e1 : x * (w - 1) ≤ 4294967294 * (w - 1) := Int.mul_le_mul_of_nonneg_right h1 (by omega)
  have e2 : (4294967294 : Int) * (w - 1) ≤ 4294967294 * 2147483646 := Int.mul_le_mul_of_nonneg_left (by omega) (by omega)
  omega
theorem scl_bound {x w m : Int} (h0 : 0 ≤ x) (h1 : x ≤ m) (hw : 2 ≤ w) (hm : 0 < m) : 0 ≤ scl x w m ∧ scl x w m ≤ w := by
  by_cases hx : x = 0
  · subst hx
    rw [scl_zero]
    omega
  · rw [scl_pos _ _ hx]
    have := q_bound h0 h1 hw hm
    omega
theorem scl_gt {x w m : Int} (h0 : 0 ≤ x) (h1 : x ≤ m) (hw : 2 ≤ w) (hm : 0 < m) : 0 < scl x w m ↔ 0 < x := by
  by_cases hx : x = 0
  · subst hx
    rw [scl_zero]
  · rw [scl_pos _ _ hx]
    have := q_bound h0 h1 hw hm
    omega
theorem scl_mono {x y w m : Int} (h0 : 0 ≤ x) (h1 : x ≤ y) (hy : y ≤ m) (hw : 2 ≤ w) (hm : 0 < m) : scl x w m ≤ scl y w m := by
  by_cases hx : x = 0
  · subst hx
    rw [scl_zero]
    exact (scl_bound (by omega) hy hw hm).1
  · rw [scl_pos _ _ hx, scl_pos _ _ (by omega)]
    have := Int.ediv_le_ediv hm (Int.mul_le_mul_of_nonneg_right h1 (show 0 ≤ w - 1 by omega))
    omega
/-- the lesser one leaves something -/
theorem scl_left {x y w m : Int} (hx : 0 < x) (h : x ≤ y) (hw : 2 ≤ w) (hm : 0 < m) : scl x w m + 1 ≤ max (scl (x + y) w m) 2 := by
  rw [scl_pos _ _ (show x ≠ 0 by omega), scl_pos _ _ (show x + y ≠ 0 by omega)]
  have hw1 : 0 ≤ w - 1 := by omega
  have e1 : x * (w - 1) + x * (w - 1) ≤ (x + y) * (w - 1) := by
    rw [Int.add_mul]
    have := Int.mul_le_mul_of_nonneg_right h hw1
    omega
  have hq : 0 ≤ x * (w - 1) / m := Int.ediv_nonneg (Int.mul_nonneg (by omega) hw1) (by omega)
  have e2 : m * (x * (w - 1) / m) ≤ x * (w - 1) := Int.mul_ediv_self_le (by omega)
  have e3 : x * (w - 1) / m + x * (w - 1) / m ≤ (x + y) * (w - 1) / m := by
    refine Int.le_ediv_of_mul_le hm ?_
    rw [Int.add_mul, Int.mul_comm _ m]
    omega
  omega
theorem lng_sum {a d w m : Int} (h : OkB a d w m) (hm : w < m) : 0 ≤ lng a d w m ∧ lng a d w m ≤ w := by
  have := h.w0
  have := h.a0
  have := h.d0
  have := scl_bound (x := a + d) (w := w) (m := m) (by omega) h.m0 h.w0 (by omega)
  unfold lng
  split
  · omega
  · omega
theorem bar_no {a d w m : Int} (h : ¬ OkB a d w m) : bar a d w m = (0, 0) := if_pos h
theorem bar_fit {a d w m : Int} (h : OkB a d w m) (hm : m ≤ w) : bar a d w m = (a, d) := by
  unfold bar
  rw [if_neg (fun k => k h), if_pos hm]
theorem bar_le {a d w m : Int} (h : OkB a d w m) (hm : w < m) (ha : a ≤ d) : bar a d w m = (scl a w m, lng a d w m - scl a w m) := by
  unfold bar
  rw [if_neg (fun k => k h), if_neg (by omega), if_pos ha]
theorem bar_gt {a d w m : Int} (h : OkB a d w m) (hm : w < m) (ha : d < a) : bar a d w m = (lng a d w m - scl d w m, scl d w m) := by
  unfold bar
  rw [if_neg (fun k => k h), if_neg (by omega), if_neg (by omega)]
/-- one side of a scaled bar -/
theorem side_ok {x y w m : Int} (h : OkB x y w m) (hm : w < m) (hx : x ≤ y) : 0 ≤ scl x w m ∧ (0 < scl x w m ↔ 0 < x) ∧ 0 ≤ lng x y w m - scl x w m ∧ (0 < lng x y w m - scl x w m ↔ 0 < y) := by
  have h0 := h.w0
  have h1 := h.a0
  have h2 := h.d0
  have h3 := h.m0
  have b1 := scl_bound (x := x) (w := w) (m := m) h1 (by omega) h0 (by omega)
  have b2 := scl_gt (x := x) (w := w) (m := m) h1 (by omega) h0 (by omega)
  refine ⟨b1.1, b2, ?_⟩
  by_cases hx0 : 0 < x
  · have hl := scl_left (w := w) (m := m) hx0 hx h0 (by omega)
    unfold lng
    rw [if_pos ⟨hx0, by omega⟩]
    omega
  · have e : x = 0 := by omega
    subst e
    unfold lng
    rw [if_neg (fun k => hx0 k.1), scl_zero, Int.zero_add]
    have b3 := scl_bound (x := y) (w := w) (m := m) h2 (by omega) h0 (by omega)
    have b4 := scl_gt (x := y) (w := w) (m := m) h2 (by omega) h0 (by omega)
    omega
theorem lng_comm (a d w m : Int) : lng a d w m = lng d a w m := by
  unfold lng
  rw [Int.add_comm a d]
  by_cases h : 0 < a ∧ 0 < d
  · rw [if_pos h, if_pos ⟨h.2, h.1⟩]
  · rw [if_neg h, if_neg (fun k => h ⟨k.2, k.1⟩)]
theorem bar_ok {a d w m : Int} (h : OkB a d w m) : 0 ≤ (bar a d w m).1 ∧ 0 ≤ (bar a d w m).2 ∧ (bar a d w m).1 + (bar a d w m).2 ≤ w ∧ (0 < (bar a d w m).1 ↔ 0 < a) ∧ (0 < (bar a d w m).2 ↔ 0 < d) := by
  have h1 := h.a0
  have h2 := h.d0
  have h3 := h.m0
  by_cases hm : m ≤ w
  · rw [bar_fit h hm]
    exact ⟨h1, h2, by show a + d ≤ w; omega, Iff.rfl, Iff.rfl⟩
  · have hl := lng_sum h (by omega)
    by_cases ha : a ≤ d
    · rw [bar_le h (by omega) ha]
      have := side_ok h (by omega) ha
      simp only
      omega
    · rw [bar_gt h (by omega) (by omega)]
      have := side_ok (x := d) (y := a) (w := w) (m := m) ⟨h.d0, h.d1, h.a0, h.a1, h.w0, h.w1, by omega, h.m1⟩ (by omega) (by omega)
      rw [← lng_comm] at this
      simp only
      omega
theorem bar_sum {a d w m : Int} (h : OkB a d w m) : (bar a d w m).1 + (bar a d w m).2 = if m ≤ w then a + d else lng a d w m := by
  by_cases hm : m ≤ w
  · rw [bar_fit h hm, if_pos hm]
  · rw [if_neg hm]
    by_cases ha : a ≤ d
    · rw [bar_le h (by omega) ha]
      simp only
      omega
    · rw [bar_gt h (by omega) (by omega)]
      simp only
      omega
/-- more lines in all have no shorter bar -/
theorem bar_more {a d a' d' w m : Int} (h : OkB a d w m) (h' : OkB a' d' w m) (hb : (0 < a' ∧ 0 < d') ↔ (0 < a ∧ 0 < d)) (hs : a + d ≤ a' + d') : (bar a d w m).1 + (bar a d w m).2 ≤ (bar a' d' w m).1 + (bar a' d' w m).2 := by
  rw [bar_sum h, bar_sum h']
  have h1 := h.a0
  have h2 := h.d0
  have h0 := h.w0
  by_cases hm : m ≤ w
  · rw [if_pos hm, if_pos hm]
    exact hs
  · rw [if_neg hm, if_neg hm]
    have := scl_mono (x := a + d) (y := a' + d') (w := w) (m := m) (by omega) hs h'.m0 h0 (by omega)
    unfold lng
    by_cases hp : 0 < a ∧ 0 < d
    · rw [if_pos hp, if_pos (hb.2 hp)]
      omega
    · rw [if_neg hp, if_neg (fun k => hp (hb.1 k))]
      exact this
end Go.Proofs.YtnbonghlmdnabaaDoor.Sx
