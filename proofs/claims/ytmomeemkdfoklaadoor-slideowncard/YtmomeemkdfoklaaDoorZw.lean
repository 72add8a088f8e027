/-
  The walk of the document's slides.
-/
import Derived.Test.YtmomeemkdfoklaaDoorZt
namespace Go.Proofs.YtmomeemkdfoklaaDoor
open Go.RowKit
open Ed (Ch Run Pr)

/-- can a change slide on by one? -/
def slP (a b : List Int) (cA cN cB cM nA nB : Nat) : Bool :=
  if cM = 0 ∧ cA + cN < nA then decide (a[cA]? = a[cA + cN]?) else if cN = 0 ∧ cB + cM < nB then decide (b[cB]? = b[cB + cM]?) else false
theorem eqD {l : List Int} {i j : Nat} {x y : Int} (hx : l[i]? = some x) (hy : l[j]? = some y) : (x == y) = decide (l[i]? = l[j]?) := by
  rw [hx, hy, Bool.eq_iff_iff, beq_iff_eq, decide_eq_true_eq, Option.some.injEq]

set_option maxHeartbeats 4000000 in
set_option maxRecDepth 100000 in
theorem slides_any {w : World} {va vb : Value} {a b : List Int} (hv : RdI w va a) (hu : RdI w vb b) {cA cN cB cM nA nB : Nat} (h1 : nA ≤ a.length) (h2 : nB ≤ b.length) (h3 : cA + cN ≤ 8388608) (h4 : cB + cM ≤ 8388608) :
    Calls Tryd.prog 29 #[chV ⟨cA, cN, cB, cM⟩, va, vb, .int .i64 nA, .int .i64 nB] w fun e w' => e = .returned (.bool (slP a b cA cN cB cM nA nB)) ∧ Below w.heap.size w w' := by
  obtain ⟨av, cv, rfl⟩ := hv.shape
  obtain ⟨au, cu, rfl⟩ := hu.shape
  have HV := hid hv
  have HU := hid hu
  obtain ⟨w2, hw2⟩ : ∃ w2, w2 = w.alloc (Obj.cells #[.int .i64 (cA : Int), .int .i64 (cN : Int), .int .i64 (cB : Int), .int .i64 (cM : Int)] 42) := ⟨_, rfl⟩
  have hb2 : Below w.heap.size w w2 := by rw [hw2]; exact (Below.refl _ _).alloc (Nat.le_refl _) _
  have x0 : w2.heap[w.heap.size]? = some (Obj.cells #[.int .i64 (cA : Int), .int .i64 (cN : Int), .int .i64 (cB : Int), .int .i64 (cM : Int)] 42) := by rw [hw2]; exact heap_alloc_new w _
  obtain ⟨W, hW⟩ : ∃ W, W = w.heap.size := ⟨_, rfl⟩
  rw [← hW] at x0
  have q0 : w2.cell? ⟨W, 0, none⟩ = some (.int .i64 cA) := cell_of_blk x0 0
  have q1 : w2.cell? ⟨W, 1, none⟩ = some (.int .i64 cN) := cell_of_blk x0 1
  have q2 : w2.cell? ⟨W, 2, none⟩ = some (.int .i64 cB) := cell_of_blk x0 2
  have q3 : w2.cell? ⟨W, 3, none⟩ = some (.int .i64 cM) := cell_of_blk x0 3
  have HB2 := hid hb2
  have HW2 := hid hw2
  have HWW := hid hW
  obtain ⟨Y, hY⟩ : ∃ Y, Y = cA + cN := ⟨_, rfl⟩
  obtain ⟨Z, hZ⟩ : ∃ Z, Z = cB + cM := ⟨_, rfl⟩
  have i1 : IntKind.i64.wrap ((cA : Int) + (cN : Int)) = (Y : Int) := (wrapOk (by omega) (by omega)).trans (by omega)
  have i2 : IntKind.i64.wrap ((cB : Int) + (cM : Int)) = (Z : Int) := (wrapOk (by omega) (by omega)).trans (by omega)
  have HY := hid hY
  have HZ := hid hZ
  clear hv hu hw2 hb2 x0 hW hY hZ
  by_cases c1 : cM = 0 ∧ Y < nA
  · have z1 : ((cM : Int) == 0) = true := by rw [c1.1]; rfl
    have z2 : decide ((Y : Int) < (nA : Int)) = true := decide_eq_true (by omega)
    have z2' : decide (Y < nA) = true := decide_eq_true c1.2
    have z3 : Y < nA := c1.2
    obtain ⟨x, hx⟩ : ∃ x, a[cA]? = some x := ⟨_, List.getElem?_eq_getElem (by have := HY.out; omega)⟩
    obtain ⟨y, hy⟩ : ∃ y, a[Y]? = some y := ⟨_, List.getElem?_eq_getElem (by omega)⟩
    have HE : Hid ((x == y) = slP a b cA cN cB cM nA nB) := hid (by
      unfold slP
      rw [if_pos ⟨c1.1, by rw [← HY.out]; exact c1.2⟩, ← HY.out]
      exact eqD hx hy)
    obtain ⟨b1, o1, rfl, hb1, d1⟩ := rdI_at HV.out hx
    obtain ⟨b2, o2, e2, hb2, d2⟩ := rdI_at HV.out hy
    cases e2
    have d1' := (HB2.out.cell (p := ⟨b1, o1 + cA, none⟩) hb1).trans d1
    have d2' := (HB2.out.cell (p := ⟨b1, o1 + Y, none⟩) hb1).trans d2
    have j1 : (0 : Int) ≤ (cA : Int) := by omega
    have j2 : (cA : Int) < (a.length : Int) := by have := HY.out; omega
    have j3 : (0 : Int) ≤ (Y : Int) := by omega
    have j4 : (Y : Int) < (a.length : Int) := by omega
    clear hx hy d1 d2 c1
    go_enter Tryd.func29, Tryd.ntmps29
    go_upto_region 1 with fail
    rw [← HW2.out, ← HWW.out]
    go_wp2
    go_quiet (fail)
    go_wp2
    go_ret
    exact ⟨ret_bool HE.out, below_drewN HB2.out _⟩
  · have H1 : Hid (¬ (cM = 0 ∧ cA + cN < nA)) := hid (by rw [← HY.out]; exact c1)
    by_cases c2 : cN = 0 ∧ Z < nB
    · have z1 : ((cN : Int) == 0) = true := by rw [c2.1]; rfl
      have z2 : decide ((Z : Int) < (nB : Int)) = true := decide_eq_true (by omega)
      have z2' : decide (Z < nB) = true := decide_eq_true c2.2
      have z3 : Z < nB := c2.2
      obtain ⟨x, hx⟩ : ∃ x, b[cB]? = some x := ⟨_, List.getElem?_eq_getElem (by have := HZ.out; omega)⟩
      obtain ⟨y, hy⟩ : ∃ y, b[Z]? = some y := ⟨_, List.getElem?_eq_getElem (by omega)⟩
      have HE : Hid ((x == y) = slP a b cA cN cB cM nA nB) := hid (by
        unfold slP
        rw [if_neg H1.out, if_pos ⟨c2.1, by rw [← HZ.out]; exact c2.2⟩, ← HZ.out]
        exact eqD hx hy)
      obtain ⟨b1, o1, rfl, hb1, d1⟩ := rdI_at HU.out hx
      obtain ⟨b2, o2, e2, hb2, d2⟩ := rdI_at HU.out hy
      cases e2
      have d1' := (HB2.out.cell (p := ⟨b1, o1 + cB, none⟩) hb1).trans d1
      have d2' := (HB2.out.cell (p := ⟨b1, o1 + Z, none⟩) hb1).trans d2
      have j1 : (0 : Int) ≤ (cB : Int) := by omega
      have j2 : (cB : Int) < (b.length : Int) := by have := HZ.out; omega
      have j3 : (0 : Int) ≤ (Z : Int) := by omega
      have j4 : (Z : Int) < (b.length : Int) := by omega
      clear hx hy d1 d2 c2
      by_cases c3 : cM = 0
      · have y1 : ((cM : Int) == 0) = true := by rw [c3]; rfl
        have y2 : decide ((Y : Int) < (nA : Int)) = false := decide_eq_false (by omega)
        have y2' : decide (Y < nA) = false := decide_eq_false (by omega)
        have y3 : ¬ Y < nA := by omega
        clear c1 c3
        go_enter Tryd.func29, Tryd.ntmps29
        go_upto_region 1 with fail
        rw [← HW2.out, ← HWW.out]
        go_wp2
        go_quiet (fail)
        go_wp2
        go_ret
        exact ⟨ret_bool HE.out, below_drewN HB2.out _⟩
      · have y1 : ((cM : Int) == 0) = false := by rw [beq_eq_false_iff_ne]; omega
        clear c1 c3
        go_enter Tryd.func29, Tryd.ntmps29
        go_upto_region 1 with fail
        rw [← HW2.out, ← HWW.out]
        go_wp2
        go_quiet (fail)
        go_wp2
        go_ret
        exact ⟨ret_bool HE.out, below_drewN HB2.out _⟩
    · have HE : Hid (false = slP a b cA cN cB cM nA nB) := hid (by
        unfold slP
        rw [if_neg H1.out, if_neg (by rw [← HZ.out]; exact c2)])
      by_cases c3 : cM = 0 <;> by_cases c4 : cN = 0
      all_goals go_enter Tryd.func29, Tryd.ntmps29
      · have y1 : ((cM : Int) == 0) = true := by rw [c3]; rfl
        have y2 : decide ((Y : Int) < (nA : Int)) = false := decide_eq_false (by omega)
        have y2' : decide (Y < nA) = false := decide_eq_false (by omega)
        have y3 : ¬ Y < nA := by omega
        have x1 : ((cN : Int) == 0) = true := by rw [c4]; rfl
        have x2 : decide ((Z : Int) < (nB : Int)) = false := decide_eq_false (by omega)
        have x2' : decide (Z < nB) = false := decide_eq_false (by omega)
        have x3 : ¬ Z < nB := by omega
        clear c1 c2 c3 c4
        go_upto_region 1 with fail
        rw [← HW2.out, ← HWW.out]
        go_wp2
        go_ret
        exact ⟨ret_bool HE.out, HB2.out⟩
      · have y1 : ((cM : Int) == 0) = true := by rw [c3]; rfl
        have y2 : decide ((Y : Int) < (nA : Int)) = false := decide_eq_false (by omega)
        have y2' : decide (Y < nA) = false := decide_eq_false (by omega)
        have y3 : ¬ Y < nA := by omega
        have x1 : ((cN : Int) == 0) = false := by rw [beq_eq_false_iff_ne]; omega
        clear c1 c2 c3 c4
        go_upto_region 1 with fail
        rw [← HW2.out, ← HWW.out]
        go_wp2
        go_ret
        exact ⟨ret_bool HE.out, HB2.out⟩
      · have y1 : ((cM : Int) == 0) = false := by rw [beq_eq_false_iff_ne]; omega
        have x1 : ((cN : Int) == 0) = true := by rw [c4]; rfl
        have x2 : decide ((Z : Int) < (nB : Int)) = false := decide_eq_false (by omega)
        have x2' : decide (Z < nB) = false := decide_eq_false (by omega)
        have x3 : ¬ Z < nB := by omega
        clear c1 c2 c3 c4
        go_upto_region 1 with fail
        rw [← HW2.out, ← HWW.out]
        go_wp2
        go_ret
        exact ⟨ret_bool HE.out, HB2.out⟩
      · have y1 : ((cM : Int) == 0) = false := by rw [beq_eq_false_iff_ne]; omega
        have x1 : ((cN : Int) == 0) = false := by rw [beq_eq_false_iff_ne]; omega
        clear c1 c2 c3 c4
        go_upto_region 1 with fail
        rw [← HW2.out, ← HWW.out]
        go_wp2
        go_ret
        exact ⟨ret_bool HE.out, HB2.out⟩
end Go.Proofs.YtmomeemkdfoklaaDoor
