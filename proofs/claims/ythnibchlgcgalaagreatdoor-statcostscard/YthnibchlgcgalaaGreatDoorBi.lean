/-
  Counts of built hunks, plain: what is counted is what the script costs.
-/
import Derived.Test.YthnibchlgcgalaaGreatDoorBf
import Derived.Test.YthnibchlgcgalaaGreatDoorGrKt
import Derived.Test.YthnibchlgcgalaaGreatDoorGrLe
namespace Go.Proofs.YthnibchlgcgalaaGreatDoor.Sx
open Go.RowKit
open Hu (Rw Hk)
open Ed (Ch)

theorem cAD_app (l m : List Rw) : cA (l ++ m) = cA l + cA m ∧ cD (l ++ m) = cD l + cD m := by
  induction l with
  | nil => simp [cA, cD]
  | cons x l ih =>
    show _ + cA (l ++ m) = _ + cA l + cA m ∧ _ + cD (l ++ m) = _ + cD l + cD m
    omega
theorem cAD_mk1 (l : List ByteArray) : cA (Hu.mk 1 l) = 0 ∧ cD (Hu.mk 1 l) = 0 := by
  induction l with
  | nil => exact ⟨rfl, rfl⟩
  | cons x l ih =>
    show (if (1 : Int) = 3 then (1 : Int) else 0) + cA (Hu.mk 1 l) = 0 ∧ (if (1 : Int) = 2 then (1 : Int) else 0) + cD (Hu.mk 1 l) = 0
    rw [if_neg (by decide), if_neg (by decide)]
    omega
theorem cAD_mk2 (l : List ByteArray) : cA (Hu.mk 2 l) = 0 ∧ cD (Hu.mk 2 l) = l.length := by
  induction l with
  | nil => exact ⟨rfl, rfl⟩
  | cons x l ih =>
    show (if (2 : Int) = 3 then (1 : Int) else 0) + cA (Hu.mk 2 l) = 0 ∧ (if (2 : Int) = 2 then (1 : Int) else 0) + cD (Hu.mk 2 l) = _
    rw [if_neg (by decide), if_pos rfl, List.length_cons]
    omega
theorem cAD_mk3 (l : List ByteArray) : cA (Hu.mk 3 l) = l.length ∧ cD (Hu.mk 3 l) = 0 := by
  induction l with
  | nil => exact ⟨rfl, rfl⟩
  | cons x l ih =>
    show (if (3 : Int) = 3 then (1 : Int) else 0) + cA (Hu.mk 3 l) = _ ∧ (if (3 : Int) = 2 then (1 : Int) else 0) + cD (Hu.mk 3 l) = 0
    rw [if_pos rfl, if_neg (by decide), List.length_cons]
    omega
theorem cAD_rowsG {a b : List ByteArray} {g : List Ch} {x y n m q : Int} (h : Hu.inc g x y n m) (hx : 0 ≤ x) (hy : 0 ≤ y) (hn : n ≤ a.length) (hm : m ≤ b.length) : cA (Hu.rowsG a b x g q) = Ed.comeS g ∧ cD (Hu.rowsG a b x g q) = Ed.goneS g := by
  induction g generalizing x y with
  | nil => rw [Hu.rowsG]; exact cAD_mk1 _
  | cons c r ih =>
    obtain ⟨⟨⟨p1, p2, p3⟩, ⟨p4, p5, p6⟩, _, _⟩, h2⟩ := h
    have hh := Hu.endA_ge h2
    have e := ih h2 (by omega) (by omega)
    rw [Hu.rowsG]
    have e1 := Hu.sl_len (l := a) (x := c.a) (y := c.a + c.n) (by omega) (by omega) (by omega)
    have e2 := Hu.sl_len (l := b) (x := c.b) (y := c.b + c.m) (by omega) (by omega) (by omega)
    have f1 := cAD_mk1 (Hu.sl a x c.a)
    have f2 := cAD_mk2 (Hu.sl a c.a (c.a + c.n))
    have f3 := cAD_mk3 (Hu.sl b c.b (c.b + c.m))
    rw [(cAD_app _ _).1, (cAD_app _ _).1, (cAD_app _ _).1, (cAD_app _ _).2, (cAD_app _ _).2, (cAD_app _ _).2]
    simp only [Ed.goneS, Ed.comeS, List.map_cons, List.sum_cons] at e ⊢
    omega
theorem sum_drop (t : List Ch) (k : Nat) : Ed.comeS t = Ed.comeS (t.take k) + Ed.comeS (t.drop k) ∧ Ed.goneS t = Ed.goneS (t.take k) + Ed.goneS (t.drop k) := by
  unfold Ed.comeS Ed.goneS
  constructor
  · conv => lhs; rw [← List.take_append_drop k t]
    rw [List.map_append, List.sum_append]
  · conv => lhs; rw [← List.take_append_drop k t]
    rw [List.map_append, List.sum_append]
theorem bld_tot {ctx : Int} {a b : List ByteArray} (hc0 : 0 ≤ ctx) : ∀ (N : Nat) (t : List Ch) (x y : Int), t.length ≤ N → Hu.Ahead ctx t x y a.length b.length → tA (Hu.bld ctx a b t) = Ed.comeS t ∧ tD (Hu.bld ctx a b t) = Ed.goneS t
  | 0, t, x, y, hN, _ => by
    have e : t = [] := List.length_eq_zero_iff.1 (by omega)
    subst e
    simp [Hu.bld, Hu.grp, tA, tD, Ed.comeS, Ed.goneS]
  | N + 1, t, x, y, hN, hA => by
    by_cases hne : t = []
    · subst hne; simp [Hu.bld, Hu.grp, tA, tD, Ed.comeS, Ed.goneS]
    · obtain ⟨g1, g2, g3, g4, x', y', g5⟩ := hA.group hne hc0
      have hp := Hu.glen_pos ctx t hne
      have hlen : (t.drop (Hu.glen ctx t)).length = t.length - Hu.glen ctx t := List.length_drop
      obtain ⟨i1, i2⟩ := bld_tot hc0 N (t.drop (Hu.glen ctx t)) x' y' (by omega) g5
      have hs := sum_drop t (Hu.glen ctx t)
      rw [Hu.bld_step hne]
      have e := cAD_rowsG (a := a) (b := b) (q := Hu.toG ctx a.length (t.take (Hu.glen ctx t))) g2 g3 g4 (Int.le_refl _) (Int.le_refl _)
      show cA (Hu.ofG ctx a b (t.take (Hu.glen ctx t))).rows + tA _ = _ ∧ cD (Hu.ofG ctx a b (t.take (Hu.glen ctx t))).rows + tD _ = _
      have er : (Hu.ofG ctx a b (t.take (Hu.glen ctx t))).rows = Hu.rowsG a b (Hu.fromG ctx (t.take (Hu.glen ctx t))) (t.take (Hu.glen ctx t)) (Hu.toG ctx a.length (t.take (Hu.glen ctx t))) := rfl
      rw [er, e.1, e.2, i1, i2, hs.1, hs.2]
      exact ⟨rfl, rfl⟩
/-- what a script costs, its normal one costs -/
theorem norm_cost {s : List Ch} {n m : Int} (h : Ed.Val s n m) : Ed.goneS (Ed.normal s n m) = Ed.goneS s ∧ Ed.comeS (Ed.normal s n m) = Ed.comeS s := by
  obtain ⟨hV, hp⟩ := Ed.normal_Val h
  have l1 := hV.len
  have l2 := h.len
  rw [hp] at l1
  omega
theorem bldA_cost {s : List Ch} {a b : List ByteArray} {ctx : Int} (h : bldN s a b ctx = 0) :
    tA (bldA s a b ctx) = (Ed.costP s).2 ∧ tD (bldA s a b ctx) = (Ed.costP s).1 ∧ tA (bldA s a b ctx) ≤ 2147483647 ∧ tD (bldA s a b ctx) ≤ 2147483647 ∧ allVld (bldA s a b ctx) = true := by
  have hz := bldN_zero h
  have hv := Ed.validN_zero.1 hz.2.2.2.1
  obtain ⟨hV, _⟩ := Ed.normal_Val hv
  have hn := Ed.cnt_iff.1 hV.1
  have hm := Ed.cnt_iff.1 hV.2.1
  have hA := Hu.Ahead.start (ctx := ctx) hV
  have h1 := bld_tot (a := a) (b := b) hz.1.1 _ _ _ _ (Nat.le_refl _) hA
  have h2 := norm_cost hv
  have h3 := hv.cost
  have h4 := Hu.inc_come hA.inc
  have h5 : allVld (bldA s a b ctx) = true := by
    have hq := (bld_ar h).ord
    unfold Hu.orderN at hq
    unfold allVld
    cases e : (bldA s a b ctx).all Hu.vld with
    | true => rfl
    | false => rw [e] at hq; simp at hq
  unfold bldA at h5 ⊢
  rw [if_pos h] at h5 ⊢
  rw [h1.1, h1.2, h2.1, h2.2, h3]
  rw [h2.1, h2.2] at h4
  exact ⟨rfl, rfl, by omega, by omega, h5⟩
end Go.Proofs.YthnibchlgcgalaaGreatDoor.Sx
