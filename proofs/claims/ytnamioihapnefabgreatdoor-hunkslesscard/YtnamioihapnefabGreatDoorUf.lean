/-
  Less context: what the law leans on; append of many hunks.
-/
import Derived.Test.YtnamioihapnefabGreatDoorUb
import Derived.Test.YtnamioihapnefabGreatDoorLg
namespace Go.Proofs.YtnamioihapnefabGreatDoor
open Go.RowKit
open Hu (Rw Hk)
open Ed (Ch)

/-- what is known of built hunks that are narrowed -/
structure LeI (s : List Ch) (a b : List ByteArray) (ctx : Int) (c : Nat) : Prop where
  less : bldN s a b c = 0
  each : ∀ h ∈ bldA s a b ctx, narN h c = 0 ∧ narN h ctx = 0 ∧ narA h ctx = [h] ∧ narA h c ≠ []
  all : (bldA s a b ctx).flatMap (fun h => narA h c) = bldA s a b c
theorem bldN_less {s : List Ch} {a b : List ByteArray} {ctx c : Int} (h : bldN s a b ctx = 0) (h0 : 0 ≤ c) (h1 : c ≤ ctx) : bldN s a b c = 0 := by
  obtain ⟨hc, hva, hvb, hk, he⟩ := bldN_zero h
  unfold bldN
  rw [if_pos (by unfold ctxOk; simp; omega), hva, hvb, if_pos (show (true && true) = true from rfl), if_pos hk, he, if_pos rfl]
theorem built_less {s : List Ch} {a b : List ByteArray} {ctx : Int} {c : Nat} (h : bldN s a b ctx = 0) (hc : (c : Int) ≤ ctx) : LeI s a b ctx c := by
  obtain ⟨hcc, hva, hvb, hk, he⟩ := bldN_zero h
  have hV0 := Ed.validN_zero.1 hk
  obtain ⟨hV, hpr⟩ := Ed.normal_Val hV0
  have hN := bldN_less h (show (0 : Int) ≤ (c : Int) by omega) hc
  have hJ : bldA s a b ctx = Hu.bld ctx a b (Ed.normal s a.length b.length) := by unfold bldA; rw [if_pos h]
  have hJ2 : bldA s a b c = Hu.bld c a b (Ed.normal s a.length b.length) := by unfold bldA; rw [if_pos hN]
  have hAR := bld_ar h
  have hvl : ∀ x ∈ bldA s a b ctx, Hu.vld x = true := by
    have := hAR.ord
    unfold Hu.orderN at this
    split at this
    · rename_i hall; exact List.all_eq_true.1 hall
    · cases this
  have hG := Hu.grp_all (ctx := ctx) (a := a) (b := b) hcc.1 _ (Ed.normal s a.length b.length) 0 0 (Nat.le_refl _) (normal_apart hV0) (Hu.Ahead.start hV)
  obtain ⟨k, hk2⟩ := Int.eq_ofNat_of_zero_le hcc.1
  have hone : ∀ g ∈ Hu.grp ctx (Ed.normal s a.length b.length), narN (Hu.ofG ctx a b g) c = 0 ∧ narA (Hu.ofG ctx a b g) c = (Hu.grp c g).map (Hu.ofG c a b) ∧ narN (Hu.ofG ctx a b g) ctx = 0 ∧ narA (Hu.ofG ctx a b g) ctx = [Hu.ofG ctx a b g] ∧ g ≠ [] := by
    intro g hg
    have hm : Hu.ofG ctx a b g ∈ bldA s a b ctx := by rw [hJ]; exact List.mem_map_of_mem hg
    have hv := hvl _ hm
    obtain ⟨q1, q2⟩ := Hu.narrow_built (hG g hg) hc hcc.2 hv
    obtain ⟨q3, q4⟩ := Hu.narrow_built (c := k) (hG g hg) (by omega) hcc.2 hv
    rw [← hk2] at q3 q4
    refine ⟨q1, q2, q3, ?_, (hG g hg).ne⟩
    rw [q4, Hu.grp_one (hG g hg).ne (Hu.grp_each ctx _ g hg).2]
    rfl
  refine ⟨hN, fun x hx => ?_, ?_⟩
  · rw [hJ] at hx
    obtain ⟨g, hg, rfl⟩ := List.mem_map.1 hx
    obtain ⟨q1, q2, q3, q4, q5⟩ := hone g hg
    refine ⟨q1, q3, q4, ?_⟩
    rw [q2]
    intro e
    cases g with
    | nil => exact q5 rfl
    | cons d r =>
      obtain ⟨g1, gs, hg1⟩ := Hu.grp_head c d r
      rw [hg1] at e
      cases e
  · rw [hJ, hJ2]
    unfold Hu.bld
    rw [List.flatMap_map, ← Hu.grp_less hc]
    rw [List.map_flatMap]
    have : ∀ L : List (List Ch), (∀ g ∈ L, narA (Hu.ofG ctx a b g) c = (Hu.grp c g).map (Hu.ofG c a b)) → L.flatMap (fun g => narA (Hu.ofG ctx a b g) c) = L.flatMap (fun g => (Hu.grp c g).map (Hu.ofG c a b)) := by
      intro L
      induction L with
      | nil => intro _; rfl
      | cons g L ih =>
        intro hL
        rw [List.flatMap_cons, List.flatMap_cons, hL g (by simp), ih (fun g' h' => hL g' (by simp [h']))]
    exact this _ (fun g hg => (hone g hg).2.1)
/-- append of many hunks to a list of the call's own -/
theorem wpList_append_hks {w : World} {ops : Array Oper} {rest : List Oper} {o : Oper} {a : Act} {Q : Exit → Act → World → Prop} (hgd : o.guard = none) (s x : Operand)
    (ho : o.op = .call { callee := .builtin .append, args := #[s, x], argTypes := #[26, 26] }) (B : Nat) (v : Value) (l : List Hk) (hs : a.eval s = v) (hown : OwnH w B v l)
    (u : Value) (m : List Hk) (hx : a.eval x = u) (hm : OwnH w B u m) (hne : m ≠ []) (hfit : l.length + m.length < 1954687338260) (hB : B ≤ w.heap.size)
    (h : ∀ v' w', OwnH w' B v' (l ++ m) → Below B w w' → wpList Tryz.prog ops Q rest (a.put o.dst v') w') : wpList Tryz.prog ops Q (o :: rest) a w := by
  obtain ⟨i0, hi, hz0, hz1, hz2⟩ := info_parts Tryz.infoHunk
  obtain ⟨p, hp1, hp2, hp3⟩ := hown
  obtain ⟨q, hq1, hq2, hq3⟩ := hm
  have hml : 0 < m.length := List.length_pos_iff.2 hne
  rcases own_rd hq2 with ⟨h0, _⟩ | ⟨b, o', c, hv, hc, hb, hX⟩
  · omega
  subst hv
  refine wpList_append_lies _ hgd s x 26 ho B 37 i0 (.agg #[.int .i64 0, .int .i64 0, .int .i64 0, .int .i64 0, .string .empty, .slice none 0 0]) 6 72 Tryz.underlying26 hi hz0 hz1 hz2 rfl (by decide) v l.length (hksC p) hs hp2 ⟨b, o', none⟩ m.length c (hksC q) hx ?_ ?_ ?_ hml ?_ ?_ hB w.heap.size rfl ?_
  · rw [hksC_length, ← hq1, List.length_map]
  · intro j u hj
    rw [Go.WideShapes.add_plain]
    exact hX j u hj
  · intro u hu
    obtain ⟨r, hr, hu⟩ := List.mem_flatMap.1 hu
    obtain ⟨ar, cr, e⟩ := own_shape (hq3 r hr)
    unfold hkC at hu
    rw [e] at hu
    simp at hu
    rcases hu with rfl | rfl | rfl | rfl | rfl | rfl <;> rfl
  · unfold maxLen; omega
  · omega
  · intro g' cap w' g2 g3 g4 _
    have hrow : ∀ r : Hk × Value, OwnW w B r.2 r.1.rows → OwnW w' B r.2 r.1.rows := fun r hr => own_by_type hr hp2 (by decide) g3
    refine h _ w' ⟨p ++ q, by rw [List.map_append, hp1, hq1], ?_, fun r hr => ?_⟩ ?_
    · rw [List.length_append, hksC_append]; exact g2
    · rcases List.mem_append.1 hr with hr | hr
      · exact hrow r (hp3 r hr)
      · exact hrow r (hq3 r hr)
    · exact (Below.refl B w).grown g3 hB (own_ge hp2)
end Go.Proofs.YtnamioihapnefabGreatDoor
