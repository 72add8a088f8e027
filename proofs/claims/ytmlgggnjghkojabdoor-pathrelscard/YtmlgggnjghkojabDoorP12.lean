/-
  The walk of Rel of the program.
-/
import Derived.Test.YtmlgggnjghkojabDoorP11
import Derived.Laws.AppendOwnNone
namespace Go.Proofs.YtmlgggnjghkojabDoor
open Go.RowKit

theorem rel_from {f t : List UInt8} (h : (Pp.parts f).2 ≠ 0) : Pp.rel f t = ([], (Pp.parts f).2) := by unfold Pp.rel; rw [if_pos h]
theorem rel_to {f t : List UInt8} (h : (Pp.parts f).2 = 0) (h2 : (Pp.parts t).2 ≠ 0) : Pp.rel f t = ([], (Pp.parts t).2) := by unfold Pp.rel; rw [if_neg (by rw [h]; simp), if_pos h2]
theorem rel_here {f t : List UInt8} (h : (Pp.parts f).2 = 0) (h2 : (Pp.parts t).2 = 0) (h3 : Pp.steps (Pp.parts f).1 (Pp.parts t).1 = []) : Pp.rel f t = ([46], 0) := by
  unfold Pp.rel; rw [if_neg (by rw [h]; simp), if_neg (by rw [h2]; simp), if_pos h3]
theorem rel_way {f t : List UInt8} (h : (Pp.parts f).2 = 0) (h2 : (Pp.parts t).2 = 0) (h3 : Pp.steps (Pp.parts f).1 (Pp.parts t).1 ≠ []) : Pp.rel f t = (Pp.glue (Pp.steps (Pp.parts f).1 (Pp.parts t).1), 0) := by
  unfold Pp.rel; rw [if_neg (by rw [h]; simp), if_neg (by rw [h2]; simp), if_neg h3]
theorem steps_glue_len (a b : List (List UInt8)) (ha : a.length ≤ 64) (hb : b.length ≤ 64) (hbb : b.any Pp.bad = false) : (Pp.glue (Pp.steps a b)).length ≤ 65536 := by
  have hall : ∀ x ∈ Pp.steps a b, x.length ≤ 255 := by
    intro x hx
    unfold Pp.steps at hx
    rcases List.mem_append.1 hx with h | h
    · rw [List.eq_of_mem_replicate h]; decide
    · exact (Pp.bad_false (Pp.any_bad_false hbb x (List.mem_of_mem_drop h))).2.2.2.1
  have hlen : (Pp.steps a b).length ≤ 128 := by
    unfold Pp.steps
    rw [List.length_append, List.length_replicate, List.length_drop]
    omega
  cases hs : Pp.steps a b with
  | nil => simp [Pp.glue]
  | cons x r =>
    rw [hs] at hall hlen
    have h1 := hall x (by simp)
    have h3 := tails_len r fun y hy => hall y (by simp [hy])
    simp only [Pp.glue, List.length_append]
    simp at hlen
    omega

set_option maxHeartbeats 4000000 in
set_option maxRecDepth 100000 in
theorem rel_any (f t : ByteArray) (w : World) (hm : MaxVar w) :
    Calls Tryd.prog 5 #[.string f, .string t] w fun e w' => e = .returned (.tuple #[.string ⟨(Pp.rel f.data.toList t.data.toList).1.toArray⟩, errV (Pp.rel f.data.toList t.data.toList).2]) ∧ Below w.heap.size w w' := by
  obtain ⟨i0, hi, hz0, hz1, hz2⟩ := info_parts Tryd.infoStr
  have HM := hid hm
  clear hm
  obtain ⟨A, hA⟩ : ∃ A, (Pp.parts f.data.toList).1 = A := ⟨_, rfl⟩
  obtain ⟨E, hE⟩ : ∃ E, (Pp.parts f.data.toList).2 = E := ⟨_, rfl⟩
  obtain ⟨B, hB⟩ : ∃ B, (Pp.parts t.data.toList).1 = B := ⟨_, rfl⟩
  obtain ⟨F, hF⟩ : ∃ F, (Pp.parts t.data.toList).2 = F := ⟨_, rfl⟩
  have HA := hid hA
  have HE := hid hE
  have HB := hid hB
  have HF := hid hF
  have hAl : E = 0 → A.length ≤ 64 := fun h => by rw [← hA]; exact (Pp.parts_ok (hE.trans h)).2.1
  have hBl : F = 0 → B.any Pp.bad = false ∧ B.length ≤ 64 := fun h => by rw [← hB]; exact ⟨(Pp.parts_ok (hF.trans h)).1, (Pp.parts_ok (hF.trans h)).2.1⟩
  clear hA hE hB hF
  go_enter Tryd.func5, Tryd.ntmps5
  go_wp2_with fail
  refine (parts_any f _ HM.out).mono ?_
  rintro e w1 ⟨v1, rfl, hown1, hb1⟩
  rw [HE.out]
  rw [HA.out] at hown1
  have HM1 := hid (HM.out.below hb1)
  clear HM
  by_cases hz : E = 0
  · subst hz
    have hAl' := hAl rfl
    rw [errV_zero]
    clear hAl
    have HR1 := hid (rd_own hown1)
    obtain ⟨a1, c1, rfl⟩ := hown1.shape
    clear hown1
    go_wp2_with fail
    refine (parts_any t _ HM1.out).mono ?_
    rintro e w2 ⟨v2, rfl, hown2, hb2⟩
    rw [HF.out]
    rw [HB.out] at hown2
    have hB2 := hb1.trans (hb2.mono hb1.size)
    have HR1' := hid (HR1.out.below hb2)
    clear HM1 HR1 hb1 hb2
    by_cases hz2 : F = 0
    · subst hz2
      obtain ⟨hBb, hBl'⟩ := hBl rfl
      rw [errV_zero]
      have HR2 := hid (rd_own hown2)
      obtain ⟨a2, c2, rfl⟩ := hown2.shape
      have HO2 := hid hown2
      have HBB := hid hBb
      clear hBl hown2 hBb
      have hbl : (BL A).length ≤ 140737488355328 := by rw [BL_length]; omega
      go_wp2_with fail
      refine (common_rd HR1'.out HR2.out hbl).mono ?_
      rintro e w3 ⟨rfl, hb3⟩
      rw [DL_BL, DL_BL]
      obtain ⟨hc1, hc2⟩ := Pp.common_le A B
      obtain ⟨q, hq⟩ : ∃ q, Pp.common A B = q := ⟨_, rfl⟩
      rw [hq] at hc1 hc2 ⊢
      have HQ := hid hq
      have hB3 := hB2.trans (hb3.mono hB2.size)
      have HO3 := hid (HO2.out.stays hb3)
      have hsub : (A.length : Int) - (q : Int) = ((A.length - q : Nat) : Int) := by omega
      have hx0 : (w3.alloc (.cells #[dots] 9)).cell? ⟨w3.heap.size, 0, none⟩ = some dots := by simp
      have HX0 := hid hx0
      have HO4 := hid (HO3.out.stays (w' := w3.alloc (.cells #[dots] 9)) ((Below.refl _ _).alloc (Nat.le_refl _) _))
      have hB4 : Below w.heap.size w (w3.alloc (.cells #[dots] 9)) := hB3.alloc hB3.size _
      clear hx0 hq HO2 HO3 HR1' HR2 hb3 hB2
      go_wp2_with fail
      refine (repeat_any w3.heap.size (A.length - q) _ (by omega) HX0.out).mono ?_
      rintro e w5 ⟨v5, rfl, hown5, hb5⟩
      have hB5 := hB4.trans (hb5.mono hB4.size)
      have HO5 := hid (hown5.mono hB4.size)
      have HP5 := hid (HO4.out.stays hb5)
      clear hown5 hb5 hB4 HO4 HX0 hB3 hsub
      have HS : Hid (Pp.steps A B = List.replicate (A.length - q) [46, 46] ++ B.drop q) := hid (by unfold Pp.steps; rw [HQ.out])
      rcases HP5.out.2 with ⟨hv2, hn2⟩ | ⟨g, cap, cur, hv2, hg2, hh2, hcap2, _⟩
      · obtain ⟨rfl, _, rfl⟩ := Value.slice.inj hv2
        obtain rfl : B = [] := List.length_eq_zero_iff.1 hn2
        obtain rfl : q = 0 := by simpa using hc2
        clear hv2 hn2 HP5
        obtain ⟨S, hS⟩ : ∃ S, Pp.steps A [] = S := ⟨_, rfl⟩
        have hown6 : OwnS w5 w.heap.size v5 S := by rw [← hS, HS.out]; simpa using HO5.out
        have hSl : S.length ≤ 128 := by
          rw [← hS, HS.out, List.length_append, List.length_replicate, List.length_drop]
          omega
        have hgl : (Pp.glue S).length ≤ 140737488355328 := by
          have := steps_glue_len A [] hAl' hBl' HBB.out
          rw [hS] at this
          omega
        have HSS := hid hS
        clear hS
        obtain ⟨a6, c6, rfl⟩ := hown6.shape
        have HR6 := hid (rd_own hown6)
        have HO6 : Hid (w5.ownsRow w.heap.size 9 1 (.slice a6 S.length c6) S.length (SV S)) := hid hown6
        clear hown6 HO5
        by_cases h0 : S.length = 0
        · have HG := hid (rel_here HE.out HF.out (by rw [HA.out, HB.out, HSS.out]; exact List.length_eq_zero_iff.1 h0))
          have t0 : ((S.length : Int) == 0) = true := beq_iff_eq.2 (by omega)
          clear h0
          go_wp2_with (at_builtin; (refine wpList_append_own_none rfl _ _ 31 rfl w.heap.size 9 i0 1 Tryd.underlying31 hi _ _ _ rfl HO6.out rfl ?_))
          go_ret2
          exact ⟨by rw [HG.out]; rfl, hB5⟩
        · have HG : Hid (Pp.rel f.data.toList t.data.toList = (Pp.glue S, 0)) := hid (by
            have h := rel_way HE.out HF.out (by rw [HA.out, HB.out, HSS.out]; exact fun e => h0 (by rw [e]; rfl))
            rwa [HA.out, HB.out, HSS.out] at h)
          have t0 : ((S.length : Int) == 0) = false := beq_eq_false_iff_ne.2 (by omega)
          have hbn : (BL S).length ≤ 140737488355328 := by rw [BL_length]; omega
          clear h0
          go_wp2_with (at_builtin; (refine wpList_append_own_none rfl _ _ 31 rfl w.heap.size 9 i0 1 Tryd.underlying31 hi _ _ _ rfl HO6.out rfl ?_))
          go_wp2_with fail
          refine (sjoin_rd HR6.out hbn (by rw [DL_BL]; exact hgl)).mono ?_
          rintro e w7 ⟨rfl, hb7⟩
          rw [DL_BL]
          go_wp2
          go_ret2
          exact ⟨by rw [HG.out]; rfl, hB5.trans (hb7.mono hB5.size)⟩
      · obtain ⟨rfl, _, rfl⟩ := Value.slice.inj hv2
        have HC2 : Hid (∀ j u, (SV (B.drop q))[j]? = some u → w5.cell? ⟨g, q + j, none⟩ = some u) := hid (fun j u hj => by
          have e : SV (B.drop q) = (SV B).drop q := by unfold SV; rw [List.map_drop]
          rw [e, List.getElem?_drop] at hj
          have hlt : q + j < (SV B).length := by
            rcases Nat.lt_or_ge (q + j) (SV B).length with h | h
            · exact h
            · rw [List.getElem?_eq_none h] at hj; cases hj
          rw [World.ownsRow.cellAt HP5.out (q + j) (by rw [SV_length] at hlt; omega)]
          exact hj)
        have hsl : (SV (B.drop q)).length = B.length - q := by rw [SV_length, List.length_drop]
        have HO5' : Hid (w5.ownsRow w.heap.size 9 1 v5 (A.length - q) (SV (List.replicate (A.length - q) [46, 46]))) := hid (by
          have h : w5.ownsRow _ _ _ _ _ _ := HO5.out
          rwa [List.length_replicate] at h)
        clear hv2 HO5
        by_cases hqc : c2 = q
        · subst hqc
          go_wp2_with (at_builtin; (refine wpList_append_own _ rfl _ _ 31 rfl w.heap.size 9 i0 (.string ⟨#[]⟩) 1 16 Tryd.underlying31 hi hz0 hz1 hz2 rfl (by decide) v5 (A.length - c2) (SV (List.replicate (A.length - c2) [46, 46])) rfl HO5'.out ⟨g, 0, none⟩ 0 0 (SV (B.drop c2)) rfl ?c0 ?c1 ?c2 ?c3 ?c4 ?c5 ?_))
          case c0 => rw [hsl]; omega
          case c1 => intro j u hj; rw [List.getElem?_eq_none (by omega)] at hj; cases hj
          case c2 =>
            intro u hu
            obtain ⟨x, _, rfl⟩ := List.mem_map.1 hu
            rfl
          case c3 => unfold maxLen; omega
          case c4 => omega
          case c5 => exact hB5.size
          intro v6 w6 hown6' hgrow6 _
          have hB6 : Below w.heap.size w w6 := hB5.grown hgrow6 hB5.size (fun k hk => (World.ownsRow.lt HO5'.out k hk).1)
          have hown6 : OwnS w6 w.heap.size v6 (Pp.steps A B) := by
            show w6.ownsRow _ _ _ _ _ _
            rw [HS.out, SV_append, List.length_append, List.length_replicate, List.length_drop, show B.length - c2 = 0 by omega]
            exact hown6'
          clear hown6' hgrow6 hB5 HO5'
          obtain ⟨S, hS⟩ : ∃ S, Pp.steps A B = S := ⟨_, rfl⟩
          have hSl : S.length ≤ 128 := by
            rw [← hS, HS.out, List.length_append, List.length_replicate, List.length_drop]
            omega
          have hgl : (Pp.glue S).length ≤ 140737488355328 := by
            have := steps_glue_len A B hAl' hBl' HBB.out
            rw [hS] at this
            omega
          rw [hS] at hown6
          have HSS := hid hS
          clear hS
          obtain ⟨a6, c6, rfl⟩ := hown6.shape
          have HR6 := hid (rd_own hown6)
          clear hown6
          by_cases h0 : S.length = 0
          · have HG := hid (rel_here HE.out HF.out (by rw [HA.out, HB.out, HSS.out]; exact List.length_eq_zero_iff.1 h0))
            have t0 : ((S.length : Int) == 0) = true := beq_iff_eq.2 (by omega)
            clear h0
            go_wp2
            go_ret2
            exact ⟨by rw [HG.out]; rfl, hB6⟩
          · have HG : Hid (Pp.rel f.data.toList t.data.toList = (Pp.glue S, 0)) := hid (by
              have h := rel_way HE.out HF.out (by rw [HA.out, HB.out, HSS.out]; exact fun e => h0 (by rw [e]; rfl))
              rwa [HA.out, HB.out, HSS.out] at h)
            have t0 : ((S.length : Int) == 0) = false := beq_eq_false_iff_ne.2 (by omega)
            have hbn : (BL S).length ≤ 140737488355328 := by rw [BL_length]; omega
            clear h0
            go_wp2_with fail
            refine (sjoin_rd HR6.out hbn (by rw [DL_BL]; exact hgl)).mono ?_
            rintro e w7 ⟨rfl, hb7⟩
            rw [DL_BL]
            go_wp2
            go_ret2
            exact ⟨by rw [HG.out]; rfl, hB6.trans (hb7.mono hB6.size)⟩
        · have hqc' : ¬ q = c2 := fun e => hqc e.symm
          go_wp2_with (at_builtin; (refine wpList_append_own _ rfl _ _ 31 rfl w.heap.size 9 i0 (.string ⟨#[]⟩) 1 16 Tryd.underlying31 hi hz0 hz1 hz2 rfl (by decide) v5 (A.length - q) (SV (List.replicate (A.length - q) [46, 46])) rfl HO5'.out ⟨g, q, none⟩ (B.length - q) (c2 - q) (SV (B.drop q)) rfl ?c0 ?c1 ?c2 ?c3 ?c4 ?c5 ?_))
          case c0 => rw [hsl]; omega
          case c1 => intro j u hj; rw [Go.WideShapes.add_plain]; exact HC2.out j u hj
          case c2 =>
            intro u hu
            obtain ⟨x, _, rfl⟩ := List.mem_map.1 hu
            rfl
          case c3 => unfold maxLen; omega
          case c4 => omega
          case c5 => exact hB5.size
          intro v6 w6 hown6' hgrow6 _
          have hB6 : Below w.heap.size w w6 := hB5.grown hgrow6 hB5.size (fun k hk => (World.ownsRow.lt HO5'.out k hk).1)
          have hown6 : OwnS w6 w.heap.size v6 (Pp.steps A B) := by
            show w6.ownsRow _ _ _ _ _ _
            rw [HS.out, SV_append, List.length_append, List.length_replicate, List.length_drop]
            exact hown6'
          clear hown6' hgrow6 hB5 HO5'
          obtain ⟨S, hS⟩ : ∃ S, Pp.steps A B = S := ⟨_, rfl⟩
          have hSl : S.length ≤ 128 := by
            rw [← hS, HS.out, List.length_append, List.length_replicate, List.length_drop]
            omega
          have hgl : (Pp.glue S).length ≤ 140737488355328 := by
            have := steps_glue_len A B hAl' hBl' HBB.out
            rw [hS] at this
            omega
          rw [hS] at hown6
          have HSS := hid hS
          clear hS
          obtain ⟨a6, c6, rfl⟩ := hown6.shape
          have HR6 := hid (rd_own hown6)
          clear hown6
          by_cases h0 : S.length = 0
          · have HG := hid (rel_here HE.out HF.out (by rw [HA.out, HB.out, HSS.out]; exact List.length_eq_zero_iff.1 h0))
            have t0 : ((S.length : Int) == 0) = true := beq_iff_eq.2 (by omega)
            clear h0
            go_wp2
            go_ret2
            exact ⟨by rw [HG.out]; rfl, hB6⟩
          · have HG : Hid (Pp.rel f.data.toList t.data.toList = (Pp.glue S, 0)) := hid (by
              have h := rel_way HE.out HF.out (by rw [HA.out, HB.out, HSS.out]; exact fun e => h0 (by rw [e]; rfl))
              rwa [HA.out, HB.out, HSS.out] at h)
            have t0 : ((S.length : Int) == 0) = false := beq_eq_false_iff_ne.2 (by omega)
            have hbn : (BL S).length ≤ 140737488355328 := by rw [BL_length]; omega
            clear h0
            go_wp2_with fail
            refine (sjoin_rd HR6.out hbn (by rw [DL_BL]; exact hgl)).mono ?_
            rintro e w7 ⟨rfl, hb7⟩
            rw [DL_BL]
            go_wp2
            go_ret2
            exact ⟨by rw [HG.out]; rfl, hB6.trans (hb7.mono hB6.size)⟩
    · have HG := hid (rel_to HE.out (by rw [HF.out]; exact hz2))
      have HV := hid (errV_pos hz2)
      rw [HV.out]
      clear hown2 hBl hz2
      go_wp2
      go_ret2
      exact ⟨by rw [HG.out, HF.out, HV.out]; rfl, hB2⟩
  · have HG := hid (rel_from (t := t.data.toList) (by rw [HE.out]; exact hz))
    have HV := hid (errV_pos hz)
    rw [HV.out]
    clear hown1 hAl hz
    go_wp2
    go_ret2
    exact ⟨by rw [HG.out, HE.out, HV.out]; rfl, hb1⟩
end Go.Proofs.YtmlgggnjghkojabDoor
