/-
  The document's Build: which of its ways, the pairs that stay.
-/
import Derived.Test.YtnamioihapnefaaGreatDoorGrPl
import Derived.Test.YtnamioihapnefaaGreatDoorKp
import Derived.Test.YtnamioihapnefaaGreatDoorKb
import Derived.Test.YtnamioihapnefaaGreatDoorGrD5
import Derived.Test.YtnamioihapnefaaGreatDoorGrJd
import Derived.Test.YtnamioihapnefaaGreatDoorGrX
namespace Go.Proofs.YtnamioihapnefaaGreatDoor
open Go.RowKit
open Hu (Rw Hk)
open Ed (Ch Pr)

theorem rLinesValid_any {w : World} {v : Value} {l : List ByteArray} (hv : RdT w v l) (hl : l.length ≤ 140737488355328) (hs : ∀ x ∈ l, x.size ≤ maxLen) :
    Calls Tryz.prog 34 #[v] w fun e w' => e = .returned (.bool (Hu.valS l)) ∧ w' = w := by
  rcases hv with ⟨h0, a, c, rfl⟩ | ⟨b, o, c, rfl, _, _, hX⟩
  · have e : l = [] := List.length_eq_zero_iff.1 h0
    subst e
    exact Cx.refValid_none a c w
  · exact Cx.refValid_any b o c l w (fun j x hj => hX j _ (stC_get hj)) hl hs
theorem getD_mem {l : List ByteArray} {k : Nat} (h : k < l.length) : ∃ x, l[k]? = some x ∧ l.getD k .empty = x ∧ x ∈ l := by
  refine ⟨l[k], List.getElem?_eq_getElem h, ?_, List.getElem_mem h⟩
  rw [List.getD_eq_getElem?_getD, List.getElem?_eq_getElem h]
  rfl
theorem all_take {P : List Pr} {f : Pr → Bool} {k : Nat} {p : Pr} (h : P[k]? = some p) : (P.take (k + 1)).all f = ((P.take k).all f && f p) := by
  rw [List.take_add_one, h]
  simp
/-- the groups one by one, as the document goes -/
structure GrI2 (ctx : Int) (a b : List ByteArray) (t : List Ch) (F I : Nat) (X : List Hk) (x y : Int) : Prop where
  bld : Hu.bld ctx a b t = X ++ Hu.bld ctx a b (t.drop F)
  ahead : Hu.Ahead ctx (t.drop F) x y a.length b.length
  le : F < t.length → I ≤ F + Hu.glen ctx (t.drop F)
  xl : X.length ≤ F
theorem drop_get {t : List Ch} {F I : Nat} (h : F ≤ I) : (t.drop F)[I - F]? = t[I]? := by
  rw [List.getElem?_drop]
  congr 1
  omega
theorem GrI2.more {ctx : Int} {a b : List ByteArray} {t : List Ch} {F I : Nat} {X : List Hk} {x y : Int} (h : GrI2 ctx a b t F I X x y) (hF : F < I) {c d : Ch} (hc : t[I - 1]? = some c) (hd : t[I]? = some d) (hg : d.a - (c.a + c.n) ≤ 2 * ctx) : GrI2 ctx a b t F (I + 1) X x y := by
  refine ⟨h.bld, h.ahead, fun hl => ?_, h.xl⟩
  have h1 := h.le hl
  have h2 := Hu.glen_more ctx (t.drop F) (I - F) c d (by omega) (by omega) (by rw [show I - F - 1 = (I - 1) - F by omega, drop_get (by omega)]; exact hc) (by rw [drop_get (by omega)]; exact hd) (by omega)
  omega
theorem GrI2.fin {ctx : Int} {a b : List ByteArray} {t : List Ch} {F I : Nat} {X : List Hk} {x y : Int} (h : GrI2 ctx a b t F I X x y) (hF : F < I) (hI : I ≤ t.length) (hc0 : 0 ≤ ctx) (hq : I = t.length ∨ ∃ c d, t[I - 1]? = some c ∧ t[I]? = some d ∧ ¬ d.a - (c.a + c.n) ≤ 2 * ctx) :
    (t.drop F).take (I - F) ≠ [] ∧ Hu.inc ((t.drop F).take (I - F)) (Hu.fromG ctx ((t.drop F).take (I - F))) (Hu.fromH ctx ((t.drop F).take (I - F))) a.length b.length ∧ 0 ≤ Hu.fromG ctx ((t.drop F).take (I - F)) ∧ 0 ≤ Hu.fromH ctx ((t.drop F).take (I - F)) ∧
    ∃ x' y', GrI2 ctx a b t I (I + 1) (X ++ [Hu.ofG ctx a b ((t.drop F).take (I - F))]) x' y' := by
  have hl : F < t.length := by omega
  have h1 := h.le hl
  have hne : t.drop F ≠ [] := by
    intro e
    have := congrArg List.length e
    rw [List.length_drop] at this
    simp at this
    omega
  have he : Hu.glen ctx (t.drop F) = I - F := Hu.glen_end ctx (t.drop F) (I - F) (by omega) (by omega) (by
    rcases hq with hq | ⟨c, d, q1, q2, q3⟩
    · exact .inl (by rw [List.length_drop]; omega)
    · exact .inr ⟨c, d, by rw [show I - F - 1 = (I - 1) - F by omega, drop_get (by omega)]; exact q1, by rw [drop_get (by omega)]; exact q2, by omega⟩)
  obtain ⟨g1, g2, g3, g4, x', y', g5⟩ := h.ahead.group hne hc0
  have hb := Hu.bld_step (ctx := ctx) (a := a) (b := b) hne
  rw [he] at g1 g2 g3 g4 g5 hb
  have e2 : (t.drop F).drop (I - F) = t.drop I := by rw [List.drop_drop]; congr 1; omega
  rw [e2] at g5 hb
  refine ⟨g1, g2, g3, g4, x', y', ⟨by rw [h.bld, hb]; simp, g5, fun hl2 => ?_, by rw [List.length_append, List.length_singleton]; have := h.xl; omega⟩⟩
  have := Hu.glen_pos ctx (t.drop I) (by
    intro e
    have := congrArg List.length e
    rw [List.length_drop] at this
    simp at this
    omega)
  omega
theorem GrI2.done {ctx : Int} {a b : List ByteArray} {t : List Ch} {F : Nat} {X : List Hk} {x y : Int} (h : GrI2 ctx a b t F (t.length + 1) X x y) (hF : F ≤ t.length) : Hu.bld ctx a b t = X := by
  have hFe : F = t.length := by
    rcases Nat.lt_or_ge F t.length with q | q
    · have := h.le q
      have := Hu.glen_le ctx (t.drop F)
      rw [List.length_drop] at this
      omega
    · omega
  rw [h.bld, hFe, List.drop_length]
  simp [Hu.bld, Hu.grp]
set_option maxHeartbeats 2500000 in
set_option maxRecDepth 100000 in
theorem rBuild_any {w : World} {v va vb : Value} {s : List Ch} {a b : List ByteArray} {ctx : Int} (hv : RdC w v s) (hwf : ∀ c ∈ s, WfC c) (hl : s.length ≤ 10000000000000) (ha : RdT w va a) (hb : RdT w vb b) (hla : a.length ≤ 140737488355328) (hlb : b.length ≤ 140737488355328) (hsa : ∀ x ∈ a, x.size ≤ maxLen) (hsb : ∀ x ∈ b, x.size ≤ maxLen) :
    Calls Tryz.prog 20 #[v, va, vb, .int .i64 ctx] w fun e w' => ∃ v', e = .returned (.tuple #[v', .int .i64 (bldN s a b ctx)]) ∧ OwnH w' w.heap.size v' (bldA s a b ctx) ∧ Below w.heap.size w w' := by
  have HLA := hid (fun w1 (h : Below w.heap.size w w1) => rLinesValid_any (ha.below h) hla hsa)
  have HLB := hid (fun w1 (h : Below w.heap.size w w1) => rLinesValid_any (hb.below h) hlb hsb)
  have HNO := hid (fun w1 (h : Below w.heap.size w w1) => refNormal_all (n := a.length) (m := b.length) (hv.below h) hwf hl)
  have HA := hid ha
  have HBb := hid hb
  have HSA := hid hsa
  have HSB := hid hsb
  obtain ⟨av, cv, rfl⟩ := hv.shape
  obtain ⟨aa, ca, rfl⟩ := ha.shape
  obtain ⟨ab, cb, rfl⟩ := hb.shape
  have HNN : Hid (bldN s a b ctx = if ctxOk ctx then (if Hu.valS a && Hu.valS b then (if Ed.validN s a.length b.length = 0 then (if Hu.endsP (Ed.normal s a.length b.length) a b then 0 else 61) else Ed.validN s a.length b.length) else 3) else 1) := hid rfl
  have HN0 : Hid (bldN s a b ctx ≠ 0 → bldA s a b ctx = []) := hid bldA_no
  have HN1 : Hid (bldN s a b ctx = 0 → bldA s a b ctx = Hu.bld ctx a b (Ed.normal s a.length b.length)) := hid (fun h => if_pos h)
  clear hv ha hb hsa hsb hwf hl
  have RET : Hid (∀ k : Nat, k ≠ 0 → bldN s a b ctx = k → ∀ w1, Below w.heap.size w w1 → ∃ v', Ending.returned (.tuple #[.slice none 0 0, .int .i64 (k : Int)]) = Ending.returned (.tuple #[v', .int .i64 (bldN s a b ctx)]) ∧ OwnH w1 w.heap.size v' (bldA s a b ctx) ∧ Below w.heap.size w w1) := hid (fun k hk he w1 hb => by
    refine ⟨_, by rw [he], ?_, hb⟩
    rw [HN0.out (by omega)]
    exact OwnH.nil _ _)
  by_cases hc : 0 ≤ ctx ∧ ctx ≤ 2147483647
  · obtain ⟨hc0, hc1⟩ := hc
    have hcc : ctxOk ctx = true := by unfold ctxOk; rw [decide_eq_true hc0, decide_eq_true hc1]; rfl
    cases hva : Hu.valS a with
    | false =>
      have HE : Hid (bldN s a b ctx = 3) := hid (by rw [HNN.out, hcc, hva]; rfl)
      rw [hva] at HLA
      clear hcc hva
      go_enter Tryz.func20, Tryz.ntmps20
      go_wp2_with fail
      refine (HLA.out _ (Below.refl _ _)).mono ?_
      rintro e w2 ⟨rfl, h2⟩
      rw [h2]
      clear h2
      go_wp2_with fail
      go_ret2
      exact RET.out 3 (by omega) HE.out _ (Below.refl _ _)
    | true =>
      rw [hva] at HLA
      cases hvb : Hu.valS b with
      | false =>
        have HE : Hid (bldN s a b ctx = 3) := hid (by rw [HNN.out, hcc, hva, hvb]; rfl)
        rw [hvb] at HLB
        clear hcc hva hvb
        go_enter Tryz.func20, Tryz.ntmps20
        go_wp2_with fail
        refine (HLA.out _ (Below.refl _ _)).mono ?_
        rintro e w2 ⟨rfl, h2⟩
        rw [h2]
        clear h2
        go_wp2_with fail
        refine (HLB.out _ (Below.refl _ _)).mono ?_
        rintro e w2 ⟨rfl, h2⟩
        rw [h2]
        clear h2
        go_wp2_with fail
        go_ret2
        exact RET.out 3 (by omega) HE.out _ (Below.refl _ _)
      | true =>
        rw [hvb] at HLB
        by_cases hk : Ed.validN s a.length b.length = 0
        · have hV0 := Ed.validN_zero.1 hk
          obtain ⟨hV, _⟩ := Ed.normal_Val hV0
          have hne : nrmA s a.length b.length = Ed.normal s a.length b.length := by unfold nrmA; rw [if_pos hk]
          rw [hk, hne] at HNO
          have HE0 : Hid (bldN s a b ctx = if Hu.endsP (Ed.normal s a.length b.length) a b then 0 else 61) := hid (by rw [HNN.out, hcc, hva, hvb, if_pos rfl, if_pos (show (true && true) = true from rfl), if_pos hk])
          have hn := Ed.cnt_iff.1 hV.1
          have hm := Ed.cnt_iff.1 hV.2.1
          have hla' : a.length ≤ 4194304 := by omega
          have hlb' : b.length ≤ 4194304 := by omega
          have htl := Val_len hV
          have HEA := hid (Hu.endsP_all ⟨s, hV0, rfl⟩ hva hvb)
          have HIN := hid (inC_of hV)
          have HAH := hid (Hu.Ahead.start (ctx := ctx) hV)
          have HWT : Hid (∀ c ∈ Ed.normal s a.length b.length, WfC c) := hid (fun c hc => by have := HIN.out c hc; unfold WfC I64; omega)
          have HPA := hid (fun w1 v1 (hr : RdC w1 v1 (Ed.normal s a.length b.length)) => refPairs_all (n := a.length) (m := b.length) hr HWT.out (by omega))
          have hvt : Ed.validN (Ed.normal s a.length b.length) a.length b.length = 0 := Ed.validN_zero.2 hV
          have hpe : prsA (Ed.normal s a.length b.length) a.length b.length = Ed.prs (Ed.normal s a.length b.length) a.length 0 0 := by unfold prsA; rw [if_pos hvt]
          rw [hpe, hvt] at HPA
          have HPI : Hid (∀ p ∈ Ed.prs (Ed.normal s a.length b.length) a.length 0 0, 0 ≤ p.1 ∧ p.1 < a.length ∧ 0 ≤ p.2 ∧ p.2 < b.length) := hid (fun p hp => by
            have := (Ed.rise_iff.1 hV.rise).2 p hp
            unfold Ed.inB at this
            omega)
          have hpl := rise_len hV.rise (by omega)
          generalize Ed.prs (Ed.normal s a.length b.length) a.length 0 0 = PS at HPA HEA HPI hpl
          generalize Ed.normal s a.length b.length = t at HNO HE0 HEA HIN HAH HN1 htl HPA HWT
          clear hV0 hV hne hn hm hla hlb hk HNN hcc hva hvb hvt hpe
          have i9 : IntKind.i64.wrap (2 * ctx) = 2 * ctx := wrapOk (by omega) (by omega)
          go_enter Tryz.func20, Tryz.ntmps20
          go_wp2_with fail
          refine (HLA.out _ (Below.refl _ _)).mono ?_
          rintro e w2 ⟨rfl, h2⟩
          rw [h2]
          clear h2
          go_wp2_with fail
          refine (HLB.out _ (Below.refl _ _)).mono ?_
          rintro e w2 ⟨rfl, h2⟩
          rw [h2]
          clear h2
          go_wp2_with fail
          refine (HNO.out _ (Below.refl _ _)).mono ?_
          rintro e w3 ⟨v3, rfl, hO3, hb3⟩
          obtain ⟨a3, c3, rfl⟩ := own_shape hO3
          have HT3 := hid (own_rd hO3)
          have HB3 := hid hb3
          clear hO3 hb3 HLA HLB HNO
          go_wp2_with fail
          refine (HPA.out _ _ HT3.out).mono ?_
          rintro e w4 ⟨v4, rfl, hO4, hb4⟩
          obtain ⟨a4, c4, rfl⟩ := own_shape hO4
          have HP4 := hid (own_rd hO4)
          have HB4 := hid (HB3.out.trans (hb4.mono HB3.out.size))
          have HT4 := hid (HT3.out.below hb4)
          clear hO4 hb4 HPA HB3 HT3
          obtain ⟨PN, hPN⟩ : ∃ PN, PN = PS.length := ⟨_, rfl⟩
          have HPN := hid hPN
          have HP5 := HP4
          rw [← hPN] at HP4 hpl ⊢
          clear hPN
          go_wp2_with fail
          go_loopw [14] (fun ii wr => ∃ (k : Nat), k ≤ PN ∧ ii = .int .i64 k ∧ Hid ((PS.take k).all (Hu.eqW a b) = true) ∧ Hid (Below w4.heap.size w4 wr)) (fun ii _ => PN - (intOf ii).toNat)
          case atStart => exact ⟨0, Nat.zero_le _, rfl, hid rfl, Below.refl _ _⟩
          case round =>
            obtain ⟨k, hk, rfl, HK, HB⟩ := hrel
            by_cases hlt : k < PN
            · obtain ⟨p, hp⟩ : ∃ p, PS[k]? = some p := ⟨_, List.getElem?_eq_getElem (by have := HPN.out; omega)⟩
              obtain ⟨p1, p2, p3, p4⟩ := HPI.out p (List.mem_of_getElem? hp)
              obtain ⟨b1, o1, e1, hb1, d0, d1⟩ := rdP_at HP5.out hp
              subst e1
              replace d0 := (HB.out.cell (p := ⟨b1, _, none⟩) hb1).trans d0
              replace d1 := (HB.out.cell (p := ⟨b1, _, none⟩) hb1).trans d1
              obtain ⟨pa, pb⟩ := p
              dsimp only at p1 p2 p3 p4 d0 d1
              obtain ⟨PA, rfl⟩ := Int.eq_ofNat_of_zero_le p1
              obtain ⟨PB, rfl⟩ := Int.eq_ofNat_of_zero_le p3
              obtain ⟨x, hx, gx, mx⟩ := getD_mem (l := a) (k := PA) (by omega)
              obtain ⟨y, hy, gy, my⟩ := getD_mem (l := b) (k := PB) (by omega)
              have HBW := hid (HB4.out.trans (HB.out.mono HB4.out.size))
              obtain ⟨ba, oa, ea, _, f0⟩ := rdT_at (HA.out.below HBW.out) hx
              obtain ⟨bb, ob, eb, _, f1⟩ := rdT_at (HBb.out.below HBW.out) hy
              subst ea eb
              have HQ : Hid (Hu.eqW a b ((PA : Int), (PB : Int)) = (Hu.whT x == Hu.whT y)) := hid (by
                show (Hu.whT (a.getD (Int.toNat PA) .empty) == Hu.whT (b.getD (Int.toNat PB) .empty)) = _
                rw [Int.toNat_natCast, Int.toNat_natCast, gx, gy])
              have HT1 := hid (all_take (f := Hu.eqW a b) hp)
              have HC1 := hid (fun w1 => rWhole_any2 x w1 (HSA.out x mx))
              have HC2 := hid (fun w1 => rWhole_any2 y w1 (HSB.out y my))
              have HPM := hid (List.mem_of_getElem? hp)
              have i1 : (0 : Int) ≤ (k : Int) := by omega
              have i2 : (k : Int) < (PN : Int) := by omega
              clear hx hy gx gy mx my hp hb1
              cases hwx : Hu.whT x <;> cases hwy : Hu.whT y <;> rw [hwx] at HC1 HQ <;> rw [hwy] at HC2 HQ <;> clear hwx hwy
              · go_wp2_with fail
                go_quiet ((go_at_call 55; first | with_reducible exact Calls.quiet_of_same (HC1.out _) | with_reducible exact Calls.quiet_of_same (HC2.out _)))
                go_wp2_with fail
                go_roundw
                case rel => exact ⟨k + 1, by omega, by go_num, hid (by rw [HT1.out, HK.out, HQ.out]; rfl), hid (below_drewN HB.out _)⟩
                case measure => simp [intOf]; omega
              · go_wp2_with fail
                go_quiet ((go_at_call 55; first | with_reducible exact Calls.quiet_of_same (HC1.out _) | with_reducible exact Calls.quiet_of_same (HC2.out _)))
                go_wp2_with fail
                have HEF : Hid (bldN s a b ctx = 61) := hid (by
                  have : PS.all (Hu.eqW a b) = false := by
                    cases hq : PS.all (Hu.eqW a b) with
                    | false => rfl
                    | true =>
                      have := List.all_eq_true.1 hq _ HPM.out
                      rw [HQ.out] at this
                      cases this
                  rw [HE0.out, HEA.out, this]
                  rfl)
                go_ret2
                exact RET.out 61 (by omega) HEF.out _ (below_drewN HBW.out _)
              · go_wp2_with fail
                go_quiet ((go_at_call 55; first | with_reducible exact Calls.quiet_of_same (HC1.out _) | with_reducible exact Calls.quiet_of_same (HC2.out _)))
                go_wp2_with fail
                have HEF : Hid (bldN s a b ctx = 61) := hid (by
                  have : PS.all (Hu.eqW a b) = false := by
                    cases hq : PS.all (Hu.eqW a b) with
                    | false => rfl
                    | true =>
                      have := List.all_eq_true.1 hq _ HPM.out
                      rw [HQ.out] at this
                      cases this
                  rw [HE0.out, HEA.out, this]
                  rfl)
                go_ret2
                exact RET.out 61 (by omega) HEF.out _ (below_drewN HBW.out _)
              · go_wp2_with fail
                go_quiet ((go_at_call 55; first | with_reducible exact Calls.quiet_of_same (HC1.out _) | with_reducible exact Calls.quiet_of_same (HC2.out _)))
                go_wp2_with fail
                go_roundw
                case rel => exact ⟨k + 1, by omega, by go_num, hid (by rw [HT1.out, HK.out, HQ.out]; rfl), hid (below_drewN HB.out _)⟩
                case measure => simp [intOf]; omega
            · obtain rfl : k = PN := by omega
              have HAll : Hid (PS.all (Hu.eqW a b) = true) := hid (by have := HK.out; rwa [List.take_of_length_le (by have := HPN.out; omega)] at this)
              have HE : Hid (bldN s a b ctx = 0) := hid (by rw [HE0.out, HEA.out, HAll.out]; rfl)
              have HBA := hid (HN1.out HE.out)
              have HB5 := hid (HB4.out.trans (HB.out.mono HB4.out.size))
              have HT5 := hid (HT4.out.below HB.out)
              have HU5 := hid HT5.out.under
              have HG0 : Hid (GrI2 ctx a b t 0 1 [] 0 0) := hid ⟨rfl, HAH.out, fun h => by
                have := Hu.glen_pos ctx (t.drop 0) (by intro e; rw [List.drop_zero] at e; rw [e] at h; simp at h)
                omega, by simp⟩
              clear RET HE0 HN0 HN1 HEA HK HAll HP4 HP5 HPI HT4 hpl HAH HB
              obtain ⟨w5, hw5⟩ : ∃ w5, w5 = wr := ⟨_, rfl⟩
              subst hw5
              obtain ⟨TL, hTL⟩ : ∃ TL, TL = t.length := ⟨_, rfl⟩
              have HTL := hid hTL
              have HT6 := HT5
              rw [← hTL] at HT5 htl ⊢
              clear hTL
              go_wp2_with fail
              go_loopw [15, 16, 17] (fun vo ff ii wr => ∃ (F I : Nat) (X : List Hk) (x y : Int), F < I ∧ I ≤ TL + 1 ∧ F ≤ TL ∧ ff = .int .i64 F ∧ ii = .int .i64 I ∧ Hid (GrI2 ctx a b t F I X x y) ∧ Hid (OwnH wr w5.heap.size vo X) ∧ Hid (Below w5.heap.size w5 wr)) (fun _ _ ii _ => TL + 1 - (intOf ii).toNat)
              case atStart => exact ⟨0, 1, [], 0, 0, by omega, by omega, by omega, rfl, rfl, HG0, OwnH.nil _ _, Below.refl _ _⟩
              case round =>
                obtain ⟨F, I, X, x, y, hFI, hI, hF, rfl, rfl, HG, HO, HB⟩ := hrel
                obtain ⟨ao, co, rfl⟩ := HO.out.shape
                by_cases hlt : I ≤ TL
                · have i2 : (I : Int) ≤ (TL : Int) := by omega
                  have hXl : X.length < 1954687338260 := by have := HG.out.xl; omega
                  rcases Nat.eq_or_lt_of_le hlt with hEq | hLt
                  · have QQ : I = t.length ∨ ∃ c d, t[I - 1]? = some c ∧ t[I]? = some d ∧ ¬ d.a - (c.a + c.n) ≤ 2 * ctx := .inl (by have := HTL.out; omega)
                    have HSL := hid (rdC_sliced (HT6.out.below HB.out) (x := F) (y := I) (by omega) (by have := HTL.out; omega))
                    rw [if_neg (show ¬ c3 = F by have := rd_cap HT5.out; omega)] at HSL
                    obtain ⟨A', hA'⟩ : ∃ A', Option.map (fun x : Addr => x.add (F * 4)) a3 = A' := ⟨_, rfl⟩
                    rw [hA'] at HSL
                    obtain ⟨g1, g2, g3, g4, x', y', g5⟩ := HG.out.fin hFI (by have := HTL.out; omega) hc0 QQ
                    have HBW := hid (HB5.out.trans (HB.out.mono HB5.out.size))
                    have HOG := hid (fun w6 (hb6 : Below wr.heap.size wr w6) => rOne_any (ctx := ctx) (HSL.out.below hb6) ((HA.out.below HBW.out).below hb6) ((HBb.out.below HBW.out).below hb6) g1 g2 g3 g4 hc0 hc1 hla' hlb' (by rw [List.length_take]; omega))
                    have HG2 := hid g5
                    generalize Hu.ofG ctx a b ((t.drop F).take (I - F)) = K at HOG HG2
                    have hcap := rd_cap HT5.out
                    have u1 : (0 : Int) ≤ (F : Int) := by omega
                    have u2 : (F : Int) ≤ (I : Int) := by omega
                    have u3 : (I : Int) ≤ (c3 : Int) := by omega
                    have u4 : (F : Int) ≤ (c3 : Int) := by omega
                    clear g1 g2 g3 g4 g5 HSL HG
                    have z1 : ((I : Int) == (TL : Int)) = true := by rw [hEq]; exact zeq rfl
                    clear hEq QQ
                    go_wp2_with fail
                    go_quiet (fail)
                    have HN7 := hid (below_drewN (Below.refl wr.heap.size wr) nq)
                    have HO7 := hid (HO.out.stays HN7.out)
                    have HB7 := hid (HB.out.trans (HN7.out.mono HB.out.size))
                    have HP7 := hid (HOG.out _ HN7.out)
                    generalize wr.drewN nq = w7 at HO7 HB7 HP7 ⊢
                    clear HN7 HOG HO HB
                    go_wp2_with fail
                    refine HP7.out.mono ?_
                    rintro e w6 ⟨v6, rfl, hO6, hb6⟩
                    obtain ⟨a6, c6, e6⟩ := own_shape hO6
                    subst e6
                    have HR6 := hid hO6
                    have HB6 := hid (HB7.out.trans (hb6.mono HB7.out.size))
                    have HO6 := hid (HO7.out.stays hb6)
                    have HS6 : Hid (w5.heap.size ≤ w7.heap.size) := hid HB7.out.size
                    clear hO6 hb6 HP7 HO7
                    obtain ⟨ka, kn, kb, km, kh, kr⟩ := K
                    unfold HkV
                    dsimp only at HR6 ⊢
                    have hbn := (Below.refl w6.heap.size w6).alloc (Nat.le_refl _) (.cells #[.int .i64 ka, .int .i64 kn, .int .i64 kb, .int .i64 km, .string kh, .slice a6 kr.length c6] 29)
                    have HO8 := hid (HO6.out.stays hbn)
                    have HR8 := hid (own_mono (own_stays HR6.out hbn) HS6.out)
                    have HB8 := hid (HB6.out.trans (hbn.mono HB6.out.size))
                    clear hbn
                    go_wp2_with (at_builtin; refine wpList_append_hk rfl _ _ rfl w5.heap.size _ X rfl HO8.out w6.heap.size ⟨ka, kn, kb, km, kh, kr⟩ (.slice a6 kr.length c6) rfl (heap_alloc_new w6 _) HR8.out hXl HB8.out.size ?_; intro v9 w9 hO9 hb9; have HO9 := hid hO9; have HB9 := hid (HB8.out.trans hb9); clear hO9 hb9)
                    go_roundw
                    case rel => exact ⟨I, I + 1, X ++ [⟨ka, kn, kb, km, kh, kr⟩], x', y', by omega, by omega, by omega, rfl, by go_num, HG2, HO9, HB9⟩
                    case measure => simp [intOf]; omega
                  · obtain ⟨c, hc⟩ : ∃ c, t[I - 1]? = some c := ⟨_, List.getElem?_eq_getElem (by have := HTL.out; omega)⟩
                    obtain ⟨d, hd⟩ : ∃ d, t[I]? = some d := ⟨_, List.getElem?_eq_getElem (by have := HTL.out; omega)⟩
                    obtain ⟨p1, p2, p3, _, _, _⟩ := HIN.out c (List.mem_of_getElem? hc)
                    obtain ⟨r1, r2, r3, _, _, _⟩ := HIN.out d (List.mem_of_getElem? hd)
                    obtain ⟨bq, oq, e9, _, c0', c1', _, _⟩ := rdC_at (HT6.out.below HB.out) hc
                    subst e9
                    obtain ⟨b2, o2, e, _, d0', _, _, _⟩ := rdC_at (HT6.out.below HB.out) hd
                    cases e
                    obtain ⟨J, hJ⟩ : ∃ J, J = I - 1 := ⟨_, rfl⟩
                    rw [← hJ] at c0' c1'
                    have i1 : IntKind.i64.wrap ((I : Int) - 1) = (J : Int) := (wrapOk (by omega) (by omega)).trans (by omega)
                    obtain ⟨CE, hCE⟩ : ∃ CE : Int, CE = c.a + c.n := ⟨_, rfl⟩
                    have i3 : IntKind.i64.wrap (c.a + c.n) = CE := (wrapOk (by omega) (by omega)).trans hCE.symm
                    obtain ⟨GA, hGA⟩ : ∃ GA : Int, GA = d.a - CE := ⟨_, rfl⟩
                    have i4 : IntKind.i64.wrap (d.a - CE) = GA := (wrapOk (by omega) (by omega)).trans hGA.symm
                    have j1 : (0 : Int) ≤ (I : Int) := by omega
                    have j2 : (I : Int) < (TL : Int) := by omega
                    have j3 : (0 : Int) ≤ (J : Int) := by omega
                    have j4 : (J : Int) < (TL : Int) := by omega
                    have z1 : ((I : Int) == (TL : Int)) = false := ine (by omega)
                    by_cases hg : GA ≤ 2 * ctx
                    · have HG2 := hid (HG.out.more hFI hc hd (by omega))
                      have hg' : ¬ (2 * ctx < GA) := by omega
                      clear hc hd hJ hCE hGA HG
                      go_wp2_with fail
                      go_quiet (fail)
                      go_wp2_with fail
                      go_roundw
                      case rel => exact ⟨F, I + 1, X, x, y, by omega, by omega, by omega, rfl, by go_num, HG2, hid (HO.out.stays (below_drewN (Below.refl _ _) _)), hid (below_drewN HB.out _)⟩
                      case measure => simp [intOf]; omega
                    · have hg' : 2 * ctx < GA := by omega
                      have QQ : I = t.length ∨ ∃ c d, t[I - 1]? = some c ∧ t[I]? = some d ∧ ¬ d.a - (c.a + c.n) ≤ 2 * ctx := .inr ⟨c, d, hc, hd, by omega⟩
                      have HSL := hid (rdC_sliced (HT6.out.below HB.out) (x := F) (y := I) (by omega) (by have := HTL.out; omega))
                      rw [if_neg (show ¬ c3 = F by have := rd_cap HT5.out; omega), Option.map_some, Go.WideShapes.add_plain] at HSL
                      obtain ⟨g1, g2, g3, g4, x', y', g5⟩ := HG.out.fin hFI (by have := HTL.out; omega) hc0 QQ
                      have HBW := hid (HB5.out.trans (HB.out.mono HB5.out.size))
                      have HOG := hid (fun w6 (hb6 : Below wr.heap.size wr w6) => rOne_any (ctx := ctx) (HSL.out.below hb6) ((HA.out.below HBW.out).below hb6) ((HBb.out.below HBW.out).below hb6) g1 g2 g3 g4 hc0 hc1 hla' hlb' (by rw [List.length_take]; omega))
                      have HG2 := hid g5
                      generalize Hu.ofG ctx a b ((t.drop F).take (I - F)) = K at HOG HG2
                      have hcap := rd_cap HT5.out
                      have u1 : (0 : Int) ≤ (F : Int) := by omega
                      have u2 : (F : Int) ≤ (I : Int) := by omega
                      have u3 : (I : Int) ≤ (c3 : Int) := by omega
                      have u4 : (F : Int) ≤ (c3 : Int) := by omega
                      clear g1 g2 g3 g4 g5 HSL HG
                      clear QQ hc hd hJ hCE hGA
                      go_wp2_with fail
                      go_quiet (fail)
                      have HN7 := hid (below_drewN (Below.refl wr.heap.size wr) nq)
                      have HO7 := hid (HO.out.stays HN7.out)
                      have HB7 := hid (HB.out.trans (HN7.out.mono HB.out.size))
                      have HP7 := hid (HOG.out _ HN7.out)
                      generalize wr.drewN nq = w7 at HO7 HB7 HP7 ⊢
                      clear HN7 HOG HO HB
                      go_wp2_with fail
                      refine HP7.out.mono ?_
                      rintro e w6 ⟨v6, rfl, hO6, hb6⟩
                      obtain ⟨a6, c6, e6⟩ := own_shape hO6
                      subst e6
                      have HR6 := hid hO6
                      have HB6 := hid (HB7.out.trans (hb6.mono HB7.out.size))
                      have HO6 := hid (HO7.out.stays hb6)
                      have HS6 : Hid (w5.heap.size ≤ w7.heap.size) := hid HB7.out.size
                      clear hO6 hb6 HP7 HO7
                      obtain ⟨ka, kn, kb, km, kh, kr⟩ := K
                      unfold HkV
                      dsimp only at HR6 ⊢
                      have hbn := (Below.refl w6.heap.size w6).alloc (Nat.le_refl _) (.cells #[.int .i64 ka, .int .i64 kn, .int .i64 kb, .int .i64 km, .string kh, .slice a6 kr.length c6] 29)
                      have HO8 := hid (HO6.out.stays hbn)
                      have HR8 := hid (own_mono (own_stays HR6.out hbn) HS6.out)
                      have HB8 := hid (HB6.out.trans (hbn.mono HB6.out.size))
                      clear hbn
                      go_wp2_with (at_builtin; refine wpList_append_hk rfl _ _ rfl w5.heap.size _ X rfl HO8.out w6.heap.size ⟨ka, kn, kb, km, kh, kr⟩ (.slice a6 kr.length c6) rfl (heap_alloc_new w6 _) HR8.out hXl HB8.out.size ?_; intro v9 w9 hO9 hb9; have HO9 := hid hO9; have HB9 := hid (HB8.out.trans hb9); clear hO9 hb9)
                      go_roundw
                      case rel => exact ⟨I, I + 1, X ++ [⟨ka, kn, kb, km, kh, kr⟩], x', y', by omega, by omega, by omega, rfl, by go_num, HG2, HO9, HB9⟩
                      case measure => simp [intOf]; omega
                · obtain rfl : I = TL + 1 := by omega
                  have i2 : ¬ ((TL : Int) + 1 ≤ (TL : Int)) := by omega
                  have HF : Hid (OwnH wr w.heap.size (.slice ao X.length co) (bldA s a b ctx)) := hid (by
                    rw [HBA.out, GrI2.done (HTL.out ▸ HG.out) (by have := HTL.out; omega)]
                    exact HO.out.mono HB5.out.size)
                  have HBF := hid (HB5.out.trans (HB.out.mono HB5.out.size))
                  clear HO HG
                  push_cast
                  go_wp2_with fail
                  go_ret2
                  exact ⟨_, by rw [HE.out]; rfl, HF.out, HBF.out⟩
        · have HE : Hid (bldN s a b ctx = Ed.validN s a.length b.length) := hid (by rw [HNN.out, hcc, hva, hvb, if_pos rfl, if_pos (show (true && true) = true from rfl), if_neg hk])
          have HKN : Hid (Ed.validN s a.length b.length ≠ 0) := hid hk
          generalize Ed.validN s a.length b.length = K at HNO HE HKN
          have hz : ((K : Int) == 0) = false := ine (by have := HKN.out; omega)
          clear hk HNN hcc hva hvb
          go_enter Tryz.func20, Tryz.ntmps20
          go_wp2_with fail
          refine (HLA.out _ (Below.refl _ _)).mono ?_
          rintro e w2 ⟨rfl, h2⟩
          rw [h2]
          clear h2
          go_wp2_with fail
          refine (HLB.out _ (Below.refl _ _)).mono ?_
          rintro e w2 ⟨rfl, h2⟩
          rw [h2]
          clear h2
          go_wp2_with fail
          refine (HNO.out _ (Below.refl _ _)).mono ?_
          rintro e w3 ⟨v3, rfl, hO3, hb3⟩
          have HB3 := hid hb3
          clear hO3 hb3
          go_wp2_with fail
          go_ret2
          exact RET.out K HKN.out HE.out _ HB3.out
  · have HE : Hid (bldN s a b ctx = 1) := hid (by
      rw [HNN.out]
      have : ctxOk ctx = false := by
        unfold ctxOk
        rcases Int.lt_or_le ctx 0 with h | h
        · rw [decide_eq_false (by omega)]; rfl
        · rw [decide_eq_false (p := ctx ≤ 2147483647) (by omega)]; simp
      rw [this]
      rfl)
    by_cases h0 : ctx < 0
    · clear hc HNN
      go_enter Tryz.func20, Tryz.ntmps20
      go_wp2_with fail
      go_ret2
      exact RET.out 1 (by omega) HE.out _ (Below.refl _ _)
    · have h1 : 2147483647 < ctx := by omega
      clear hc HNN
      go_enter Tryz.func20, Tryz.ntmps20
      go_wp2_with fail
      go_ret2
      exact RET.out 1 (by omega) HE.out _ (Below.refl _ _)
end Go.Proofs.YtnamioihapnefaaGreatDoor
