/-
  More context: the document's Wide for every input (wip/genod.py).
-/
import Derived.Test.YtddmfdjkkikapaaGreatDoorOa
import Derived.Test.YtddmfdjkkikapaaGreatDoorOb
import Derived.Test.YtddmfdjkkikapaaGreatDoorOc
namespace Go.Proofs.YtddmfdjkkikapaaGreatDoor
open Go.RowKit
open Hu (Rw Hk)

theorem stB_std {a o f : List ByteArray} {P : Nat} : Hu.stB a o f (P : Int) = (stdB a o P && !(Hu.lack f && decide (P + o.length < a.length))) := by
  unfold Hu.stB stdB Hu.sl
  rw [Int.toNat_natCast, show ((P : Int) + (o.length : Int) - (P : Int)).toNat = o.length by omega]
  have e1 : decide ((P : Int) + (o.length : Int) ≤ (a.length : Int)) = decide (P + o.length ≤ a.length) := by rw [decide_eq_decide]; omega
  have e2 : decide ((P : Int) + (o.length : Int) < (a.length : Int)) = decide (P + o.length < a.length) := by rw [decide_eq_decide]; omega
  rw [e1, e2]
  generalize decide (P + o.length ≤ a.length) = b1
  generalize decide (P + o.length < a.length) = b2
  generalize decide (List.take o.length (List.drop P a) = o) = b3
  generalize Hu.lack f = b4
  cases b1 <;> cases b2 <;> cases b3 <;> cases b4 <;> rfl
theorem wide_low {h : Hk} {a : List ByteArray} {ctx : Int} (hP : (Hu.plc h.a h.n).toNat ≤ a.length) (hq : Hu.plc h.b h.m < (Hu.wBf h.rows ctx (Hu.plc h.a h.n).toNat : Int)) (hq0 : 0 ≤ Hu.plc h.b h.m) : Hu.vld (Hu.wideH h a ctx) = false := by
  cases hv : Hu.vld (Hu.wideH h a ctx) with
  | false => rfl
  | true =>
    obtain ⟨_, _, _, _, _, p5, p6, _⟩ := Hu.vld_parts hv
    exfalso
    have hle : Hu.wBf h.rows ctx (Hu.plc h.a h.n).toNat ≤ (Hu.plc h.a h.n).toNat := Nat.min_le_right _ _
    obtain ⟨BF, hBF⟩ : ∃ BF, BF = Hu.wBf h.rows ctx (Hu.plc h.a h.n).toNat := ⟨_, rfl⟩
    obtain ⟨P, hPP⟩ : ∃ P, P = (Hu.plc h.a h.n).toNat := ⟨_, rfl⟩
    have e1 : (Hu.wideH h a ctx).b = Hu.told (Hu.plc h.b h.m - (BF : Int)) (Hu.fres (Hu.wideH h a ctx).rows).length := by rw [hBF]; rfl
    have e2 : 0 < (Hu.fres (Hu.wideH h a ctx).rows).length := by
      show 0 < (Hu.fres (Hu.wRows a h.rows ctx (Hu.plc h.a h.n).toNat (Hu.olds h.rows).length)).length
      unfold Hu.wRows
      rw [Hu.fres_app, Hu.fres_app, Hu.fres_mk1, List.length_append, List.length_append, List.length_take, List.length_drop, ← hBF, ← hPP]
      rw [← hBF, ← hPP] at hle
      rw [← hBF] at hq
      rw [← hPP] at hP
      omega
    rw [e1] at p6
    rw [← hBF] at hq
    unfold Hu.told at p6
    rw [if_pos e2] at p6
    omega
theorem rWide_any {w : World} {h : Hk} {v va : Value} {a : List ByteArray} {ctx : Int} (hv : RdW w v h.rows) (ha : RdT w va a) (hz : SzH h) (hla : a.length < 8796093022200) (hsa : ∀ x ∈ a, x.size ≤ maxLen) :
    Calls Tryz.prog 17 #[HkV h v, va, .int .i64 ctx] w fun e w' => ∃ v', e = .returned (.tuple #[HkV (wideA h a ctx) v', .int .i64 (wideN h a ctx : Nat)]) ∧ OwnW w' w.heap.size v' (wideA h a ctx).rows ∧ Below w.heap.size w w' := by
  cases hc : ctxOk ctx with
  | false =>
    have e1 : wideN h a ctx = 1 := by unfold wideN; rw [hc]; rfl
    unfold wideA
    rw [e1]
    by_cases h0 : ctx < 0
    · exact rwide_1a hv ha hz hla hsa h0
    · refine rwide_1b hv ha hz hla hsa h0 ?_
      unfold ctxOk at hc
      simp only [Bool.and_eq_false_iff, decide_eq_false_iff_not] at hc
      omega
  | true =>
    have hc2 : 0 ≤ ctx ∧ ctx ≤ 2147483647 := by unfold ctxOk at hc; simpa using hc
    cases hvl : Hu.vld h with
    | false => have e1 : wideN h a ctx = 100 := by unfold wideN; rw [hc, hvl]; rfl
               unfold wideA; rw [e1]; exact rwide_2 hv ha hz hla hsa hc2 hvl
    | true =>
      cases hvs : Hu.valS a with
      | false => have e1 : wideN h a ctx = 3 := by unfold wideN; rw [hc, hvl, hvs]; rfl
                 unfold wideA; rw [e1]; exact rwide_3 hv ha hz hla hsa hc2 hvl hvs
      | true =>
        obtain ⟨hp0, _, hq0, _⟩ := (vld_small hvl).2.2
        have hPP : ((Hu.plc h.a h.n).toNat : Int) = Hu.plc h.a h.n := by omega
        have hstd := stB_std (a := a) (o := Hu.olds h.rows) (f := Hu.fres h.rows) (P := (Hu.plc h.a h.n).toNat)
        rw [hPP] at hstd
        cases hst : stdB a (Hu.olds h.rows) (Hu.plc h.a h.n).toNat with
        | false =>
          rw [hst, Bool.false_and] at hstd
          have e1 : wideN h a ctx = 61 := by unfold wideN; rw [hc, hvl, hvs, hstd]; rfl
          unfold wideA; rw [e1]; exact rwide_4a hv ha hz hla hsa hc2 hvl hvs hst
        | true =>
          have hfit : (Hu.plc h.a h.n).toNat ≤ a.length := by unfold stdB at hst; simp only [Bool.and_eq_true, decide_eq_true_eq] at hst; omega
          rw [hst, Bool.true_and] at hstd
          cases hov : Hu.lack (Hu.fres h.rows) with
          | true =>
            by_cases hq4 : (Hu.plc h.a h.n).toNat + (Hu.olds h.rows).length < a.length
            · rw [hov, decide_eq_true hq4] at hstd
              have e1 : wideN h a ctx = 61 := by unfold wideN; rw [hc, hvl, hvs, hstd]; rfl
              unfold wideA; rw [e1]; exact rwide_4b hv ha hz hla hsa hc2 hvl hvs hst hov hq4
            · rw [hov, decide_eq_false hq4] at hstd
              by_cases hq : Hu.plc h.b h.m < (Hu.wBf h.rows ctx (Hu.plc h.a h.n).toNat : Int)
              · have e1 : wideN h a ctx = 100 := by unfold wideN; rw [hc, hvl, hvs, hstd, wide_low hfit hq hq0]; rfl
                unfold wideA; rw [e1]; exact rwide_5t hv ha hz hla hsa hc2 hvl hvs hst hov hq4 hq
              · cases hvw : Hu.vld (Hu.wideH h a ctx) with
                | false => have e1 : wideN h a ctx = 100 := by unfold wideN; rw [hc, hvl, hvs, hstd, hvw]; rfl
                           unfold wideA; rw [e1]; exact rwide_6t hv ha hz hla hsa hc2 hvl hvs hst hov hq4 hq hvw
                | true => have e1 : wideN h a ctx = 0 := by unfold wideN; rw [hc, hvl, hvs, hstd, hvw]; rfl
                          unfold wideA; rw [e1]; exact rwide_7t hv ha hz hla hsa hc2 hvl hvs hst hov hq4 hq hvw
          | false =>
            rw [hov] at hstd
            by_cases hq : Hu.plc h.b h.m < (Hu.wBf h.rows ctx (Hu.plc h.a h.n).toNat : Int)
            · have e1 : wideN h a ctx = 100 := by unfold wideN; rw [hc, hvl, hvs, hstd, wide_low hfit hq hq0]; rfl
              unfold wideA; rw [e1]; exact rwide_5f hv ha hz hla hsa hc2 hvl hvs hst hov hq
            · cases hvw : Hu.vld (Hu.wideH h a ctx) with
              | false => have e1 : wideN h a ctx = 100 := by unfold wideN; rw [hc, hvl, hvs, hstd, hvw]; rfl
                         unfold wideA; rw [e1]; exact rwide_6f hv ha hz hla hsa hc2 hvl hvs hst hov hq hvw
              | true => have e1 : wideN h a ctx = 0 := by unfold wideN; rw [hc, hvl, hvs, hstd, hvw]; rfl
                        unfold wideA; rw [e1]; exact rwide_7f hv ha hz hla hsa hc2 hvl hvs hst hov hq hvw
end Go.Proofs.YtddmfdjkkikapaaGreatDoor
