/-
  The document's Print with its errors (layer 15).
-/
import Derived.Test.YtjgjfnmljmmplaaDoorSs
namespace Go.Proofs.YtjgjfnmljmmplaaDoor
namespace Sy
open Go.RowKit
open Ed (Ch)

set_option maxHeartbeats 4000000 in
set_option maxRecDepth 100000 in
theorem refPrint_all {vs va vb : Value} {s : List Ch} {A M : List ByteArray} {w : World} {wd : Int} (hs : RdC w vs s) (hwf : ∀ c ∈ s, WfC c) (hl : s.length ≤ 1048576) (ha : RdT w va A) (hb : RdT w vb M) (hxa : ∀ x ∈ A, x.size ≤ 1099511627776) (hxm : ∀ x ∈ M, x.size ≤ 1099511627776) (hla : A.length ≤ 140737488355328) (hlb : M.length ≤ 140737488355328) :
    Calls Tryd.prog 7 #[vs, va, vb, .int .i64 wd] w fun e w' => e = .returned (.tuple #[.string (sdT s A M wd), Value.int .i64 (sdE s A M wd : Nat)]) ∧ Below w.heap.size w w' := by
  by_cases h0 : sdE s A M wd = 0
  · obtain ⟨h1, h2, h3, h4⟩ := sd_zero h0
    have e1 : sdT s A M wd = bB (prT (colH wd) (colS wd) A M (Ed.normal s A.length M.length) 0 0) := by unfold sdT; rw [if_pos h0]
    rw [e1, h0]
    exact refPrint_ok hs hwf hl (Ed.validN_zero.1 h2) ha hb hxa hxm h3 h4 h1
  · have e1 : sdT s A M wd = ⟨#[]⟩ := by unfold sdT; rw [if_neg h0]
    rw [e1]
    have HCL := hid (fun w1 => refCols_any wd w1)
    have HN := hid (fun w1 (h1 : Below w.heap.size w w1) => refNormal_all (n := A.length) (m := M.length) (hs.below h1) hwf (by omega))
    have HVA := hid (fun w1 (h1 : Below w.heap.size w w1) => refValid_rd (ha.below h1) hla hxa)
    have HVM := hid (fun w1 (h1 : Below w.heap.size w w1) => refValid_rd (hb.below h1) hlb hxm)
    have hee : sdE s A M wd = if colE wd = 0 then (if Ed.validN s A.length M.length = 0 then (if (Pl.valid (Cx.DL A) && Pl.valid (Cx.DL M)) = true then 0 else 130) else Ed.validN s A.length M.length) else 1 := rfl
    obtain ⟨s0, c0, rfl⟩ := hs.shape
    obtain ⟨aa, ca, rfl⟩ := ha.shape
    obtain ⟨ab, cb, rfl⟩ := hb.shape
    generalize sdE s A M wd = f at h0 hee ⊢
    generalize nrmA s A.length M.length = S at HN
    generalize Ed.validN s A.length M.length = k at HN hee
    generalize A.length = n at HN HVA ⊢
    generalize M.length = m at HN HVM ⊢
    generalize colH wd = half at HCL
    generalize colS wd = sec at HCL
    have hf0 : ¬ ((f : Nat) : Int) = 0 := by omega
    clear hs hwf hl ha hb hxa hxm hla hlb e1
    rcases colE_or wd with hc | hc
    · rw [hc] at HCL
      rw [if_pos hc] at hee
      by_cases hk : k = 0
      · rw [if_pos hk] at hee
        rw [hk] at HN
        cases hva : Pl.valid (Cx.DL A) with
        | false =>
          rw [hva] at HVA hee
          have hf : f = 130 := by rw [hee]; rfl
          subst hf
          clear hee hva hc hk h0 HVM
          go_enter Tryd.func7, Tryd.ntmps7
          go_wp2_with fail
          refine (HCL.out w).mono ?_
          rintro e w1 ⟨rfl, hb1⟩
          have HB1 := hid hb1
          clear hb1
          go_wp2_with fail
          refine (HN.out w1 HB1.out).mono ?_
          rintro e w2 ⟨v2, rfl, hO, hb2⟩
          obtain ⟨a1, c1, rfl⟩ := own_shape hO
          have HB2 := hid (HB1.out.trans (hb2.mono HB1.out.size))
          clear hO hb2
          go_wp2_with fail
          refine (HVA.out w2 HB2.out).mono ?_
          rintro e w3 ⟨rfl, rfl⟩
          go_wp2_with fail
          go_ret2
          exact ⟨rfl, HB2.out⟩
        | true =>
          rw [hva] at HVA hee
          cases hvm : Pl.valid (Cx.DL M) with
          | true =>
            rw [hvm] at hee
            exact absurd hee h0
          | false =>
            rw [hvm] at HVM hee
            have hf : f = 130 := by rw [hee]; rfl
            subst hf
            clear hee hva hvm hc hk h0
            go_enter Tryd.func7, Tryd.ntmps7
            go_wp2_with fail
            refine (HCL.out w).mono ?_
            rintro e w1 ⟨rfl, hb1⟩
            have HB1 := hid hb1
            clear hb1
            go_wp2_with fail
            refine (HN.out w1 HB1.out).mono ?_
            rintro e w2 ⟨v2, rfl, hO, hb2⟩
            obtain ⟨a1, c1, rfl⟩ := own_shape hO
            have HB2 := hid (HB1.out.trans (hb2.mono HB1.out.size))
            clear hO hb2
            go_wp2_with fail
            refine (HVA.out w2 HB2.out).mono ?_
            rintro e w3 ⟨rfl, rfl⟩
            go_wp2_with fail
            refine (HVM.out w3 HB2.out).mono ?_
            rintro e w4 ⟨rfl, rfl⟩
            go_wp2_with fail
            go_ret2
            exact ⟨rfl, HB2.out⟩
      · rw [if_neg hk] at hee
        subst hee
        skip
        clear hc hk h0 HVA HVM
        go_enter Tryd.func7, Tryd.ntmps7
        go_wp2_with fail
        refine (HCL.out w).mono ?_
        rintro e w1 ⟨rfl, hb1⟩
        have HB1 := hid hb1
        clear hb1
        go_wp2_with fail
        refine (HN.out w1 HB1.out).mono ?_
        rintro e w2 ⟨v2, rfl, hO, hb2⟩
        obtain ⟨a1, c1, rfl⟩ := own_shape hO
        have HB2 := hid (HB1.out.trans (hb2.mono HB1.out.size))
        clear hO hb2
        go_wp2_with fail
        go_ret2
        exact ⟨rfl, HB2.out⟩
    · rw [if_neg (by omega)] at hee
      subst hee
      rw [hc] at HCL
      clear hc h0 HVA HVM HN
      go_enter Tryd.func7, Tryd.ntmps7
      go_wp2_with fail
      refine (HCL.out w).mono ?_
      rintro e w1 ⟨rfl, hb1⟩
      have HB1 := hid hb1
      clear hb1
      go_wp2_with fail
      go_ret2
      exact ⟨rfl, HB1.out⟩
end Sy
end Go.Proofs.YtjgjfnmljmmplaaDoor
