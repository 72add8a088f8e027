/-
  Several texts in one: Dn, XPlMore.
-/
import Derived.Test.YtjgjfnmljmmplaaDoorD3
import Derived.Test.YtjgjfnmljmmplaaDoorGrD6
import Derived.Test.YtjgjfnmljmmplaaDoorD9
import Derived.Test.YtjgjfnmljmmplaaDoorC8
import Derived.Test.YtjgjfnmljmmplaaDoorXPl
/-
  The document's Pairs and Normal (Da without twin).
-/
namespace Go.Proofs.YtjgjfnmljmmplaaDoor
open Go.RowKit
open Ed (Ch Run Pr)

set_option maxHeartbeats 1000000 in
theorem refNormal_all {v : Value} {s : List Ch} {n m : Int} {w : World} (hr : RdC w v s) (hwf : ∀ c ∈ s, WfC c) (hl : s.length ≤ 10000000000000) :
    Calls Tryd.prog 15 #[v, .int .i64 n, .int .i64 m] w fun e w' => ∃ v', e = .returned (.tuple #[v', .int .i64 (Ed.validN s n m)]) ∧ OwnC w' w.heap.size v' (nrmA s n m) ∧ Below w.heap.size w w' := by
  have HC := hid (refValid_any (n := n) (m := m) hr hwf hl)
  have HR := hid hr
  obtain ⟨a, c, rfl⟩ := hr.shape
  by_cases hk : Ed.validN s n m = 0
  · have e : nrmA s n m = Ed.normal s n m := by unfold nrmA; rw [if_pos hk]
    have HV := hid (Ed.validN_zero.1 hk)
    have hpl := rise_len HV.out.rise (Ed.cnt_iff.1 HV.out.1).1
    have hn := Ed.cnt_iff.1 HV.out.1
    have hm := Ed.cnt_iff.1 HV.out.2.1
    have HWP : Hid (∀ p ∈ Ed.prs s n 0 0, WfP p) := hid (fun p hp => by
      have := (Ed.rise_iff.1 HV.out.rise).2 p hp
      unfold Ed.inB at this
      unfold WfP I64
      omega)
    rw [e]
    rw [hk] at HC ⊢
    clear hr hwf e hk
    go_enter Tryd.func15, Tryd.ntmps15
    go_wp2_with fail
    refine HC.out.mono ?_
    rintro e w1 ⟨rfl, hb1⟩
    have HB := hid hb1
    clear hb1
    go_wp2_with fail
    refine (refpairs_any (HR.out.below HB.out) HV.out).mono ?_
    rintro e w2 ⟨v2, rfl, hO2, hb2⟩
    have HB2 := hid (HB.out.trans (hb2.mono HB.out.size))
    have HOF := hid (refOf_any (n := n) (m := m) (own_rd hO2) HWP.out (by omega) HV.out.1 HV.out.2.1)
    obtain ⟨a2, c2, e2⟩ := own_shape hO2
    subst e2
    clear hO2 hb2
    go_wp2_with fail
    refine HOF.out.mono ?_
    rintro e w3 ⟨⟨h0, _⟩ | ⟨_, v3, rfl, hO3⟩, hb3⟩
    · rw [HV.out.rise] at h0; cases h0
    have HO3 : Hid (OwnC w3 w.heap.size v3 (Ed.normal s n m)) := hid (by rw [Ed.normal_eq]; exact own_mono hO3 HB2.out.size)
    have HB3 := hid (HB2.out.trans (hb3.mono HB2.out.size))
    clear hO3 hb3
    go_wp2
    go_ret2
    exact ⟨_, rfl, HO3.out, HB3.out⟩
  · have e : nrmA s n m = [] := by unfold nrmA; rw [if_neg hk]
    rw [e]
    generalize Ed.validN s n m = k at HC hk
    have hz : ((k : Int) == 0) = false := ine (by omega)
    clear hr hwf e hk
    go_enter Tryd.func15, Tryd.ntmps15
    go_wp2_with fail
    refine HC.out.mono ?_
    rintro e w1 ⟨rfl, hb1⟩
    have HB := hid hb1
    clear hb1
    go_wp2
    go_ret2
    exact ⟨_, rfl, World.ownsRow_nil _ _ _ _, HB.out⟩
end Go.Proofs.YtjgjfnmljmmplaaDoor
/-
  More plain laws on lines.
-/
namespace Go.Proofs.YtjgjfnmljmmplaaDoor.Pl
open Go

theorem fl_full (x : List UInt8) (h : (10 : UInt8) ∉ x.take (x.length - 1)) : fl x = x.length := by
  rcases parts x 10 with h1 | ⟨p, q, rfl, hp⟩
  · exact fl_miss x h1
  · cases q with
    | nil => rw [fl_hit p [] hp]; simp
    | cons d q =>
      refine absurd ?_ h
      have e : (p ++ 10 :: d :: q).take ((p ++ 10 :: d :: q).length - 1) = p ++ 10 :: (d :: q).take ((d :: q).length - 1) := by
        have : (p ++ 10 :: d :: q).length - 1 = p.length + ((d :: q).length - 1 + 1) := by simp
        rw [this, List.take_length_add_append]
        simp
      rw [e]
      simp
theorem fl_part (x : List UInt8) (j : Nat) (hj : x[j]? = some 10) (hl : j + 1 < x.length) : fl x ≠ x.length := by
  rcases parts x 10 with h1 | ⟨p, q, rfl, hp⟩
  · exact absurd (List.mem_of_getElem? hj) h1
  · rw [fl_hit p q hp]
    have : p.length ≤ j := by
      rcases Nat.lt_or_ge j p.length with h | h
      · rw [List.getElem?_append_left h] at hj
        exact absurd (List.mem_of_getElem? hj) hp
      · exact h
    omega

end Go.Proofs.YtjgjfnmljmmplaaDoor.Pl
