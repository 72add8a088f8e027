/-
  The walk of the law HunksValid.
-/
import Derived.Test.YtkobglnmigakeaaGreatDoorGrKf
import Derived.Test.YtkobglnmigakeaaGreatDoorGrJw
namespace Go.Proofs.YtkobglnmigakeaaGreatDoor
open Go.RowKit
open Hu (Rw Hk)

set_option maxHeartbeats 8000000 in
set_option maxRecDepth 100000 in
theorem hunksValid_walk {w : World} {v : Value} {l : List Hk} (hv : RdH w v l) (hA : ArgH w v l.length) (hl : l.length < 1954687338260) (hz : ∀ h ∈ l, SzH h) (hg : ErrVar w) :
    Calls Tryz.prog 3 #[v] w fun e w' => e = .returned (.bool true) ∧ Below w.heap.size w w' := by
  have HTW := hid (fun w1 (hb : Below w.heap.size w w1) (ha : ArgH w1 v l.length) => twins_any (hv.below hb) ha hl hz)
  have HPO := hid (fun w1 v1 (hr : RdH w1 v1 l) => order_any hr hl hz)
  have HRO := hid (fun w1 (hb : Below w.heap.size w w1) => rOrder_any (hv.below hb) hl hz)
  have HSA := hid (fun w1 v1 (hb : Below w.heap.size w w1) (hr : RdH w1 v1 l) => sameAll_yes hr (hv.below hb) hl hz)
  obtain ⟨av, cv, rfl⟩ := hv.shape
  have HV := hid hv
  have HA := hid hA
  have HZ := hid hz
  have HG := hid hg
  obtain ⟨n, hn⟩ : ∃ n, n = l.length := ⟨_, rfl⟩
  have HN := hid hn
  rw [← hn] at HV HA hl HTW HRO HSA ⊢
  clear hv hn hz hA hg
  go_enter Tryz.func3, Tryz.ntmps3
  go_wp2_with fail
  go_loopw [3] (fun ii wr => ∃ (k : Nat), k ≤ n ∧ ii = .int .i64 k ∧ Hid (Below w.heap.size w wr)) (fun ii _ => n - (intOf ii).toNat)
  case atStart => exact ⟨0, Nat.zero_le _, rfl, Below.refl _ _⟩
  case round =>
    obtain ⟨k, hk, rfl, HB⟩ := hrel
    by_cases hlt : k < n
    · obtain ⟨x, hx⟩ : ∃ x, l[k]? = some x := ⟨_, List.getElem?_eq_getElem (by have := HN.out; omega)⟩
      obtain ⟨b1, o1, u, e1, hb1, d0, d1, d2, d3, d4, d5, hu⟩ := rdH_at HV.out hx
      subst e1
      have HSX := hid (HZ.out x (List.mem_of_getElem? hx))
      have HC1 := hid (fun w1 (hb : Below w.heap.size w w1) => hvalid_any (h := x) (hu.below hb) HSX.out)
      have HC2 := hid (fun w1 (hb : Below w.heap.size w w1) => rValid_any (h := x) (hu.below hb) HSX.out)
      generalize vldN x = K at HC1 HC2
      have HC3 := hid (fun w1 (hb : Below w.heap.size w w1) => num_any K w1 (HG.out.below hb))
      obtain ⟨xa, xn, xb, xm, xh, xr⟩ := x
      dsimp only at d0 d1 d2 d3 d4 d5 hu
      obtain ⟨ua, uc, rfl⟩ := hu.shape
      unfold HkV at HC1 HC2
      dsimp only at HC1 HC2
      have HCL := hid (fun w1 (h : Below w.heap.size w w1) => And.intro ((h.cell (p := ⟨b1, _, none⟩) hb1).trans d0) (And.intro ((h.cell (p := ⟨b1, _, none⟩) hb1).trans d1) (And.intro ((h.cell (p := ⟨b1, _, none⟩) hb1).trans d2) (And.intro ((h.cell (p := ⟨b1, _, none⟩) hb1).trans d3) (And.intro ((h.cell (p := ⟨b1, _, none⟩) hb1).trans d4) ((h.cell (p := ⟨b1, _, none⟩) hb1).trans d5))))))
      clear d0 d1 d2 d3 d4 d5 hb1 hx hu
      have i1 : (0 : Int) ≤ (k : Int) := by omega
      have i2 : (k : Int) < (n : Int) := by omega
      have z1 : ((K : Int) == (K : Int)) = true := zeq rfl
      obtain ⟨d0, d1, d2, d3, d4, d5⟩ := HCL.out _ HB.out
      have hbb0 : Below w.heap.size w wr := HB.out
      go_wp2_with fail
      go_region_with (first | (go_at_call 10; refine (HC1.out _ (by first | assumption | exact below_drewN (by assumption) _)).mono ?_; rintro e w2 ⟨rfl, h2⟩; have hbb : Below w.heap.size w w2 := Below.trans (by first | assumption | exact below_drewN (by assumption) _) (h2.mono (Below.size (by first | assumption | exact below_drewN (by assumption) _))); clear h2; obtain ⟨d0, d1, d2, d3, d4, d5⟩ := HCL.out _ hbb) | (go_at_call 9; refine (HC3.out _ (by first | assumption | exact below_drewN (by assumption) _)).mono ?_; rintro e w2 ⟨rfl, h2⟩; have hbb : Below w.heap.size w w2 := Below.trans (by first | assumption | exact below_drewN (by assumption) _) (h2.mono (Below.size (by first | assumption | exact below_drewN (by assumption) _))); clear h2; obtain ⟨d0, d1, d2, d3, d4, d5⟩ := HCL.out _ hbb) | (go_at_call 11; refine (HC2.out _ (by first | assumption | exact below_drewN (by assumption) _)).mono ?_; rintro e w2 ⟨rfl, h2⟩; have hbb : Below w.heap.size w w2 := Below.trans (by first | assumption | exact below_drewN (by assumption) _) (h2.mono (Below.size (by first | assumption | exact below_drewN (by assumption) _))); clear h2; obtain ⟨d0, d1, d2, d3, d4, d5⟩ := HCL.out _ hbb))
      all_goals
        go_wp2_with fail
        go_roundw
        case rel => exact ⟨k + 1, by omega, by go_num, hid (by first | assumption | exact below_drewN (by assumption) _)⟩
        case measure => simp [intOf]; omega
    · obtain rfl : k = n := by omega
      go_wp2_with fail
      have HAW : Hid (ArgH wr (.slice av k cv) k) := hid (fun b o m c e j hj u hu => by
        cases e
        obtain ⟨x, hx⟩ : ∃ x, l[j]? = some x := ⟨_, List.getElem?_eq_getElem (by have := HN.out; omega)⟩
        obtain ⟨b1, o1, u1, e1, hb1, _, _, _, _, _, d5, _⟩ := rdH_at HV.out hx
        cases e1
        rw [HB.out.cell (p := ⟨_, _, none⟩) hb1] at hu
        exact HA.out _ _ _ _ rfl j hj u hu)
      refine (HTW.out _ HB.out HAW.out).mono ?_
      rintro e w2 ⟨v2, rfl, hO2, hb2⟩
      obtain ⟨a2, c2, rfl⟩ := hO2.shape
      have HO2 := hid hO2.rd
      have HB2 := hid (HB.out.trans (hb2.mono HB.out.size))
      clear hO2 hb2
      go_wp2_with fail
      refine (HPO.out _ _ HO2.out).mono ?_
      rintro e w3 ⟨rfl, hb3⟩
      have HO3 := hid (HO2.out.below hb3)
      have HB3 := hid (HB2.out.trans (hb3.mono HB2.out.size))
      clear hb3 HO2
      generalize Hu.orderN l = K at HRO ⊢
      have z1 : ((K : Int) == (K : Int)) = true := zeq rfl
      go_wp2_with fail
      refine (num_any K _ (HG.out.below HB3.out)).mono ?_
      rintro e w4 ⟨rfl, hb4⟩
      have HO4 := hid (HO3.out.below hb4)
      have HB4 := hid (HB3.out.trans (hb4.mono HB3.out.size))
      clear hb4 HO3
      go_wp2_with fail
      refine (HRO.out _ HB4.out).mono ?_
      rintro e w5 ⟨rfl, hb5⟩
      have HO5 := hid (HO4.out.below hb5)
      have HB5 := hid (HB4.out.trans (hb5.mono HB4.out.size))
      clear hb5 HO4
      go_wp2_with fail
      refine (HSA.out _ _ HB5.out (HN.out ▸ HO5.out)).mono ?_
      rintro e w6 ⟨rfl, hb6⟩
      have HB6 := hid (HB5.out.trans (hb6.mono HB5.out.size))
      clear hb6
      go_wp2_with fail
      refine (works_any w6 (HG.out.below HB6.out)).mono ?_
      rintro e w7 ⟨rfl, hb7⟩
      have HB7 := hid (HB6.out.trans (hb7.mono HB6.out.size))
      clear hb7
      go_wp2_with fail
      go_ret
      exact ⟨rfl, HB7.out⟩
end Go.Proofs.YtkobglnmigakeaaGreatDoor
