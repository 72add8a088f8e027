/-
  The law's same: rows of places that are the same.
-/
import Derived.Test.YtagjjhlegojpbaaYg
namespace Go.Proofs.Ytagjjhlegojpbaa
open Go.RowKit
open Ed (Ch Pr)

set_option maxHeartbeats 2000000 in
set_option maxRecDepth 100000 in
theorem same19_yes {w : World} {u v : Value} {l : List Ch} (hu : RdC w u l) (hv : RdC w v l) (hl : l.length ≤ 1099511627776) :
    Calls Try.prog 12 #[u, v] w fun e w' => e = .returned (.bool true) ∧ Below w.heap.size w w' := by
  obtain ⟨a, c, rfl⟩ := hu.shape
  obtain ⟨b, d, rfl⟩ := hv.shape
  have HU := hid hu
  have HV := hid hv
  obtain ⟨n, hn⟩ : ∃ n, n = l.length := ⟨_, rfl⟩
  have HN := hid hn
  rw [← hn] at HU HV hl ⊢
  clear hu hv hn
  go_enter Try.func12, Try.ntmps12
  go_wp2
  go_loopw [5] (fun i wr => ∃ k : Nat, k ≤ n ∧ i = .int .i64 k ∧ Hid (∃ m, wr = w.drewN m)) (fun i _ => n - (intOf i).toNat)
  case atStart => exact ⟨0, Nat.zero_le _, rfl, hid ⟨0, rfl⟩⟩
  case round =>
    obtain ⟨k, hk, rfl, HM⟩ := hrel
    by_cases hlt : k < n
    · obtain ⟨x, hx⟩ : ∃ x, l[k]? = some x := ⟨_, List.getElem?_eq_getElem (by have := HN.out; omega)⟩
      have hbw : Below w.heap.size w (wr.drewN 1) := by
        obtain ⟨m, rfl⟩ := HM.out
        exact below_drewN (below_drewN (Below.refl _ _) m) 1
      obtain ⟨b1, o1, e1, hb1, c0, c1, c2, c3⟩ := rdC_at (HU.out.below hbw) hx
      obtain ⟨b2, o2, e2, hb2, d0, d1, d2, d3⟩ := rdC_at (HV.out.below hbw) hx
      subst e1 e2
      have i1 : (0 : Int) ≤ (k : Int) := by omega
      have i2 : (k : Int) < (n : Int) := by omega
      obtain ⟨xa, xn, xb, xm⟩ := x
      simp only at c0 c1 c2 c3 d0 d1 d2 d3
      clear hx hbw hb1 hb2
      go_wp2_with fail
      refine wp_region_qtailY 8 (by kernel_rfl) (by kernel_rfl) ?_
      simp only [List.take_succ_cons, List.take_zero, List.drop_succ_cons, List.drop_zero]
      repeat go_big_quiet_step (fail)
      refine wpQuiet_nil ?_
      have HM2 : Hid (∃ m, wr.drewN 1 = w.drewN m) := hid (by
        obtain ⟨m, rfl⟩ := HM.out
        exact ⟨_, World.drewN_drewN _ _ _⟩)
      generalize wr.drewN 1 = wq at HM2 ⊢
      clear c0 c1 c2 c3 d0 d1 d2 d3
      go_wp2
      go_roundw
      case rel => exact ⟨k + 1, by omega, by go_num, HM2⟩
      case measure => simp [intOf]; omega
    · have HB : Hid (Below w.heap.size w wr) := hid (by
        obtain ⟨m, rfl⟩ := HM.out
        exact below_drewN (Below.refl _ _) m)
      go_wp2
      go_ret
      exact ⟨rfl, HB.out⟩
end Go.Proofs.Ytagjjhlegojpbaa
