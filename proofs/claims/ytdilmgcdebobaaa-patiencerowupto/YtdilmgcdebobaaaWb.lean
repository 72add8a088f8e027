/-
  The walk of the document's Anchors.
-/
import Derived.Test.YtdilmgcdebobaaaGrW7
namespace Go.Proofs.Ytdilmgcdebobaaa
open Go.RowKit
open Ed (Ch Run Pr)

theorem place_of {b : List Int} {z : Int} (h : b.count z = 1) : ∃ K, K < b.length ∧ fn b K = z ∧ ∀ k, k < K → fn b k ≠ z := by
  have hm : z ∈ b := List.count_pos_iff.1 (by omega)
  obtain ⟨K, hK, e⟩ := List.getElem_of_mem hm
  have hf : fn b K = z := by
    have := fn_some hK
    rw [List.getElem?_eq_getElem hK, e] at this
    exact (Option.some.inj this).symm
  refine ⟨K, hK, hf, fun k hk hz => ?_⟩
  have h1 := mem_plc (l := b) hK
  have h2 := mem_plc (l := b) (show k < b.length by omega)
  rw [hf] at h1
  rw [hz] at h2
  have e1 := single (by rw [plc_all]; exact h) h1
  rw [e1] at h2
  have := List.mem_singleton.1 h2
  omega

set_option maxHeartbeats 3000000 in
set_option maxRecDepth 100000 in
theorem refAnchors_any {w : World} {v u : Value} {a b : List Int} (hv : RdI w v a) (hu : RdI w u b) (hla : a.length ≤ 4194304) (hlb : b.length ≤ 4194304) :
    Calls Try.prog 11 #[v, u] w fun e w' => ∃ r, e = .returned r ∧ OwnPr w' w.heap.size r (a.filterMap (ancW a b)) ∧ Below w.heap.size w w' := by
  have HV := hid hv
  have HU := hid hu
  obtain ⟨av, cv, rfl⟩ := hv.shape
  obtain ⟨au, cu, rfl⟩ := hu.shape
  have HTA := hid (fun (W : World) (hW : Below w.heap.size w W) z => times_any (hv.below hW) (by omega) z)
  have HTB := hid (fun (W : World) (hW : Below w.heap.size w W) z => times_any (hu.below hW) (by omega) z)
  obtain ⟨n, hn⟩ : ∃ n, n = a.length := ⟨_, rfl⟩
  obtain ⟨m, hm⟩ : ∃ m, m = b.length := ⟨_, rfl⟩
  have HN := hid hn
  have HM := hid hm
  rw [← hn] at hla HV HTA ⊢
  rw [← hm] at hlb HU HTB ⊢
  have g1 : ¬ (n : Int) > 4194304 := by omega
  have g2 : ¬ (m : Int) > 4194304 := by omega
  have g1' : ¬ 4194304 < n := by omega
  have g2' : ¬ 4194304 < m := by omega
  clear hv hu hn hm
  go_enter Try.func11, Try.ntmps11
  go_wp2
  go_loopw [5, 6, 7] (fun v5 i _ wr => ∃ j : Nat, j ≤ n ∧ i = .int .i64 j ∧ Hid (OwnPr wr w.heap.size v5 ((a.take j).filterMap (ancW a b))) ∧ Hid (Below w.heap.size w wr)) (fun _ i _ _ => n - (intOf i).toNat)
  case atStart => exact ⟨0, Nat.zero_le _, rfl, hid (World.ownsRow_nil _ _ _ _), hid (Below.refl _ _)⟩
  case round =>
    obtain ⟨j, hj, rfl, HO, HB⟩ := hrel
    by_cases hlt : j < n
    · have hjn : j < a.length := by rw [← HN.out]; exact hlt
      obtain ⟨zb, zo, e, hzb, d1⟩ := rdI_at HV.out (fn_some hjn)
      cases e
      have HSN := hid (anc_snoc a b j hjn)
      obtain ⟨z, hz⟩ : ∃ z, z = fn a j := ⟨_, rfl⟩
      rw [← hz] at d1 HSN
      have HZ := hid hz
      have d2 := (HB.out.cell (p := ⟨zb, zo + j, none⟩) hzb).trans d1
      have HA := hid (HTA.out wr HB.out z)
      have HBB := hid (HTB.out wr HB.out z)
      have j1 : (0 : Int) ≤ (j : Int) := by omega
      have j2 : (j : Int) < (n : Int) := by omega
      have j3 : IntKind.i64.wrap ((j : Int) + 1) = (j : Int) + 1 := by rw [IntKind.wrap_i64]; omega
      obtain ⟨CA, hCA⟩ : ∃ CA, CA = a.count z := ⟨_, rfl⟩
      obtain ⟨CB, hCB⟩ : ∃ CB, CB = b.count z := ⟨_, rfl⟩
      rw [← hCA] at HA
      rw [← hCB] at HBB
      by_cases h1 : CA = 1
      · have k1 : ((CA : Int) != 1) = false := by rw [h1]; rfl
        by_cases h2 : CB = 1
        · have k2 : ((CB : Int) != 1) = false := by rw [h2]; rfl
          obtain ⟨K, hK1, hK2, hK3⟩ := place_of (b := b) (z := z) (by omega)
          have HAY : Hid (ancW a b z = some ((j : Int), (K : Int))) := hid (by rw [hz]; exact anc_yes hjn hK1 (by rw [hK2, hz]) (by rw [← hz]; omega) (by rw [← hz]; omega))
          have HK2 := hid hK2
          have HK3 := hid hK3
          have hKm : K < m := by rw [HM.out]; exact hK1
          clear h1 h2 hCA hCB hK1 hK2 hK3 hz d1
          have HDZ := hid d2
          have HOW := hid (fun (W : World) (h : Below wr.heap.size wr W) => own_stays HO.out h)
          have HGE := hid (own_ge2 HO.out)
          have HBX := hid (HB.out)
          have HPL : Hid (((a.take j).filterMap (ancW a b)).length ≤ 1000000000) := hid (by
            have h1 := List.length_filterMap_le (ancW a b) (a.take j)
            rw [List.length_take] at h1
            omega)
          have hws : w.heap.size ≤ wr.heap.size := HB.out.size
          rw [HAY.out] at HSN
          go_wp2_with fail
          refine HA.out.mono ?_
          rintro e w2 ⟨rfl, hw2⟩
          rw [hw2]
          clear hw2 w2
          go_wp2_with fail
          refine HBB.out.mono ?_
          rintro e w2 ⟨rfl, hw2⟩
          rw [hw2]
          clear hw2 w2
          go_wp2
          go_loopw [7] (fun s7 ws => ∃ k q : Nat, k ≤ K ∧ s7 = .int .i64 k ∧ ws = wr.drewN q) (fun s7 _ => K - (intOf s7).toNat)
          case atStart => exact ⟨0, 0, Nat.zero_le _, rfl, rfl⟩
          case round =>
            obtain ⟨k, q, hk, rfl, rfl⟩ := hrel
            have hkm : k < b.length := by rw [← HM.out]; omega
            obtain ⟨ub, uo, e, hub, f1⟩ := rdI_at HU.out (fn_some hkm)
            cases e
            have f2 : wr.cell? ⟨ub, uo + k, none⟩ = some (.int .i64 (fn b k)) := (HB.out.cell (p := ⟨ub, uo + k, none⟩) hub).trans f1
            have f3 : wr.cell? ⟨zb, zo + j, none⟩ = some (.int .i64 z) := HDZ.out
            have i1 : (0 : Int) ≤ (k : Int) := by omega
            have i2 : (k : Int) < (m : Int) := by omega
            have i3 : IntKind.i64.wrap ((k : Int) + 1) = (k : Int) + 1 := by rw [IntKind.wrap_i64]; omega
            by_cases hkK : k < K
            · have hne := HK3.out k hkK
              generalize fn b k = y at f1 f2 hne
              have i4 : (y != z) = true := bne_iff_ne.2 hne
              clear hne f1
              go_wp2
              go_quiet (fail)
              go_wp2
              exact ⟨⟨k + 1, _, by omega, by push_cast; rfl, by first | rfl | exact World.drewN_drewN _ _ _⟩, by simp [intOf]; omega⟩
            · obtain rfl : k = K := by omega
              rw [HK2.out] at f2
              have i4 : (z != z) = false := by simp
              clear f1
              go_wp2
              go_quiet (fail)
              go_wp2_with (at_builtin; refine wpList_append_pr rfl _ _ rfl w.heap.size _ ((a.take j).filterMap (ancW a b)) rfl (HOW.out _ (by first | exact (below_drewN (below_drewN (Below.refl _ _) _) _).alloc (Nat.le_refl _) _ | exact (below_drewN (Below.refl _ _) _).alloc (Nat.le_refl _) _)) _ (j : Int) (k : Int) rfl (heap_alloc_new _ _) HPL.out (by first | omega | (simp; omega)) ?_; intro v' w4 hO4 hg4; have HO4 := hid hO4; have HB4 := hid (((HB.out.trans ((by first | exact (below_drewN (below_drewN (Below.refl _ _) _) _).alloc (Nat.le_refl _) _ | exact (below_drewN (Below.refl _ _) _).alloc (Nat.le_refl _) _ : Below wr.heap.size wr _).mono hws))).grown hg4 (by first | omega | (simp; omega)) (fun q hq => (HGE.out q hq).1)); clear hO4 hg4)
              rw [← HSN.out] at HO4
              exact ⟨⟨j + 1, by omega, by push_cast; rfl, HO4, HB4⟩, by simp [intOf]; omega⟩
        · have HAN : Hid (ancW a b z = none) := hid (anc_no (by omega))
          have k2 : ((CB : Int) != 1) = true := bne_iff_ne.2 (by omega)
          rw [HAN.out, List.append_nil] at HSN
          rw [← HSN.out] at HO
          clear h1 h2 hCA hCB hz d1
          go_wp2_with fail
          refine HA.out.mono ?_
          rintro e w2 ⟨rfl, rfl⟩
          go_wp2_with fail
          refine HBB.out.mono ?_
          rintro e w2 ⟨rfl, rfl⟩
          go_wp2
          exact ⟨⟨j + 1, by omega, by push_cast; rfl, HO, HB⟩, by simp [intOf]; omega⟩
      · have HAN : Hid (ancW a b z = none) := hid (anc_no (by omega))
        have k1 : ((CA : Int) != 1) = true := bne_iff_ne.2 (by omega)
        rw [HAN.out, List.append_nil] at HSN
        rw [← HSN.out] at HO
        clear h1 hCA hCB hz d1
        go_wp2_with fail
        refine HA.out.mono ?_
        rintro e w2 ⟨rfl, rfl⟩
        go_wp2
        exact ⟨⟨j + 1, by omega, by push_cast; rfl, HO, HB⟩, by simp [intOf]; omega⟩
    · obtain rfl : j = n := by omega
      have HE : Hid ((a.take j).filterMap (ancW a b) = a.filterMap (ancW a b)) := hid (by rw [HN.out, List.take_length])
      rw [HE.out] at HO
      go_wp2
      go_ret
      exact ⟨_, rfl, HO.out, HB.out⟩
end Go.Proofs.Ytdilmgcdebobaaa
