/-
  The document's Runs.
-/
import Derived.Deep.AppendLies
import Derived.Test.YtagjjhlegojpbaaYe
import Derived.Test.YtagjjhlegojpbaaYg
namespace Go.Proofs.Ytagjjhlegojpbaa
open Go.RowKit
open Ed (Ch Pr)

theorem Try.infoSp2 : (Try.prog.info? 44).map (fun i => (i.zero, i.size, i.bytes)) = some (some (.agg #[.int .i64 0, .int .i64 0]), 2, 16) := by kernel_rfl
abbrev OwnSp2 (w : World) (B : Nat) (v : Value) (l : List Pr) : Prop := w.ownsRow B 44 2 v l.length (psC l)

set_option maxHeartbeats 4000000 in
set_option maxRecDepth 100000 in
theorem refRuns_any (x y : ByteArray) (most : Int) (w : World) (hx : x.size ≤ 1099511627776) (hy : y.size ≤ 1099511627776) :
    Calls Try.prog 19 #[.string x, .string y, .int .i64 most] w fun e w' => ∃ v, e = .returned v ∧ OwnSp2 w' w.heap.size v (rnL x y most) ∧ Below w.heap.size w w' := by
  have HAL := hid (refAll_any x y (-1) w hx hy)
  obtain ⟨i0, hi, hz0, hz1, hz2⟩ := info_parts Try.infoSp2
  go_enter Try.func19, Try.ntmps19
  go_wp2_with fail
  refine HAL.out.mono ?_
  rintro e w1 ⟨vl, rfl, hO, hb1⟩
  obtain ⟨al, cl, e1⟩ := own_shape hO
  subst e1
  rw [Scn.mst_all] at hO ⊢
  obtain ⟨N, hN⟩ : ∃ N, N = (plc x y).length := ⟨_, rfl⟩
  have hNx : N ≤ 1099511627776 := by have := plc_len x y; omega
  have HN := hid hN
  have HRL := hid (own_rd hO)
  rw [← hN] at HRL ⊢
  have HB1 := hid hb1
  clear hN hO hb1 HAL
  go_wp2_with fail
  go_loopw [7, 9] (fun o i wr => ∃ (k : Nat) (acc : List Pr), k ≤ N ∧ acc.length ≤ k ∧ i = .int .i64 k ∧ Hid (rnL x y most = Scn.rnM most acc ((plc x y).drop k)) ∧ Hid (Bnd x.size acc) ∧ Hid (OwnSp2 wr w1.heap.size o acc) ∧ Hid (Below w1.heap.size w1 wr)) (fun _ i _ => N - (intOf i).toNat)
  case atStart => exact ⟨0, [], Nat.zero_le _, Nat.le_refl _, rfl, hid rfl, hid (fun p hp => by simp at hp), hid (World.ownsRow_nil _ _ _ _), hid (Below.refl _ _)⟩
  case round =>
    obtain ⟨k, acc, hk, hak, rfl, HR, HB, HO, HBW⟩ := hrel
    have hO := HO.out
    unfold OwnSp2 at hO
    obtain ⟨ao, co, e⟩ := own_shape hO
    subst e
    have hBw := HBW.out.size
    by_cases hlt : k < N
    · obtain ⟨u, hgu⟩ : ∃ u, (plc x y)[k]? = some u := ⟨_, List.getElem?_eq_getElem (by have := HN.out; omega)⟩
      have hok := plc_ok hgu
      have HD : Hid ((plc x y).drop k = u :: (plc x y).drop (k + 1)) := hid (drop_atY hgu)
      rw [HD.out] at HR
      have HRD : Hid (RdC wr (.slice al N cl) (plc x y)) := hid (by
        have h := HRL.out.below HBW.out
        unfold RdC
        rw [← HN.out]
        exact h)
      obtain ⟨b, o, eA, hbl, d0, _, _, _⟩ := rdC_at HRD.out hgu
      subst eA
      obtain ⟨ua, un, ub, um⟩ := u
      simp only at hok d0
      have j1 : (0 : Int) ≤ (k : Int) := by omega
      have j2 : (k : Int) < (N : Int) := by omega
      have HBQ := hid (below_drewN HBW.out 1)
      clear hgu
      rcases Nat.eq_zero_or_pos acc.length with hz | hpos
      · have HNE : Hid (∀ p, acc.getLast? = some p → p.1 + p.2 ≠ ua) := hid (fun p hp => by
          rw [List.length_eq_zero_iff.1 hz] at hp; simp at hp)
        obtain rfl := List.length_eq_zero_iff.1 hz
        clear hz
        have HOQ : Hid ((wr.drewN 1).ownsRow w1.heap.size 44 2 (.slice ao 0 co) 0 (psC [])) := hid (own_stays hO (below_drewN (Below.refl _ _) 1))
        have hBq : w1.heap.size ≤ (wr.drewN 1).heap.size := hBw
        have dq : (wr.drewN 1).cell? ⟨b, o + k * 4, none⟩ = some (.int .i64 ua) := d0
        go_wp2_with fail
        refine wp_region_qtailY 22 (by kernel_rfl) (by kernel_rfl) ?_
        simp only [List.take_succ_cons, List.take_zero, List.drop_succ_cons, List.drop_zero]
        repeat go_big_quiet_step (fail)
        refine wpQuiet_nil ?_
        generalize wr.drewN 1 = wq at HOQ HBQ hBq dq ⊢
        clear hO d0
        by_cases hst : 0 ≤ most ∧ most ≤ (0 : Int)
        · have q1 : decide (most ≥ 0) = true := decide_eq_true hst.1
          have q2 : decide ((0 : Int) ≥ most) = true := decide_eq_true hst.2
          have HRX : Hid (rnL x y most = ([] : List Pr)) := hid (by rw [HR.out]; exact Scn.rnM_stop HNE.out (by simp; omega))
          have HOX : Hid (OwnSp2 wq w.heap.size (.slice ao 0 co) (rnL x y most)) := hid (by
            rw [HRX.out]
            skip
            exact own_mono HOQ.out HB1.out.size)
          have HBF := hid (HB1.out.trans (HBQ.out.mono HB1.out.size))
          clear hst
          go_wp2
          go_ret
          exact ⟨_, rfl, HOX.out, HBF.out⟩
        · have HR2 : Hid (rnL x y most = Scn.rnM most (([] : List Pr) ++ [(ua, 1)]) ((plc x y).drop (k + 1))) := hid (by rw [HR.out]; exact Scn.rnM_new HNE.out (by simp; omega))
          by_cases hs1 : most ≥ 0
          · have q1 : decide (most ≥ 0) = true := decide_eq_true hs1
            have q2 : decide ((0 : Int) ≥ most) = false := decide_eq_false (by omega)
            clear hst hs1
            go_wp2_with (at_builtin; refine wpList_append_lies _ rfl _ _ 41 rfl w1.heap.size 44 i0 (.agg #[.int .i64 0, .int .i64 0]) 2 16 Try.underlying41 hi hz0 hz1 hz2 rfl (by decide) _ 0 (psC ([] : List Pr)) rfl (HOQ.out.alloc _) ⟨wq.heap.size, 0, none⟩ 1 1 (pC (ua, 1)) rfl rfl (World.news_of_block (cs := #[.int .i64 ua, .int .i64 1]) (heap_alloc_new wq _)) (fun z hz => psC_one [(ua, 1)] z (by simpa [psC] using hz)) (by decide) (by unfold maxLen; omega) (by omega) (by simp; omega) _ rfl ?_; intro g' cap' w5 hO5 hg5 hl5 _; have HO5 := hid hO5; have HB5 := hid (HBQ.out.trans (((Below.refl w1.heap.size wq).alloc hBq _).grown hg5 (by simp; omega) (own_ge HOQ.out))); clear hO5 hg5 hl5)
            go_roundw
            case rel => exact ⟨k + 1, ([] : List Pr) ++ [(ua, 1)], by omega, by simp, by go_num, HR2, hid (bnd_new HB.out hok.1 hok.2), hid (by
              unfold OwnSp2
              skip
              exact HO5.out), HB5⟩
            case measure => simp [intOf]; omega
          · have q1 : decide (most ≥ 0) = false := decide_eq_false hs1
            clear hst hs1
            go_wp2_with (at_builtin; refine wpList_append_lies _ rfl _ _ 41 rfl w1.heap.size 44 i0 (.agg #[.int .i64 0, .int .i64 0]) 2 16 Try.underlying41 hi hz0 hz1 hz2 rfl (by decide) _ 0 (psC ([] : List Pr)) rfl (HOQ.out.alloc _) ⟨wq.heap.size, 0, none⟩ 1 1 (pC (ua, 1)) rfl rfl (World.news_of_block (cs := #[.int .i64 ua, .int .i64 1]) (heap_alloc_new wq _)) (fun z hz => psC_one [(ua, 1)] z (by simpa [psC] using hz)) (by decide) (by unfold maxLen; omega) (by omega) (by simp; omega) _ rfl ?_; intro g' cap' w5 hO5 hg5 hl5 _; have HO5 := hid hO5; have HB5 := hid (HBQ.out.trans (((Below.refl w1.heap.size wq).alloc hBq _).grown hg5 (by simp; omega) (own_ge HOQ.out))); clear hO5 hg5 hl5)
            go_roundw
            case rel => exact ⟨k + 1, ([] : List Pr) ++ [(ua, 1)], by omega, by simp, by go_num, HR2, hid (bnd_new HB.out hok.1 hok.2), hid (by
              unfold OwnSp2
              skip
              exact HO5.out), HB5⟩
            case measure => simp [intOf]; omega
      · obtain ⟨m, hmm0⟩ : ∃ m, acc.length = m + 1 := ⟨acc.length - 1, by omega⟩
        obtain ⟨p, hp⟩ : ∃ p, acc[m]? = some p := ⟨_, List.getElem?_eq_getElem (by omega)⟩
        have hlast : acc.getLast? = some p := by rw [List.getLast?_eq_getElem?, show acc.length - 1 = m by omega]; exact hp
        obtain ⟨b0, b1, b2⟩ := HB.out p (List.mem_of_getElem? hp)
        obtain ⟨A, hA⟩ : ∃ A, A = acc.length := ⟨_, rfl⟩
        have HA := hid hA
        rw [← hA] at hO hak hmm0 hpos ⊢
        have z1 : decide ((A : Int) > 0) = true := decide_eq_true (by omega)
        have z2 : IntKind.i64.wrap ((A : Int) - 1) = (m : Int) := by rw [IntKind.wrap_i64]; omega
        have z3 : IntKind.i64.wrap (p.1 + p.2) = p.1 + p.2 := by rw [IntKind.wrap_i64]; omega
        have z4 : (m : Int) < (A : Int) := by omega
        have z5 : m < A := by omega
        obtain ⟨G, cap3, hAe, hG, hG2, p0, p1, pf⟩ := own_atP hO hp
        cases hAe
        have HP := hid hp
        have HLAST := hid hlast
        have pp1 := pf (m * 2 + 1)
        have HMM := hid hmm0
        clear hmm0 hA
        have HOQ : Hid ((wr.drewN 1).ownsRow w1.heap.size 44 2 (.slice (some ⟨G, 0, none⟩) A co) A (psC acc)) := hid (own_stays hO (below_drewN (Below.refl _ _) 1))
        have hBq : w1.heap.size ≤ (wr.drewN 1).heap.size := hBw
        have dq : (wr.drewN 1).cell? ⟨b, o + k * 4, none⟩ = some (.int .i64 ua) := d0
        go_wp2_with fail
        by_cases hq : p.1 + p.2 = ua
        · have q0 : (p.1 + p.2 == ua) = true := zeq hq
          have HR2 : Hid (rnL x y most = Scn.rnM most (acc.set m (p.1, p.2 + 1)) ((plc x y).drop (k + 1))) := hid (by
            rw [HR.out, Scn.rnM_ext HLAST.out hq]
            have e := Scn.up_set HLAST.out
            rw [show acc.length - 1 = m by have := HMM.out; have := HA.out; omega] at e
            rw [← e]; rfl)
          have HBN := hid (bnd_set HB.out HP.out (by omega))
          clear hq
          refine wp_region_qtailY 22 (by kernel_rfl) (by kernel_rfl) ?_
          simp only [List.take_succ_cons, List.take_zero, List.drop_succ_cons, List.drop_zero]
          repeat go_big_quiet_step (fail)
          refine wpQuiet_nil ?_
          have z6 : IntKind.i64.wrap (p.2 + 1) = p.2 + 1 := by rw [IntKind.wrap_i64]; omega
          have d2 : (wr.drewN 1).cell? ⟨G, m * 2 + 1, none⟩ = some (.int .i64 p.2) := p1
          have d3 : (wr.drewN 1).frozen? ⟨G, m * 2 + 1, none⟩ = false := pp1
          have HO2 : Hid (((wr.drewN 1).setCell ⟨G, m * 2 + 1, none⟩ (.int .i64 (p.2 + 1))).ownsRow w1.heap.size 44 2 (.slice (some ⟨G, 0, none⟩) A co) A (psC (acc.set m (p.1, p.2 + 1)))) := hid (own_setSp HOQ.out HP.out _)
          have HB2 : Hid (Below w1.heap.size w1 ((wr.drewN 1).setCell ⟨G, m * 2 + 1, none⟩ (.int .i64 (p.2 + 1)))) := hid (HBQ.out.setCell (p := ⟨G, m * 2 + 1, none⟩) hG _)
          clear hO d0 p0 p1 pf pp1 hp hlast
          generalize wr.drewN 1 = wq at HO2 HB2 d2 d3 HOQ HBQ hBq dq ⊢
          go_wp2
          go_roundw
          case rel => exact ⟨k + 1, acc.set m (p.1, p.2 + 1), by omega, by rw [List.length_set, ← HA.out]; omega, by go_num, HR2, HBN, hid (by
            unfold OwnSp2
            rw [List.length_set, ← HA.out]
            exact HO2.out), HB2⟩
          case measure => simp [intOf]; omega
        · have q0 : (p.1 + p.2 == ua) = false := zne hq
          have HNE : Hid (∀ q, acc.getLast? = some q → q.1 + q.2 ≠ ua) := hid (fun q hq2 => by
            rw [HLAST.out] at hq2
            cases hq2
            exact hq)
          clear hq
          refine wp_region_qtailY 22 (by kernel_rfl) (by kernel_rfl) ?_
          simp only [List.take_succ_cons, List.take_zero, List.drop_succ_cons, List.drop_zero]
          repeat go_big_quiet_step (fail)
          refine wpQuiet_nil ?_
          clear p0 p1 pf pp1 hp hlast
          generalize wr.drewN 1 = wq at HOQ HBQ hBq dq ⊢
          clear hO d0
          by_cases hst : 0 ≤ most ∧ most ≤ (A : Int)
          · have q1 : decide (most ≥ 0) = true := decide_eq_true hst.1
            have q2 : decide ((A : Int) ≥ most) = true := decide_eq_true hst.2
            have HRX : Hid (rnL x y most = acc) := hid (by rw [HR.out]; exact Scn.rnM_stop HNE.out (by rw [← HA.out]; exact hst))
            have HOX : Hid (OwnSp2 wq w.heap.size (.slice (some ⟨G, 0, none⟩) A co) (rnL x y most)) := hid (by
              rw [HRX.out]
              unfold OwnSp2; rw [← HA.out]
              exact own_mono HOQ.out HB1.out.size)
            have HBF := hid (HB1.out.trans (HBQ.out.mono HB1.out.size))
            clear hst
            go_wp2
            go_ret
            exact ⟨_, rfl, HOX.out, HBF.out⟩
          · have HR2 : Hid (rnL x y most = Scn.rnM most (acc ++ [(ua, 1)]) ((plc x y).drop (k + 1))) := hid (by rw [HR.out]; exact Scn.rnM_new HNE.out (by rw [← HA.out]; exact hst))
            by_cases hs1 : most ≥ 0
            · have q1 : decide (most ≥ 0) = true := decide_eq_true hs1
              have q2 : decide ((A : Int) ≥ most) = false := decide_eq_false (by omega)
              clear hst hs1
              go_wp2_with (at_builtin; refine wpList_append_lies _ rfl _ _ 41 rfl w1.heap.size 44 i0 (.agg #[.int .i64 0, .int .i64 0]) 2 16 Try.underlying41 hi hz0 hz1 hz2 rfl (by decide) _ A (psC acc) rfl (HOQ.out.alloc _) ⟨wq.heap.size, 0, none⟩ 1 1 (pC (ua, 1)) rfl rfl (World.news_of_block (cs := #[.int .i64 ua, .int .i64 1]) (heap_alloc_new wq _)) (fun z hz => psC_one [(ua, 1)] z (by simpa [psC] using hz)) (by decide) (by unfold maxLen; omega) (by omega) (by simp; omega) _ rfl ?_; intro g' cap' w5 hO5 hg5 hl5 _; have HO5 := hid hO5; have HB5 := hid (HBQ.out.trans (((Below.refl w1.heap.size wq).alloc hBq _).grown hg5 (by simp; omega) (own_ge HOQ.out))); clear hO5 hg5 hl5)
              go_roundw
              case rel => exact ⟨k + 1, acc ++ [(ua, 1)], by omega, by rw [List.length_append, ← HA.out, List.length_singleton]; omega, by go_num, HR2, hid (bnd_new HB.out hok.1 hok.2), hid (by
                unfold OwnSp2
                rw [List.length_append, psC_append, List.length_singleton, ← HA.out]
                exact HO5.out), HB5⟩
              case measure => simp [intOf]; omega
            · have q1 : decide (most ≥ 0) = false := decide_eq_false hs1
              clear hst hs1
              go_wp2_with (at_builtin; refine wpList_append_lies _ rfl _ _ 41 rfl w1.heap.size 44 i0 (.agg #[.int .i64 0, .int .i64 0]) 2 16 Try.underlying41 hi hz0 hz1 hz2 rfl (by decide) _ A (psC acc) rfl (HOQ.out.alloc _) ⟨wq.heap.size, 0, none⟩ 1 1 (pC (ua, 1)) rfl rfl (World.news_of_block (cs := #[.int .i64 ua, .int .i64 1]) (heap_alloc_new wq _)) (fun z hz => psC_one [(ua, 1)] z (by simpa [psC] using hz)) (by decide) (by unfold maxLen; omega) (by omega) (by simp; omega) _ rfl ?_; intro g' cap' w5 hO5 hg5 hl5 _; have HO5 := hid hO5; have HB5 := hid (HBQ.out.trans (((Below.refl w1.heap.size wq).alloc hBq _).grown hg5 (by simp; omega) (own_ge HOQ.out))); clear hO5 hg5 hl5)
              go_roundw
              case rel => exact ⟨k + 1, acc ++ [(ua, 1)], by omega, by rw [List.length_append, ← HA.out, List.length_singleton]; omega, by go_num, HR2, hid (bnd_new HB.out hok.1 hok.2), hid (by
                unfold OwnSp2
                rw [List.length_append, psC_append, List.length_singleton, ← HA.out]
                exact HO5.out), HB5⟩
              case measure => simp [intOf]; omega
    · have e : acc = rnL x y most := by
        have h := HR.out
        rw [List.drop_of_length_le (by have := HN.out; omega), Scn.rnM_nil] at h
        exact h.symm
      have HOX : Hid (OwnSp2 wr w.heap.size (.slice ao acc.length co) (rnL x y most)) := hid (by
        rw [← e]
        exact own_mono hO HB1.out.size)
      have HBF := hid (HB1.out.trans (HBW.out.mono HB1.out.size))
      have hkn : ¬ (k : Int) < (N : Int) := by omega
      clear hlt e hO
      go_wp2
      go_ret
      exact ⟨_, rfl, HOX.out, HBF.out⟩
end Go.Proofs.Ytagjjhlegojpbaa
