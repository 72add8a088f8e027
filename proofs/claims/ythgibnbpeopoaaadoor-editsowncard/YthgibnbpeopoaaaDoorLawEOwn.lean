/-
  PROVED: the card of EditsOwn: for every list of changes and every two integers EditsOwn returns true, and all read afterwards as they read before; the card ties what errors.errorType holds to the program's text (a pruned copy of the project: the packages that this law loads).
-/
import Derived.Test.YthgibnbpeopoaaaDoorC6
import Derived.Test.YthgibnbpeopoaaaDoorC9
import Derived.Test.YthgibnbpeopoaaaDoorD0
import Derived.Test.YthgibnbpeopoaaaDoorDa
import Derived.Test.YthgibnbpeopoaaaDoorDb
import Derived.Test.YthgibnbpeopoaaaDoorHandle
namespace Go.Proofs.YthgibnbpeopoaaaDoor.editsOwn
open Go.ChangeShapes Go.WideShapes Go.ChangeAt Go.RowKit
open Go.ChangeMaps (open_string shut_string)
open Ed (Ch Run Pr)

theorem nrm_len (s : List Ch) (n m : Int) : (nrmA s n m).length ≤ 8388608 := by
  unfold nrmA
  split
  · next h => exact Val_len (Ed.normal_Val (Ed.validN_zero.1 h)).1
  · simp
theorem prs_len (s : List Ch) (n m : Int) : (prsA s n m).length ≤ 8388608 := by
  unfold prsA
  split
  · next h =>
    have hV := Ed.validN_zero.1 h
    have hn := Ed.cnt_iff.1 hV.1
    have := rise_len hV.rise hn.1
    omega
  · simp
theorem row4 {w : World} {g k n : Nat} {t : TypeId} (h : Wt 4 t w (some ⟨g, 0, none⟩) n) (hk : k < n) : ∃ x0 x1 x2 x3, w.cell? ⟨g, k * 4, none⟩ = some x0 ∧ w.cell? ⟨g, k * 4 + 1, none⟩ = some x1 ∧ w.cell? ⟨g, k * 4 + 2, none⟩ = some x2 ∧ w.cell? ⟨g, k * 4 + 3, none⟩ = some x3 ∧ ∀ j, w.frozen? ⟨g, j, none⟩ = false := by
  rcases h with h | ⟨g', cur, ha, hh, hs⟩
  · omega
  · cases ha
    have e : ∀ j, j < 4 → ∃ x, w.cell? ⟨g, k * 4 + j, none⟩ = some x := fun j hj => ⟨_, (cell_of_blk hh _).trans (Array.getElem?_eq_getElem (by omega))⟩
    obtain ⟨x0, h0⟩ := e 0 (by omega)
    obtain ⟨x1, h1⟩ := e 1 (by omega)
    obtain ⟨x2, h2⟩ := e 2 (by omega)
    obtain ⟨x3, h3⟩ := e 3 (by omega)
    exact ⟨x0, x1, x2, x3, h0, h1, h2, h3, fun j => frozen_of_blk hh j⟩
theorem row2 {w : World} {g k n : Nat} {t : TypeId} (h : Wt 2 t w (some ⟨g, 0, none⟩) n) (hk : k < n) : ∃ x0 x1, w.cell? ⟨g, k * 2, none⟩ = some x0 ∧ w.cell? ⟨g, k * 2 + 1, none⟩ = some x1 ∧ ∀ j, w.frozen? ⟨g, j, none⟩ = false := by
  rcases h with h | ⟨g', cur, ha, hh, hs⟩
  · omega
  · cases ha
    have e : ∀ j, j < 2 → ∃ x, w.cell? ⟨g, k * 2 + j, none⟩ = some x := fun j hj => ⟨_, (cell_of_blk hh _).trans (Array.getElem?_eq_getElem (by omega))⟩
    obtain ⟨x0, h0⟩ := e 0 (by omega)
    obtain ⟨x1, h1⟩ := e 1 (by omega)
    exact ⟨x0, x1, h0, h1, fun j => frozen_of_blk hh j⟩
theorem some_of {sz : Nat} {t : TypeId} {w : World} {a : Option Addr} {k n : Nat} (h : Wt sz t w a n) (hk : k < n) : ∃ g, a = some ⟨g, 0, none⟩ := by
  rcases h with h | ⟨g, cur, ha, _⟩
  · omega
  · exact ⟨g, ha⟩

set_option maxHeartbeats 8000000 in
set_option maxRecDepth 100000 in
theorem walk (v : Value) (s : List Ch) (n m : Int) (w : World) (hr : RdC w v s) (hwf : ∀ c ∈ s, WfC c) (hl : s.length ≤ 4398046510976) (hsh : v = .slice none 0 0 ∨ ∃ ad n c, v = .slice (some ad) n c) (hg : ErrVar w) :
    Calls Tryd.prog 7 #[v, .int .i64 n, .int .i64 m] w fun e w' => e = .returned (.bool true) ∧ Below w.heap.size w w' := by
  have HR := hid hr
  have HG := hid hg
  have HWF := hid hwf
  have HSH : Hid (ArgS v) := hid hsh
  obtain ⟨a, c, rfl⟩ := hr.shape
  have hnl := nrm_len s n m
  have hpl := prs_len s n m
  clear hr hwf hg hsh
  have HN1 := hid (fun w1 v1 (h : RdC w1 v1 s) => normal_all (n := n) (m := m) h HWF.out (by omega))
  have HN2 := hid (fun w1 v1 (h : RdC w1 v1 s) => refNormal_all (n := n) (m := m) h HWF.out (by omega))
  have HP1 := hid (fun w1 v1 (h : RdC w1 v1 s) => pairs_all (n := n) (m := m) h HWF.out (by omega))
  have HP2 := hid (fun w1 v1 (h : RdC w1 v1 s) => refPairs_all (n := n) (m := m) h HWF.out (by omega))
  generalize Ed.validN s n m = K at HN1 HN2 HP1 HP2
  generalize nrmA s n m = T at HN1 HN2 hnl
  generalize prsA s n m = P at HP1 HP2 hpl
  have hil : (s.map Ed.inv).length ≤ 4398046510976 := by rw [List.length_map]; exact hl
  have HI1 := hid (fun w1 v1 (h : RdC w1 v1 s) => invert_any h (by omega))
  generalize s.map Ed.inv = I at HI1 hil
  go_enter Tryd.func7, Tryd.ntmps7
  go_wp2_with fail
  refine (twin_any HR.out HSH.out (by omega)).mono ?_
  rintro e w1 ⟨v1, rfl, hO1, hb1⟩
  obtain ⟨am, cm, e1⟩ := own_shape hO1
  subst e1
  have HM1 := hid (own_rd hO1)
  have HM2 : Hid (∀ g o, am = some ⟨g, o, none⟩ → w.heap.size ≤ g ∧ g < w1.heap.size) := hid (fun g o h => own_at hO1 h)
  have HB1 := hid hb1
  clear hO1 hb1
  go_wp2_with fail
  refine (HN1.out _ _ HM1.out).mono ?_
  rintro e w2 ⟨v2, rfl, hO2, hb2⟩
  obtain ⟨aa, ca, e2⟩ := own_shape hO2
  subst e2
  have HA := hid (wt_own hO2)
  have HA2 : Hid (∀ g, aa = some ⟨g, 0, none⟩ → w1.heap.size ≤ g ∧ g < w2.heap.size) := hid (fun g h => own_at hO2 h)
  have HKa := hid hb2
  have HMa := hid (HM1.out.below hb2)
  have HB2 := hid (HB1.out.trans (hb2.mono HB1.out.size))
  clear hO2 hb2
  go_wp2_with fail
  refine (HI1.out _ _ HMa.out).mono ?_
  rintro e w3 ⟨v3, rfl, hO3, hb3⟩
  obtain ⟨ab, cb, e3⟩ := own_shape hO3
  subst e3
  have HC := hid (wt_own hO3)
  have HC2 : Hid (∀ g, ab = some ⟨g, 0, none⟩ → w2.heap.size ≤ g ∧ g < w3.heap.size) := hid (fun g h => own_at hO3 h)
  have HKb := hid hb3
  have HMb := hid (HMa.out.below hb3)
  have HB3 := hid (HB2.out.trans (hb3.mono HB2.out.size))
  clear hO3 hb3
  go_wp2_with fail
  refine (HP1.out _ _ HMb.out).mono ?_
  rintro e w4 ⟨v4, rfl, hO4, hb4⟩
  obtain ⟨ap, cp, e4⟩ := own_shape hO4
  subst e4
  have HP := hid (wt_own hO4)
  have HPb2 : Hid (∀ g, ap = some ⟨g, 0, none⟩ → w3.heap.size ≤ g ∧ g < w4.heap.size) := hid (fun g h => own_at hO4 h)
  have HKc := hid hb4
  have HMc := hid (HMb.out.below hb4)
  have HB4 := hid (HB3.out.trans (hb4.mono HB3.out.size))
  clear hO4 hb4
  go_wp2_with fail
  refine (HN2.out _ _ (HR.out.below HB4.out)).mono ?_
  rintro e w5 ⟨v5, rfl, hO5, hb5⟩
  obtain ⟨aw, cw, e5⟩ := own_shape hO5
  subst e5
  have HW := hid (own_rd hO5)
  have HW2 : Hid (∀ g o, aw = some ⟨g, o, none⟩ → w4.heap.size ≤ g ∧ g < w5.heap.size) := hid (fun g o h => own_at hO5 h)
  have HKd := hid hb5
  have HMd := hid (HMc.out.below hb5)
  have HB5 := hid (HB4.out.trans (hb5.mono HB4.out.size))
  clear hO5 hb5
  go_wp2_with fail
  refine (HP2.out _ _ (HR.out.below HB5.out)).mono ?_
  rintro e w6 ⟨v6, rfl, hO6, hb6⟩
  obtain ⟨aq, cq, e6⟩ := own_shape hO6
  subst e6
  have HQ := hid (own_rd hO6)
  have HQ2 : Hid (∀ g o, aq = some ⟨g, o, none⟩ → w5.heap.size ≤ g ∧ g < w6.heap.size) := hid (fun g o h => own_at hO6 h)
  have HKe := hid hb6
  have HMe := hid (HMd.out.below hb6)
  have HB6 := hid (HB5.out.trans (hb6.mono HB5.out.size))
  have s1 : Hid (w.heap.size ≤ w1.heap.size) := hid HB1.out.size
  have s2 : Hid (w1.heap.size ≤ w2.heap.size) := hid HKa.out.size
  have s3 : Hid (w2.heap.size ≤ w3.heap.size) := hid HKb.out.size
  have s4 : Hid (w3.heap.size ≤ w4.heap.size) := hid HKc.out.size
  have s5 : Hid (w4.heap.size ≤ w5.heap.size) := hid HKd.out.size
  have s6 : Hid (w5.heap.size ≤ w6.heap.size) := hid HKe.out.size
  have HWe := hid (HW.out.below HKe.out)
  have HA6 : Hid (Wt 4 61 w6 aa T.length) := hid (by
    rcases HA.out with h | ⟨g, cur, ha, hh, hs⟩
    · exact .inl h
    · have h1 := s2.out; have h2 := s3.out; have h3 := s4.out; have h4 := s5.out; have h5 := s6.out
      have hg := lt_of_heap hh
      exact .inr ⟨g, cur, ha, (HKe.out.block g (by omega)).trans ((HKd.out.block g (by omega)).trans ((HKc.out.block g (by omega)).trans ((HKb.out.block g hg).trans hh))), hs⟩)
  have HC6 : Hid (Wt 4 61 w6 ab I.length) := hid (by
    rcases HC.out with h | ⟨g, cur, ha, hh, hs⟩
    · exact .inl h
    · have h3 := s4.out; have h4 := s5.out; have h5 := s6.out
      have hg := lt_of_heap hh
      exact .inr ⟨g, cur, ha, (HKe.out.block g (by omega)).trans ((HKd.out.block g (by omega)).trans ((HKc.out.block g hg).trans hh)), hs⟩)
  have HP6 : Hid (Wt 2 62 w6 ap P.length) := hid (by
    rcases HP.out with h | ⟨g, cur, ha, hh, hs⟩
    · exact .inl h
    · have h4 := s5.out; have h5 := s6.out
      have hg := lt_of_heap hh
      exact .inr ⟨g, cur, ha, (HKe.out.block g (by omega)).trans ((HKd.out.block g hg).trans hh), hs⟩)
  clear hO6 hb6 HA HC HP HM1 HMa HMb HMc HMd HW HKa HKb HKc HKd HKe HB1 HB2 HB3 HB4 HB5
  go_wp2
  go_loopw [17] (fun i wr => ∃ k : Nat, k ≤ T.length ∧ i = .int .i64 k ∧ Hid (Wt 4 61 wr aa T.length) ∧ Hid (Kept (fun j => aa = some ⟨j, 0, none⟩) w6 wr)) (fun i _ => T.length - (intOf i).toNat)
  case atStart => exact ⟨0, Nat.zero_le _, rfl, HA6, Kept.refl _ _⟩
  case round =>
    obtain ⟨k, hk, rfl, HA7, HK7⟩ := hrel
    by_cases hlt : k < T.length
    · obtain ⟨g, rfl⟩ := some_of HA7.out hlt
      obtain ⟨x0, x1, x2, x3, c0, c1, c2, c3, f0⟩ := row4 HA7.out hlt
      have i1 : (0 : Int) ≤ (k : Int) := by omega
      have i2 : (k : Int) < (T.length : Int) := by omega
      have HA8 := hid ((((HA7.out.set (k * 4) (.int .i64 (-7))).set (k * 4 + 1) (.int .i64 0)).set (k * 4 + 2) (.int .i64 0)).set (k * 4 + 3) (.int .i64 0))
      have HK8 := hid ((((HK7.out.set (g := g) (k := k * 4) rfl (.int .i64 (-7))).set (g := g) (k := k * 4 + 1) rfl (.int .i64 0)).set (g := g) (k := k * 4 + 2) rfl (.int .i64 0)).set (g := g) (k := k * 4 + 3) rfl (.int .i64 0))
      go_wp2
      exact ⟨⟨k + 1, by omega, by go_num, HA8, HK8⟩, by simp [intOf]; omega⟩
    · obtain ⟨w7, hw7⟩ : ∃ w7, w7 = wr := ⟨_, rfl⟩
      subst hw7
      have HMf := hid (HMe.out.kept HK7.out (fun g o h h2 => by have := HM2.out g o h; have := HA2.out g h2; have := s2.out; omega))
      have HWf := hid (HWe.out.kept HK7.out (fun g o h h2 => by have := HW2.out g o h; have := HA2.out g h2; have := s3.out; have := s4.out; omega))
      have HQf := hid (HQ.out.kept HK7.out (fun g o h h2 => by have := HQ2.out g o h; have := HA2.out g h2; have := s3.out; have := s4.out; have := s5.out; omega))
      have HC7 := hid (HC6.out.kept HK7.out (fun g h h2 => by have := HC2.out g h; have := HA2.out g h2; omega))
      have HP7 := hid (HP6.out.kept HK7.out (fun g h h2 => by have := HPb2.out g h; have := HA2.out g h2; have := s3.out; omega))
      have HB7 := hid (HK7.out.below' HB6.out (fun g h => by have := HA2.out g h; have := s1.out; omega) (Nat.le_refl _))
      clear HA7 HK7 HA6 HMe HWe HQ HC6 HP6 HB6
      go_wp2
      go_loopw [18] (fun i wr2 => ∃ k2 : Nat, k2 ≤ I.length ∧ i = .int .i64 k2 ∧ Hid (Wt 4 61 wr2 ab I.length) ∧ Hid (Kept (fun j => ab = some ⟨j, 0, none⟩) w7 wr2)) (fun i _ => I.length - (intOf i).toNat)
      case atStart => exact ⟨0, Nat.zero_le _, rfl, HC7, Kept.refl _ _⟩
      case round =>
        obtain ⟨k2, hk2, rfl, HA7, HK7⟩ := hrel
        by_cases hlt2 : k2 < I.length
        · obtain ⟨g, rfl⟩ := some_of HA7.out hlt2
          obtain ⟨x0, x1, x2, x3, c0, c1, c2, c3, f0⟩ := row4 HA7.out hlt2
          have i1 : (0 : Int) ≤ (k2 : Int) := by omega
          have i2 : (k2 : Int) < (I.length : Int) := by omega
          have HA8 := hid ((((HA7.out.set (k2 * 4) (.int .i64 (-8))).set (k2 * 4 + 1) (.int .i64 0)).set (k2 * 4 + 2) (.int .i64 0)).set (k2 * 4 + 3) (.int .i64 0))
          have HK8 := hid ((((HK7.out.set (g := g) (k := k2 * 4) rfl (.int .i64 (-8))).set (g := g) (k := k2 * 4 + 1) rfl (.int .i64 0)).set (g := g) (k := k2 * 4 + 2) rfl (.int .i64 0)).set (g := g) (k := k2 * 4 + 3) rfl (.int .i64 0))
          go_wp2
          exact ⟨⟨k2 + 1, by omega, by go_num, HA8, HK8⟩, by simp [intOf]; omega⟩
        · obtain ⟨w8, hw8⟩ : ∃ w8, w8 = wr := ⟨_, rfl⟩
          subst hw8
          have HMg := hid (HMf.out.kept HK7.out (fun g o h h2 => by have := HM2.out g o h; have := HC2.out g h2; have := s2.out; omega))
          have HWg := hid (HWf.out.kept HK7.out (fun g o h h2 => by have := HW2.out g o h; have := HC2.out g h2; have := s3.out; have := s4.out; omega))
          have HQg := hid (HQf.out.kept HK7.out (fun g o h h2 => by have := HQ2.out g o h; have := HC2.out g h2; have := s3.out; have := s4.out; have := s5.out; omega))
          have HP8 := hid (HP7.out.kept HK7.out (fun g h h2 => by have := HPb2.out g h; have := HC2.out g h2; have := s3.out; omega))
          have HB8 := hid (HK7.out.below' HB7.out (fun g h => by have := HC2.out g h; have := s1.out; have := s2.out; omega) (Nat.le_refl _))
          clear HA7 HK7 HMf HWf HQf HC7 HP7 HB7
          go_wp2
          go_loopw [19] (fun i wr3 => ∃ k3 : Nat, k3 ≤ P.length ∧ i = .int .i64 k3 ∧ Hid (Wt 2 62 wr3 ap P.length) ∧ Hid (Kept (fun j => ap = some ⟨j, 0, none⟩) w8 wr3)) (fun i _ => P.length - (intOf i).toNat)
          case atStart => exact ⟨0, Nat.zero_le _, rfl, HP8, Kept.refl _ _⟩
          case round =>
            obtain ⟨k3, hk3, rfl, HA7, HK7⟩ := hrel
            by_cases hlt3 : k3 < P.length
            · obtain ⟨g, rfl⟩ := some_of HA7.out hlt3
              obtain ⟨x0, x1, c0, c1, f0⟩ := row2 HA7.out hlt3
              have i1 : (0 : Int) ≤ (k3 : Int) := by omega
              have i2 : (k3 : Int) < (P.length : Int) := by omega
              have HA8 := hid ((HA7.out.set (k3 * 2) (.int .i64 (-9))).set (k3 * 2 + 1) (.int .i64 (-9)))
              have HK8 := hid ((HK7.out.set (g := g) (k := k3 * 2) rfl (.int .i64 (-9))).set (g := g) (k := k3 * 2 + 1) rfl (.int .i64 (-9)))
              go_wp2
              exact ⟨⟨k3 + 1, by omega, by go_num, HA8, HK8⟩, by simp [intOf]; omega⟩
            · have HMh := hid (HMg.out.kept HK7.out (fun g o h h2 => by have := HM2.out g o h; have := HPb2.out g h2; have := s2.out; have := s3.out; omega))
              have HWh := hid (HWg.out.kept HK7.out (fun g o h h2 => by have := HW2.out g o h; have := HPb2.out g h2; have := s3.out; have := s4.out; omega))
              have HQh := hid (HQg.out.kept HK7.out (fun g o h h2 => by have := HQ2.out g o h; have := HPb2.out g h2; have := s3.out; have := s4.out; have := s5.out; omega))
              have HB9 := hid (HK7.out.below' HB8.out (fun g h => by have := HPb2.out g h; have := s1.out; have := s2.out; have := s3.out; omega) (Nat.le_refl _))
              clear HA7 HK7 HMg HWg HQg HP8 HB8
              go_wp2_with fail
              refine (HN1.out _ _ HMh.out).mono ?_
              rintro e wa ⟨va, rfl, hOa, hba⟩
              obtain ⟨a2, c2, ea⟩ := own_shape hOa
              subst ea
              have HTa := hid (own_rd hOa)
              have HMi := hid (HMh.out.below hba)
              have HWi := hid (HWh.out.below hba)
              have HQi := hid (HQh.out.below hba)
              have HBa := hid (HB9.out.trans (hba.mono HB9.out.size))
              clear hOa hba HMh HWh HQh
              go_wp2_with fail
              refine (HP1.out _ _ HMi.out).mono ?_
              rintro e wb ⟨vb, rfl, hOb, hbb⟩
              obtain ⟨a3, c3, eb⟩ := own_shape hOb
              subst eb
              have HPb := hid (own_rd hOb)
              have HTb := hid (HTa.out.below hbb)
              have HMj := hid (HMi.out.below hbb)
              have HWj := hid (HWi.out.below hbb)
              have HQj := hid (HQi.out.below hbb)
              have HBb := hid (HBa.out.trans (hbb.mono HBa.out.size))
              clear hOb hbb HMi HWi HQi HTa
              go_wp2_with fail
              refine (sameChanges_any HMj.out (HR.out.below HBb.out) (by omega) (by omega)).mono ?_
              rintro e wc ⟨rfl, hbc⟩
              rw [decide_eq_true rfl]
              have HPc := hid (HPb.out.below hbc)
              have HTc := hid (HTb.out.below hbc)
              have HWk := hid (HWj.out.below hbc)
              have HQk := hid (HQj.out.below hbc)
              have HBc := hid (HBb.out.trans (hbc.mono HBb.out.size))
              clear hbc HPb HTb HWj HQj HMj
              go_wp2_with fail
              refine (sameChanges_any HTc.out HWk.out (by omega) (by omega)).mono ?_
              rintro e wd ⟨rfl, hbd⟩
              rw [decide_eq_true rfl]
              have HPd := hid (HPc.out.below hbd)
              have HQl := hid (HQk.out.below hbd)
              have HBd := hid (HBc.out.trans (hbd.mono HBc.out.size))
              clear hbd HPc HTc HWk HQk
              go_wp2_with fail
              refine (samePairs_any HPd.out HQl.out (by omega) (by omega)).mono ?_
              rintro e we ⟨rfl, hbe⟩
              rw [decide_eq_true rfl]
              have HBe := hid (HBd.out.trans (hbe.mono HBd.out.size))
              clear hbe HPd HQl
              go_wp2_with fail
              refine (works_any we (HG.out.below HBe.out)).mono ?_
              rintro e wf ⟨rfl, hbf⟩
              have HBf := hid (HBe.out.trans (hbf.mono HBe.out.size))
              clear hbf
              go_wp2
              go_ret
              exact ⟨rfl, HBf.out⟩

theorem own : ownKnob Tryd.prog.godebug = none := by kernel_rfl

set_option maxRecDepth 100000 in
theorem contract (H : Type) (enc : TypeId × Value → H) (W : World) (base : Nat) (args : Array Value) (ds gs : List (DataW H)) (before : List MemPlace)
    (hval : ∀ (j : Nat) t v, Tryd.f7.params[j]? = some t → args[j]? = some v → Value.okWide Tryd.prog W .any base t v)
    (hW : DataW.Whole enc Tryd.prog Tryd.f7.params.toList Rows.editsOwnSpec.vars false W args.toList ds gs before)
    (hsz : (DataW.weightsEach Tryd.prog (Tryd.f7.params.toList ++ Rows.editsOwnSpec.plain.varTypes Tryd.prog) (ds ++ gs)).all (· ≤ reachBytes) = true)
    (hL : laidMetH Tryd.prog Rows.editsOwnRow.laid W)
    : Calls Tryd.prog 7 args W fun e W' => ∃ v, e = .returned v ∧ Rows.editsOwnSpec.post enc Tryd.prog Tryd.f7 false true false false W args v W' := by
  have hW' := hW
  obtain ⟨p, q, hA0, hV, rfl, hfz, hnd⟩ := hW
  have hA : DataW.TrodAll enc Tryd.prog W 0 (fun _ => true) true Tryd.f7.params.toList args.toList ds p := hA0
  rw [Tryd.params7] at hA hval hsz
  obtain ⟨v0, vs0, d0, ds0, p0, q0, hargs0, rfl, rfl, h0, r0⟩ := trodAll_cons hA
  obtain ⟨v1, vs1, d1, ds1, p1, q1, hargs1, rfl, rfl, h1, r1⟩ := trodAll_cons r0
  obtain ⟨v2, vs2, d2, ds2, p2, q2, hargs2, rfl, rfl, h2, r2⟩ := trodAll_cons r1
  obtain ⟨rfl, rfl, rfl⟩ := trodAll_nil r2
  obtain rfl : args = #[v0, v1, v2] := by cases args; simp_all
  obtain ⟨rfl, rfl⟩ := trodVars_none hV
  obtain ⟨x0, hr0, hw0, hd0, hsh0⟩ := open_chs (okWide_slice Tryd.underlying22 (hval 0 22 v0 rfl rfl)) h0
  obtain ⟨x1, rfl, rfl, rfl, hmax1⟩ := open_int Tryd.underlying3 (hval 1 3 v1 rfl rfl) h1
  obtain ⟨x2, rfl, rfl, rfl, hmax2⟩ := open_int Tryd.underlying3 (hval 2 3 v2 rfl rfl) h2
  have hlen0 := chs_sized hsz (j := 0) rfl rfl hd0
  clear hA0 hsz
  simp only [List.append_nil] at hW'
  have hlt0 : ∀ x ∈ p0, x.block < W.heap.size := fun x hx => by simpa using hW'.lt x (by simp [hx])
  refine (walk v0 x0 x1 x2 W hr0 hw0 (by omega) hsh0 (handle_of hL)).mono fun e W' ⟨he, hb⟩ => ?_
  subst he
  exact ⟨_, rfl, _, _, _, [], (p0 ++ ([] ++ ([] ++ []))), [], hW', trodAll_cons_mk (shut_bool Tryd.underlying4 _) trodAll_mk0, trodAll_cons_mk (Below.trod laidOut (by kernel_rfl) (of_decide_eq_true (by kernel_rfl)) h0 hb hlt0) (trodAll_cons_mk (shut_int Tryd.underlying3 hmax1) (trodAll_cons_mk (shut_int Tryd.underlying3 hmax2) trodAll_mk0)), rfl, hb.frame _, fun h => by cases h⟩

set_option maxRecDepth 100000 in
theorem lifted (os : Os) (started : os.Started) (H : Type) (enc : TypeId × Value → H) (F : Stop.Interp) :
    ReturnsInHanded {} Tryd.checked os 7 .any ((OpenSpec.ofChange Rows.editsOwnSpec).preRow enc Tryd.prog Tryd.f7 Rows.editsOwnRow.domain false Rows.editsOwnRow.laid) (((OpenSpec.ofChange Rows.editsOwnSpec).at F).post enc Tryd.prog Tryd.f7 false true false false) := by
  refine returnsInHanded_of_row (C := Tryd.checked) (s := OpenSpec.ofChange Rows.editsOwnSpec) own started (by kernel_rfl) Tryd.func7
    (witness_row_at (enc := enc) (C := Tryd.checked) false
      { World.holding Tryd.prog os ⟨#[], #[], []⟩ with heap := (World.holding Tryd.prog os ⟨#[], #[], []⟩).heap.modify 0 fun
          | .cells _ t frozen => .cells #[.iface 99 (.agg #[.pointer (some ⟨1, 25, none⟩)])] t frozen
          | o => o }
      #[.slice none 0 0, .int .i64 0, .int .i64 0] rfl (by kernel_rfl) (by kernel_rfl) (by kernel_rfl)
      (OpenSpec.preRow_of_cond 8 (x := ([.nil, .lit (.int .i64 0), .lit (.int .i64 0)], [], [])) (by kernel_rfl) (by kernel_rfl) (fun k hk => by cases hk) (by kernel_rfl) (laidMetH_of_parts (laidMet_nil _ _) (by kernel_rfl)))) ?_
  intro W base args ds gs before hval hW _ hcond hsz hL _ _
  exact contract H enc W base args ds gs before hval hW hsz hL

theorem said : Rows.EditsOwnSaid :=
  OpenClaim.holds_of_cond 7 Tryd.f7 rfl rfl rfl rfl rfl rfl rfl ⟨rfl, rfl, rfl, rfl, rfl⟩ rfl rfl rfl rfl rfl (by kernel_rfl) Tryd.func7 (by kernel_rfl)
    (of_decide_eq_true (by kernel_rfl)) (by unfold Func.isWrapper; first | (rw [if_pos (by decide +kernel)]; kernel_rfl) | (rw [if_neg (by decide +kernel)]; exact ⟨rfl, rfl⟩))
    (fun os started H enc _ F => by rw [OpenClaim.pre_eq_preRow]; exact lifted os started H enc F)

theorem plain (f : FuncId) (fn : Func) (hf : Tryd.pinned.checked.prog.funcNamed Rows.editsOwnRow.func = some f) (hfn : Tryd.pinned.checked.prog.funcs[f]? = some fn) :
    true = Tryd.pinned.checked.prog.looks [] ∧ ∀ (j : Nat) t, fn.params[j]? = some t → Tryd.pinned.checked.prog.wantsStandIn t = false := by
  obtain rfl : f = 7 := Option.some.inj ((show Tryd.prog.funcNamed Rows.editsOwnRow.func = some 7 by kernel_rfl).symm.trans hf) |>.symm
  obtain rfl : fn = Tryd.f7 := (Option.some.inj (Tryd.func7.symm.trans hfn)).symm
  refine ⟨by kernel_rfl, fun j t ht => ?_⟩
  rw [Tryd.params7] at ht
  have hm : t = 22 ∨ t = 3 := by simpa using Array.mem_of_getElem? ht
  rcases hm with rfl | rfl
  · exact (show Tryd.prog.wantsStandIn 22 = false by kernel_rfl)
  · exact (show Tryd.prog.wantsStandIn 3 = false by kernel_rfl)

theorem card : Rows.EditsOwnCardSaid :=
  Claim7.holds_tied_plain_at .later [] _ _ _ _ said (fun _ h => by cases h) (by kernel_rfl) (fun _ h => by cases h) editsOwn_row_tie rfl ⟨rfl, rfl⟩ (by kernel_rfl) rfl plain (by kernel_rfl)
end Go.Proofs.YthgibnbpeopoaaaDoor.editsOwn
