/-
  PROVED: for every two texts ScanTurns returns true, and the texts read afterwards as they read before; the condition: what they hold is at most 1048576 in bulk.
-/
import Derived.Test.YtagjjhlegojpbaaYj
import Derived.Test.YtagjjhlegojpbaaYl
import Derived.ProofKit
import Derived.OpenShut
import Derived.LaidLaws
import Derived.LaidHandle
import Derived.SizedLaws
import Derived.Deep.DeepHandedRow
namespace Go.Proofs.Ytagjjhlegojpbaa.scanTurns
open Go.ChangeShapes Go.WideShapes Go.ChangeAt Go.RowKit
open Go.ChangeMaps (open_string shut_string)
open Ed (Ch Pr)

theorem size_data (s : ByteArray) : s.data.toList.length = s.size := by rw [Array.length_toList]; rfl
theorem str_same (x : ByteArray) : (x.toList == x.toList) = true := beq_self_eq_true _
theorem ext_data {x y : ByteArray} (h : x.data.toList = y.data.toList) : x = y := by
  obtain ⟨⟨a⟩⟩ := x
  obtain ⟨⟨b⟩⟩ := y
  simp at h
  rw [h]
theorem eq_iff (x y : ByteArray) : (x.toList == y.toList) = true ↔ plc x y = [] ∧ x.size = y.size := by
  have h := Scn.pl_eq x.data.toList y.data.toList 0 1
  rw [dsize, dsize] at h
  rw [ByteArray.toList_eq, ByteArray.toList_eq, beq_iff_eq]
  exact h
structure Two (w : World) (B : Nat) (L M : List Ch) (vl vm : Value) (G1 G2 : Nat) (u v : Ch) : Prop where
  l : RdC w vl L
  m : RdC w vm M
  g1 : w.heap[G1]? = some (.cells #[.int .i64 u.a, .int .i64 u.n, .int .i64 u.b, .int .i64 u.m] 23)
  g2 : w.heap[G2]? = some (.cells #[.int .i64 v.a, .int .i64 v.n, .int .i64 v.b, .int .i64 v.m] 23)
theorem Two.later {w w' : World} {B : Nat} {L M : List Ch} {vl vm : Value} {G1 G2 : Nat} {u v : Ch} (h : Two w B L M vl vm G1 G2 u v) (hb : Below w.heap.size w w') : Two w' B L M vl vm G1 G2 u v :=
  ⟨h.l.below hb, h.m.below hb, (hb.block _ (lt_of_heap h.g1)).trans h.g1, (hb.block _ (lt_of_heap h.g2)).trans h.g2⟩
/-- the one round's places, side by side -/
theorem turn_at {x y : ByteArray} {k : Nat} {u : Ch} (h : (plc x y)[k]? = some u) : ∃ n, (plc y x)[k]? = some ⟨u.a, n, u.m, u.b⟩ ∧ (u.n = n ∨ ∃ o : Nat, u.a = (o : Int) ∧ 1 ≤ o ∧ o ≤ x.size ∧ o ≤ y.size ∧ x.data.toList.take (o - 1) ≠ y.data.toList.take (o - 1)) ∧ (k = 0 → u.n = n) := by
  obtain ⟨hl, hr⟩ := Scn.pl_turn x.data.toList y.data.toList 0 1 1
  have hk := (List.getElem?_eq_some_iff.1 h).1
  obtain ⟨v, hv⟩ : ∃ v, (plc y x)[k]? = some v := ⟨_, List.getElem?_eq_getElem (by unfold plc at hk ⊢; omega)⟩
  obtain ⟨h1, h2, h3, h4, h5⟩ := hr k u v h hv
  have hok := Scn.pl_ok _ _ _ _ u (List.mem_of_getElem? h)
  have k1 := hok.lo
  have k2 := hok.hiA
  have k3 := hok.hiB
  rw [dsize] at k2 k3
  refine ⟨v.n, ?_, ?_, fun e => h5 rfl e⟩
  · rw [hv]
    obtain ⟨va, vn, vb, vm⟩ := v
    simp only at h1 h2 h3
    rw [h1, h2, h3]
  · rcases h4 rfl with h4 | h4
    · exact .inl h4
    · refine .inr ⟨u.a.toNat, by omega, by omega, by omega, by omega, ?_⟩
      rw [Nat.sub_zero] at h4
      exact h4

set_option maxHeartbeats 8000000 in
set_option maxRecDepth 100000 in
theorem walk (x0 x1 : ByteArray) (w : World) (h0 : x0.size ≤ 1048576) (h1 : x1.size ≤ 1048576) :
    Calls Try.prog 6 #[.string x0, .string x1] w fun e w' => e = .returned (.bool true) ∧ Below w.heap.size w w' := by
  have HA := hid (all_any x0 x1 (-1) w (by omega) (by omega))
  have HA2 : Hid (∀ w', Calls Try.prog 13 #[.string x1, .string x0, .int .i64 (-1)] w' fun e w'' => ∃ v, e = .returned v ∧ OwnU w'' w'.heap.size v (plc x1 x0) ∧ Below w'.heap.size w' w'') := hid fun w' => all_any x1 x0 (-1) w' (by omega) (by omega)
  have HLM : Hid ((plc x1 x0).length = (plc x0 x1).length) := hid (Scn.pl_turn x0.data.toList x1.data.toList 0 1 1).1.symm
  have HLn : Hid ((plc x0 x1).length ≤ 1048576) := hid (by have := plc_len x0 x1; omega)
  have HEQ := hid (eq_iff x0 x1)
  obtain ⟨u, hu⟩ : ∃ u, u = (plc x0 x1).headD zU := ⟨_, rfl⟩
  obtain ⟨v, hv⟩ : ∃ v, v = (plc x1 x0).headD zU := ⟨_, rfl⟩
  obtain ⟨ok, hok⟩ : ∃ ok, ok = !(plc x0 x1).isEmpty := ⟨_, rfl⟩
  obtain ⟨E1, hE1⟩ : ∃ E, E = endN x0 x1 := ⟨_, rfl⟩
  obtain ⟨E2, hE2⟩ : ∃ E, E = endN x1 x0 := ⟨_, rfl⟩
  have HF : Hid (∀ w', Calls Try.prog 9 #[.string x0, .string x1] w' fun e w'' => e = .returned (.tuple #[.agg #[.int .i64 u.a, .int .i64 u.n, .int .i64 u.b, .int .i64 u.m], .bool ok, .int .i64 E1]) ∧ Below w'.heap.size w' w'') := hid fun w' => by
    have h := first_any x0 x1 w' (by omega) (by omega)
    unfold fstV uV at h
    rw [← hu, ← hok, ← hE1] at h
    exact h
  have hok2 : ok = !(plc x1 x0).isEmpty := by
    have h : (plc x1 x0).length = (plc x0 x1).length := HLM.out
    rw [hok]
    clear hu hv hok HF
    cases hp : plc x0 x1 with
    | nil =>
      rw [hp] at h
      rw [List.length_eq_zero_iff.1 h]
    | cons a b =>
      cases hq : plc x1 x0 with
      | nil => rw [hp, hq] at h; simp at h
      | cons c d => rfl
  have HF2 : Hid (∀ w', Calls Try.prog 9 #[.string x1, .string x0] w' fun e w'' => e = .returned (.tuple #[.agg #[.int .i64 v.a, .int .i64 v.n, .int .i64 v.b, .int .i64 v.m], .bool ok, .int .i64 E2]) ∧ Below w'.heap.size w' w'') := hid fun w' => by
    have h := first_any x1 x0 w' (by omega) (by omega)
    unfold fstV uV at h
    rw [← hv, ← hok2, ← hE2] at h
    exact h
  have HOK := hid hok
  have HU := hid hu
  have HV := hid hv
  have HE1 := hid hE1
  have HE2 := hid hE2
  clear hu hv hok hok2 hE1 hE2
  go_enter Try.func6, Try.ntmps6
  go_wp2_with fail
  refine HA.out.mono ?_
  rintro e w1 ⟨v1, rfl, hO1, hb1⟩
  obtain ⟨a1, c1, e1⟩ := own_shape hO1
  subst e1
  rw [Scn.mst_all] at hO1 ⊢
  have HO1 := hid hO1
  have HB1 := hid hb1
  clear hO1 hb1 HA
  go_wp2_with fail
  refine (HA2.out w1).mono ?_
  rintro e w2 ⟨v2, rfl, hO2, hb2⟩
  obtain ⟨a2, c2, e2⟩ := own_shape hO2
  subst e2
  have HR1 := hid (own_rd (own_stays HO1.out hb2))
  have HR2 := hid (own_rd hO2)
  have HB2 := hid (HB1.out.trans (hb2.mono HB1.out.size))
  clear hO2 hb2 HA2 HO1
  rw [HLM.out] at HR2 ⊢
  obtain ⟨n, hn⟩ : ∃ n, n = (plc x0 x1).length := ⟨_, rfl⟩
  have HN := hid hn
  rw [← hn] at HR1 HR2 ⊢
  have hnl : n ≤ 1048576 := by have := HLn.out; omega
  clear hn
  go_wp2_with fail
  refine (HF.out w2).mono ?_
  rintro e w3 ⟨rfl, hb3⟩
  have HR13 := hid (HR1.out.below hb3)
  have HR23 := hid (HR2.out.below hb3)
  have HB3 := hid (HB2.out.trans (hb3.mono HB2.out.size))
  clear hb3 HF
  go_wp2_with fail
  have HBa := hid ((Below.refl w3.heap.size w3).alloc (Nat.le_refl _) (.cells #[.int .i64 u.a, .int .i64 u.n, .int .i64 u.b, .int .i64 u.m] 23))
  have HQ4 : Hid ((w3.alloc (.cells #[.int .i64 u.a, .int .i64 u.n, .int .i64 u.b, .int .i64 u.m] 23)).heap[w3.heap.size]? = some (.cells #[.int .i64 u.a, .int .i64 u.n, .int .i64 u.b, .int .i64 u.m] 23)) := hid (heap_alloc_new w3 _)
  have HR14 := hid (HR13.out.below HBa.out)
  have HR24 := hid (HR23.out.below HBa.out)
  have HB4 := hid (HB3.out.trans (HBa.out.mono HB3.out.size))
  obtain ⟨G1, hG1⟩ : ∃ G, G = w3.heap.size := ⟨_, rfl⟩
  rw [← hG1] at HQ4
  rw [← hG1]
  generalize w3.alloc (.cells #[.int .i64 u.a, .int .i64 u.n, .int .i64 u.b, .int .i64 u.m] 23) = w4 at HQ4 HR14 HR24 HB4 ⊢
  clear hG1 HBa
  refine (HF2.out w4).mono ?_
  rintro e w5 ⟨rfl, hb5⟩
  have HT5 : Hid (RdC w5 (.slice a1 n c1) (plc x0 x1) ∧ RdC w5 (.slice a2 n c2) (plc x1 x0) ∧ w5.heap[G1]? = some (.cells #[.int .i64 u.a, .int .i64 u.n, .int .i64 u.b, .int .i64 u.m] 23)) := hid (by
    refine ⟨?_, ?_, (hb5.block G1 (lt_of_heap HQ4.out)).trans HQ4.out⟩
    · have h := HR14.out.below hb5
      rw [HN.out] at h
      rw [HN.out]
      exact h
    · have h := HR24.out.below hb5
      unfold RdC
      rw [HLM.out, ← HN.out]
      exact h)
  have HB5 := hid (HB4.out.trans (hb5.mono HB4.out.size))
  clear hb5 HF2 HR14 HR24 HR13 HR23 HR1 HR2 HQ4 HB4 HB3 HB2 HB1
  go_wp2_with fail
  have HB6 : Hid (Below w5.heap.size w5 (w5.alloc (.cells #[.int .i64 v.a, .int .i64 v.n, .int .i64 v.b, .int .i64 v.m] 23))) := hid ((Below.refl _ w5).alloc (Nat.le_refl _) _)
  have HT6 : Hid (Two (w5.alloc (.cells #[.int .i64 v.a, .int .i64 v.n, .int .i64 v.b, .int .i64 v.m] 23)) w.heap.size (plc x0 x1) (plc x1 x0) (.slice a1 n c1) (.slice a2 n c2) G1 w5.heap.size u v) := hid ⟨HT5.out.1.below HB6.out, HT5.out.2.1.below HB6.out, (HB6.out.block _ (lt_of_heap HT5.out.2.2)).trans HT5.out.2.2, heap_alloc_new w5 _⟩
  have HBW := hid (HB5.out.trans (HB6.out.mono HB5.out.size))
  obtain ⟨G2, hG2⟩ : ∃ G, G = w5.heap.size := ⟨_, rfl⟩
  rw [← hG2] at HT6
  rw [← hG2]
  generalize w5.alloc (.cells #[.int .i64 v.a, .int .i64 v.n, .int .i64 v.b, .int .i64 v.m] 23) = w6 at HT6 HBW ⊢
  clear hG2 HT5 HB5 HB6
  have HES : Hid ((x0.size = x1.size ∧ E1 = 0 ∧ E2 = 0) ∨ (x0.size ≠ x1.size ∧ E1 ≠ 0 ∧ E1 + E2 = 3)) := hid (by
    rw [HE1.out, HE2.out]
    unfold endN
    rcases Nat.lt_trichotomy x0.size x1.size with h | h | h
    · rw [if_pos h, if_neg (by omega), if_pos h]; omega
    · rw [if_neg (by omega), if_neg (by omega), if_neg (by omega), if_neg (by omega)]; omega
    · rw [if_neg (by omega), if_pos h, if_pos h]; omega)
  cases hL : plc x0 x1 with
  | nil =>
    have hn0 : n = 0 := by rw [HN.out, hL]; rfl
    have hk0 : ok = false := by rw [HOK.out, hL]; rfl
    subst hn0 hk0
    rcases HES.out with ⟨z1, z2, z3⟩ | ⟨z1, z2, z3⟩
    · have hq : (x0.toList == x1.toList) = true := HEQ.out.2 ⟨hL, z1⟩
      subst z2 z3
      clear z1 hL
      go_quiet (fail)
      have HBQ := hid (below_drewN HBW.out nq)
      generalize w6.drewN nq = w7 at HBQ ⊢
      go_wp2_with fail
      go_loopw [13] (fun i wr => i = .int .i64 0 ∧ wr = w7) (fun _ _ => 0)
      case atStart => exact ⟨rfl, rfl⟩
      case round =>
        obtain ⟨rfl, hwr⟩ := hrel
        subst hwr
        go_wp2_with fail
        refine (sure19_any _).mono ?_
        rintro e w8 ⟨rfl, hb8⟩
        have HB8 := hid (HBQ.out.trans (hb8.mono HBQ.out.size))
        clear hb8
        go_wp2_with fail
        go_ret
        exact ⟨rfl, HB8.out⟩
    · have hq : (x0.toList == x1.toList) = false := by
        cases hh : (x0.toList == x1.toList) with
        | false => rfl
        | true => exact absurd (HEQ.out.1 hh).2 z1
      have q1 : ((E1 : Int) == 0) = false := ine (by omega)
      have q2 : IntKind.i64.wrap ((E1 : Int) + (E2 : Int)) = 3 := by rw [IntKind.wrap_i64]; omega
      clear z1 z2 z3 hL
      go_quiet (fail)
      have HBQ := hid (below_drewN HBW.out nq)
      generalize w6.drewN nq = w7 at HBQ ⊢
      go_wp2_with fail
      go_loopw [13] (fun i wr => i = .int .i64 0 ∧ wr = w7) (fun _ _ => 0)
      case atStart => exact ⟨rfl, rfl⟩
      case round =>
        obtain ⟨rfl, hwr⟩ := hrel
        subst hwr
        go_wp2_with fail
        refine (sure19_any _).mono ?_
        rintro e w8 ⟨rfl, hb8⟩
        have HB8 := hid (HBQ.out.trans (hb8.mono HBQ.out.size))
        clear hb8
        go_wp2_with fail
        go_ret
        exact ⟨rfl, HB8.out⟩
  | cons U R =>
    have hnp : 0 < n := by rw [HN.out, hL]; simp
    have hk1 : ok = true := by rw [HOK.out, hL]; rfl
    have hU : (plc x0 x1)[0]? = some u := by rw [HU.out, hL]; rfl
    obtain ⟨vn, hV, _, hV0⟩ := turn_at hU
    have hvv : v = ⟨u.a, vn, u.m, u.b⟩ := by
      rw [HV.out]
      cases hM : plc x1 x0 with
      | nil => rw [hM] at hV; simp at hV
      | cons a b => rw [hM] at hV; exact Option.some.inj hV
    have hvn := hV0 rfl
    subst hvv hk1
    have hq : (x0.toList == x1.toList) = false := by
      cases hh : (x0.toList == x1.toList) with
      | false => rfl
      | true => have := (HEQ.out.1 hh).1; rw [hL] at this; cases this
    obtain ⟨ua, un, ub, um⟩ := u
    simp only at hvn
    subst hvn
    have g1 : decide ((n : Int) > 0) = true := decide_eq_true (by omega)
    have i1 : (0 : Int) < (n : Int) := by omega
    obtain ⟨b, o, hA, hb, d0, d1, d2, d3⟩ := rdC_at (by have := HT6.out.l; exact this) hU
    subst hA
    simp only [Nat.zero_mul, Nat.add_zero] at d0 d1 d2 d3
    have t1 := HT6.out.g1
    have e0 := cell_of_blk t1 0
    have e1 := cell_of_blk t1 1
    have e2 := cell_of_blk t1 2
    have e3 := cell_of_blk t1 3
    simp only [List.getElem?_toArray, List.getElem?_cons_zero, List.getElem?_cons_succ] at e0 e1 e2 e3
    clear t1 hU hV hV0 hL
    rcases HES.out with ⟨z1, z2, z3⟩ | ⟨z1, z2, z3⟩
    · subst z2 z3
      clear z1
      go_quiet (fail)
      have HBQ := hid (below_drewN HBW.out nq)
      have HT7 := hid (HT6.out.later (below_drewN (Below.refl _ _) nq))
      generalize w6.drewN nq = w7 at HBQ HT7 ⊢
      clear d0 d1 d2 d3 e0 e1 e2 e3
      go_wp2_with fail
      go_loopw [13] (fun i wr => ∃ k : Nat, k ≤ n ∧ i = .int .i64 k ∧ Hid (∃ m, wr = w7.drewN m)) (fun i _ => n - (intOf i).toNat)
      case atStart => exact ⟨0, Nat.zero_le _, rfl, hid ⟨0, rfl⟩⟩
      case round =>
        obtain ⟨k, hk, rfl, HM⟩ := hrel
        have HTr : Hid (Two wr w.heap.size (plc x0 x1) (plc x1 x0) (.slice (some ⟨b, o, none⟩) n c1) (.slice a2 n c2) G1 G2 ⟨ua, un, ub, um⟩ ⟨ua, un, um, ub⟩ ∧ Below w.heap.size w wr) := hid (by
          obtain ⟨m, rfl⟩ := HM.out
          exact ⟨HT7.out.later (below_drewN (Below.refl _ _) m), below_drewN HBQ.out m⟩)
        by_cases hlt : k < n
        · obtain ⟨x, hx⟩ : ∃ x, (plc x0 x1)[k]? = some x := ⟨_, List.getElem?_eq_getElem (by have := HN.out; omega)⟩
          obtain ⟨yn, hy, hln, _⟩ := turn_at hx
          obtain ⟨xa, xn, xb, xm⟩ := x
          obtain ⟨bb, oo, eA, _, d0, d1, d2, d3⟩ := rdC_at HTr.out.1.l hx
          cases eA
          obtain ⟨b2, o2, eB, _, f0, f1, f2, f3⟩ := rdC_at HTr.out.1.m hy
          subst eB
          simp only at d0 d1 d2 d3 f0 f1 f2 f3 hln
          have j1 : (0 : Int) ≤ (k : Int) := by omega
          have j2 : (k : Int) < (n : Int) := by omega
          clear hx hy
          by_cases hnn : xn = yn
          · subst hnn
            clear hln
            go_wp2_with fail
            go_quiet (fail)
            have HM2 : Hid (∃ m, wr.drewN nq = w7.drewN m) := hid (by
              obtain ⟨m, rfl⟩ := HM.out
              exact ⟨_, World.drewN_drewN _ _ _⟩)
            generalize wr.drewN nq = wq at HM2 ⊢
            go_wp2_with fail
            go_roundw
            case rel => exact ⟨k + 1, by omega, by go_num, HM2⟩
            case measure => simp [intOf]; omega
          · obtain ⟨p, rfl, p1, p2, p3, p4⟩ := hln.resolve_left hnn
            have HAH : Hid (∀ w', Calls Try.prog 17 #[.string x0, .string x1, .int .i64 p] w' fun e w'' => e = .returned (.bool true) ∧ ∃ m, w'' = w'.drewN m) := hid fun w' => ahead_any x0 x1 p w' p1 p2 p3 (by omega) p4
            have qn : (xn == yn) = false := zne hnn
            have qn2 : (xn != yn) = true := bne_iff_ne.2 hnn
            clear hln hnn p1 p2 p3 p4
            go_wp2_with fail
            go_quiet ((go_at_call 17; exact (HAH.out _).mono (fun e w'' h => ⟨h.1, by obtain ⟨m, hm⟩ := h.2; exact ⟨_, by rw [hm, World.drewN_drewN]⟩⟩)))
            have HM2 : Hid (∃ m, wr.drewN nq = w7.drewN m) := hid (by
              obtain ⟨m, rfl⟩ := HM.out
              exact ⟨_, World.drewN_drewN _ _ _⟩)
            generalize wr.drewN nq = wq at HM2 ⊢
            go_wp2_with fail
            go_roundw
            case rel => exact ⟨k + 1, by omega, by go_num, HM2⟩
            case measure => simp [intOf]; omega
        · have hkn : ¬ (k : Int) < (n : Int) := by omega
          have t1 := HTr.out.1.g1
          have t2 := HTr.out.1.g2
          have e0 := cell_of_blk t1 0
          have e1 := cell_of_blk t1 1
          have y0 := cell_of_blk t2 0
          have y1 := cell_of_blk t2 1
          simp only [List.getElem?_toArray, List.getElem?_cons_zero, List.getElem?_cons_succ] at e0 e1 y0 y1
          clear t1 t2 hlt
          go_wp2_with fail
          refine (sure19_any _).mono ?_
          rintro e w8 ⟨rfl, hb8⟩
          have HB8 := hid (HTr.out.2.trans (hb8.mono HTr.out.2.size))
          clear hb8
          go_wp2_with fail
          go_ret
          exact ⟨rfl, HB8.out⟩
    · have q1 : ((E1 : Int) == 0) = false := ine (by omega)
      have q2 : IntKind.i64.wrap ((E1 : Int) + (E2 : Int)) = 3 := by rw [IntKind.wrap_i64]; omega
      clear z1 z2 z3
      go_quiet (fail)
      have HBQ := hid (below_drewN HBW.out nq)
      have HT7 := hid (HT6.out.later (below_drewN (Below.refl _ _) nq))
      generalize w6.drewN nq = w7 at HBQ HT7 ⊢
      clear d0 d1 d2 d3 e0 e1 e2 e3
      go_wp2_with fail
      go_loopw [13] (fun i wr => ∃ k : Nat, k ≤ n ∧ i = .int .i64 k ∧ Hid (∃ m, wr = w7.drewN m)) (fun i _ => n - (intOf i).toNat)
      case atStart => exact ⟨0, Nat.zero_le _, rfl, hid ⟨0, rfl⟩⟩
      case round =>
        obtain ⟨k, hk, rfl, HM⟩ := hrel
        have HTr : Hid (Two wr w.heap.size (plc x0 x1) (plc x1 x0) (.slice (some ⟨b, o, none⟩) n c1) (.slice a2 n c2) G1 G2 ⟨ua, un, ub, um⟩ ⟨ua, un, um, ub⟩ ∧ Below w.heap.size w wr) := hid (by
          obtain ⟨m, rfl⟩ := HM.out
          exact ⟨HT7.out.later (below_drewN (Below.refl _ _) m), below_drewN HBQ.out m⟩)
        by_cases hlt : k < n
        · obtain ⟨x, hx⟩ : ∃ x, (plc x0 x1)[k]? = some x := ⟨_, List.getElem?_eq_getElem (by have := HN.out; omega)⟩
          obtain ⟨yn, hy, hln, _⟩ := turn_at hx
          obtain ⟨xa, xn, xb, xm⟩ := x
          obtain ⟨bb, oo, eA, _, d0, d1, d2, d3⟩ := rdC_at HTr.out.1.l hx
          cases eA
          obtain ⟨b2, o2, eB, _, f0, f1, f2, f3⟩ := rdC_at HTr.out.1.m hy
          subst eB
          simp only at d0 d1 d2 d3 f0 f1 f2 f3 hln
          have j1 : (0 : Int) ≤ (k : Int) := by omega
          have j2 : (k : Int) < (n : Int) := by omega
          clear hx hy
          by_cases hnn : xn = yn
          · subst hnn
            clear hln
            go_wp2_with fail
            go_quiet (fail)
            have HM2 : Hid (∃ m, wr.drewN nq = w7.drewN m) := hid (by
              obtain ⟨m, rfl⟩ := HM.out
              exact ⟨_, World.drewN_drewN _ _ _⟩)
            generalize wr.drewN nq = wq at HM2 ⊢
            go_wp2_with fail
            go_roundw
            case rel => exact ⟨k + 1, by omega, by go_num, HM2⟩
            case measure => simp [intOf]; omega
          · obtain ⟨p, rfl, p1, p2, p3, p4⟩ := hln.resolve_left hnn
            have HAH : Hid (∀ w', Calls Try.prog 17 #[.string x0, .string x1, .int .i64 p] w' fun e w'' => e = .returned (.bool true) ∧ ∃ m, w'' = w'.drewN m) := hid fun w' => ahead_any x0 x1 p w' p1 p2 p3 (by omega) p4
            have qn : (xn == yn) = false := zne hnn
            have qn2 : (xn != yn) = true := bne_iff_ne.2 hnn
            clear hln hnn p1 p2 p3 p4
            go_wp2_with fail
            go_quiet ((go_at_call 17; exact (HAH.out _).mono (fun e w'' h => ⟨h.1, by obtain ⟨m, hm⟩ := h.2; exact ⟨_, by rw [hm, World.drewN_drewN]⟩⟩)))
            have HM2 : Hid (∃ m, wr.drewN nq = w7.drewN m) := hid (by
              obtain ⟨m, rfl⟩ := HM.out
              exact ⟨_, World.drewN_drewN _ _ _⟩)
            generalize wr.drewN nq = wq at HM2 ⊢
            go_wp2_with fail
            go_roundw
            case rel => exact ⟨k + 1, by omega, by go_num, HM2⟩
            case measure => simp [intOf]; omega
        · have hkn : ¬ (k : Int) < (n : Int) := by omega
          have t1 := HTr.out.1.g1
          have t2 := HTr.out.1.g2
          have e0 := cell_of_blk t1 0
          have e1 := cell_of_blk t1 1
          have y0 := cell_of_blk t2 0
          have y1 := cell_of_blk t2 1
          simp only [List.getElem?_toArray, List.getElem?_cons_zero, List.getElem?_cons_succ] at e0 e1 y0 y1
          clear t1 t2 hlt
          go_wp2_with fail
          refine (sure19_any _).mono ?_
          rintro e w8 ⟨rfl, hb8⟩
          have HB8 := hid (HTr.out.2.trans (hb8.mono HTr.out.2.size))
          clear hb8
          go_wp2_with fail
          go_ret
          exact ⟨rfl, HB8.out⟩

theorem own : ownKnob Try.prog.godebug = none := by kernel_rfl

set_option maxRecDepth 100000 in
theorem contract (H : Type) (enc : TypeId × Value → H) (W : World) (base : Nat) (args : Array Value) (ds gs : List (DataW H)) (before : List MemPlace)
    (hval : ∀ (j : Nat) t v, Try.f6.params[j]? = some t → args[j]? = some v → Value.okWide Try.prog W .any base t v)
    (hW : DataW.Whole enc Try.prog Try.f6.params.toList Rows.scanTurnsSpec.vars false W args.toList ds gs before)
    (hk : Rows.uptoSmall H (ds ++ gs) = true)
    : Calls Try.prog 6 args W fun e W' => ∃ v, e = .returned v ∧ Rows.scanTurnsSpec.post enc Try.prog Try.f6 false true false false W args v W' := by
  have hW' := hW
  obtain ⟨p, q, hA0, hV, rfl, hfz, hnd⟩ := hW
  have hA : DataW.TrodAll enc Try.prog W 0 (fun _ => true) true Try.f6.params.toList args.toList ds p := hA0
  rw [Try.params6] at hA hval
  obtain ⟨v0, vs0, d0, ds0, p0, q0, hargs0, rfl, rfl, h0, r0⟩ := trodAll_cons hA
  obtain ⟨v1, vs1, d1, ds1, p1, q1, hargs1, rfl, rfl, h1, r1⟩ := trodAll_cons r0
  obtain ⟨rfl, rfl, rfl⟩ := trodAll_nil r1
  obtain rfl : args = #[v0, v1] := by cases args; simp_all
  obtain ⟨rfl, rfl⟩ := trodVars_none hV
  obtain ⟨x0, rfl, rfl, rfl, hmax0⟩ := open_string Try.underlying9 (hval 0 9 v0 rfl rfl) h0
  obtain ⟨x1, rfl, rfl, rfl, hmax1⟩ := open_string Try.underlying9 (hval 1 9 v1 rfl rfl) h1
  clear hA0
  simp only [List.append_nil] at hW' hk
  have hk' : Rows.uptoBulkAll (H := H) [DataW.lit (.string x0.data.toList), DataW.lit (.string x1.data.toList)] ≤ 1048576 := of_decide_eq_true hk
  simp only [Rows.uptoBulkAll, Rows.uptoBulk] at hk'
  have hls0 : x0.data.toList.length = x0.size := size_data x0
  have hls1 : x1.data.toList.length = x1.size := size_data x1
  refine (walk x0 x1 W (by omega) (by omega)).mono fun e W' ⟨he, hb⟩ => ?_
  subst he
  exact ⟨_, rfl, _, _, _, [], [], [], hW', trodAll_cons_mk (shut_bool Try.underlying4 _) trodAll_mk0, trodAll_cons_mk (shut_string Try.underlying9 hmax0) (trodAll_cons_mk (shut_string Try.underlying9 hmax1) trodAll_mk0), rfl, hb.frame _, fun h => by cases h⟩

set_option maxRecDepth 100000 in
theorem lifted (os : Os) (started : os.Started) (H : Type) (enc : TypeId × Value → H) (F : Stop.Interp) :
    ReturnsInHanded {} Try.checked os 6 .any ((Rows.OpenSpec.upto Rows.scanTurnsSpec).preRow enc Try.prog Try.f6 Rows.scanTurnsUptoRow.domain false Rows.scanTurnsUptoRow.laid) (((Rows.OpenSpec.upto Rows.scanTurnsSpec).at F).post enc Try.prog Try.f6 false true false false) := by
  refine returnsInHanded_of_row (C := Try.checked) (s := Rows.OpenSpec.upto Rows.scanTurnsSpec) own started (by kernel_rfl) Try.func6
    (witness_row_at (enc := enc) (C := Try.checked) false
      (World.holding Try.prog os ⟨#[], #[], []⟩)
      #[.string .empty, .string .empty] rfl (by kernel_rfl) (by kernel_rfl) (by kernel_rfl)
      (OpenSpec.preRow_of_cond 8 (x := ([.lit (.string []), .lit (.string [])], [], [])) (by kernel_rfl) (by kernel_rfl) (fun k hk => by cases hk; kernel_rfl) (by kernel_rfl) (laidMetH_of_parts (laidMet_nil _ _) (by kernel_rfl)))) ?_
  intro W base args ds gs before hval hW _ hcond hsz hL _ _
  exact contract H enc W base args ds gs before hval hW (hcond _ rfl)

theorem proved : Rows.ScanTurnsUptoSaid :=
  OpenClaim.holds_of_cond 6 Try.f6 rfl rfl rfl rfl rfl rfl rfl ⟨rfl, rfl, rfl, rfl, rfl⟩ rfl rfl rfl rfl rfl (by kernel_rfl) Try.func6 (by kernel_rfl)
    (of_decide_eq_true (by kernel_rfl)) (by unfold Func.isWrapper; first | (rw [if_pos (by decide +kernel)]; kernel_rfl) | (rw [if_neg (by decide +kernel)]; exact ⟨rfl, rfl⟩))
    (fun os started H enc _ F => by rw [OpenClaim.pre_eq_preRow]; exact lifted os started H enc F)

end Go.Proofs.Ytagjjhlegojpbaa.scanTurns
