/-
  PROVED: for every two texts and every number ScanRuns returns true, and what was handed in reads afterwards as it read before; the condition: what the arguments hold is at most 1048576 in bulk.
-/
import Derived.Test.YtagjjhlegojpbaaYj
import Derived.Test.YtagjjhlegojpbaaYm
import Derived.ProofKit
import Derived.OpenShut
import Derived.LaidLaws
import Derived.LaidHandle
import Derived.SizedLaws
import Derived.Deep.DeepHandedRow
namespace Go.Proofs.Ytagjjhlegojpbaa.scanRuns
open Go.ChangeShapes Go.WideShapes Go.ChangeAt Go.RowKit
open Go.ChangeMaps (open_string shut_string)
open Ed (Ch Pr)

theorem size_data (s : ByteArray) : s.data.toList.length = s.size := by rw [Array.length_toList]; rfl
theorem rnM_bnd {M : Nat} : ∀ (l : List Ch) (most : Int) (acc : List Pr), (∀ u ∈ l, 0 ≤ u.a ∧ u.a ≤ (M : Int)) → Bnd M acc → Bnd M (Scn.rnM most acc l)
  | [], most, acc, _, h => by rw [Scn.rnM_nil]; exact h
  | u :: l, most, acc, hl, h => by
    have hu := hl u (by simp)
    by_cases he : ∃ p, acc.getLast? = some p ∧ p.1 + p.2 = u.a
    · obtain ⟨p, hp, he⟩ := he
      rw [Scn.rnM_ext hp he]
      refine rnM_bnd l most _ (fun q hq => hl q (by simp [hq])) ?_
      have e := Scn.up_set hp
      unfold Scn.up at e
      rw [e]
      refine bnd_set h ?_ (by omega)
      rw [List.getLast?_eq_getElem?] at hp
      exact hp
    · have hn : ∀ p, acc.getLast? = some p → p.1 + p.2 ≠ u.a := fun p hp h2 => he ⟨p, hp, h2⟩
      by_cases hm : 0 ≤ most ∧ most ≤ acc.length
      · rw [Scn.rnM_stop hn hm]; exact h
      · rw [Scn.rnM_new hn hm]
        exact rnM_bnd l most _ (fun q hq => hl q (by simp [hq])) (bnd_new h hu.1 hu.2)
theorem rnL_len (x y : ByteArray) (most : Int) : (rnL x y most).length ≤ x.size := by
  have h1 := Scn.rnM_len (plc x y) most []
  have h2 := plc_len x y
  unfold rnL
  simp at h1
  omega
theorem rnL_bnd (x y : ByteArray) (most : Int) : Bnd x.size (rnL x y most) := by
  refine rnM_bnd _ _ _ (fun u hu => ?_) (fun p hp => by simp at hp)
  obtain ⟨k, hk⟩ := List.getElem?_of_mem hu
  exact plc_ok hk
theorem rnL_apt (x y : ByteArray) : Scn.Apt (rnL x y (-1)) ∧ Scn.sm (rnL x y (-1)) = (plc x y).length := by
  have h := Scn.rnM_apt (plc x y) [] 0 ⟨fun p hp => by simp at hp, fun i p q hp => by simp at hp⟩ (Scn.pl_rise _ _ _ _) (fun p hp => by simp at hp)
  refine ⟨h.1, ?_⟩
  have := h.2
  unfold rnL
  rw [this]
  simp [Scn.sm]
theorem sm_take {l : List Pr} {k : Nat} {p : Pr} (h : l[k]? = some p) : Scn.sm (l.take (k + 1)) = Scn.sm (l.take k) + p.2 := by
  rw [List.take_add_one, h, Scn.sm_app]
  simp [Scn.sm]
theorem sm_nonneg {l : List Pr} (h : ∀ p ∈ l, 1 ≤ p.2) : 0 ≤ Scn.sm l := by
  induction l with
  | nil => exact Int.le_refl 0
  | cons p l ih =>
    have h1 := h p (by simp)
    have h2 := ih (fun q hq => h q (by simp [hq]))
    show 0 ≤ p.2 + Scn.sm l
    omega
theorem sm_le {l : List Pr} (h : ∀ p ∈ l, 1 ≤ p.2) (k : Nat) : Scn.sm (l.take k) ≤ Scn.sm l := by
  have h1 : Scn.sm l = Scn.sm (l.take k) + Scn.sm (l.drop k) := by rw [← Scn.sm_app, List.take_append_drop]
  have h2 := sm_nonneg (l := l.drop k) (fun p hp => h p (List.mem_of_mem_drop hp))
  omega
theorem sure_r : rnL ⟨#[97, 98, 99, 100]⟩ ⟨#[120, 121, 99, 122]⟩ (-1) = [(1, 2), (4, 1)] := by decide +kernel

set_option maxHeartbeats 8000000 in
set_option maxRecDepth 100000 in
theorem walk (x0 x1 : ByteArray) (x2 : Int) (w : World) (h0 : x0.size ≤ 1048576) (h1 : x1.size ≤ 1048576) :
    Calls Try.prog 8 #[.string x0, .string x1, .int .i64 x2] w fun e w' => e = .returned (.bool true) ∧ Below w.heap.size w w' := by
  have HP := hid (runs_any x0 x1 x2 w (by omega) (by omega))
  have HPR : Hid (∀ w', Calls Try.prog 19 #[.string x0, .string x1, .int .i64 x2] w' fun e w'' => ∃ v, e = .returned v ∧ OwnSp2 w'' w'.heap.size v (rnL x0 x1 x2) ∧ Below w'.heap.size w' w'') := hid fun w' => refRuns_any x0 x1 x2 w' (by omega) (by omega)
  have HQ : Hid (∀ w', Calls Try.prog 18 #[.string x0, .string x1, .int .i64 (-1)] w' fun e w'' => ∃ v, e = .returned v ∧ OwnSp w'' w'.heap.size v (rnL x0 x1 (-1)) ∧ Below w'.heap.size w' w'') := hid fun w' => runs_any x0 x1 (-1) w' (by omega) (by omega)
  have HX : Hid (∀ w', Calls Try.prog 18 #[.string ⟨#[97, 98, 99, 100]⟩, .string ⟨#[120, 121, 99, 122]⟩, .int .i64 (-1)] w' fun e w'' => ∃ v, e = .returned v ∧ OwnSp w'' w'.heap.size v [(1, 2), (4, 1)] ∧ Below w'.heap.size w' w'') := hid fun w' => by
    have h := runs_any ⟨#[97, 98, 99, 100]⟩ ⟨#[120, 121, 99, 122]⟩ (-1) w' (show (4 : Nat) ≤ 1099511627776 by omega) (show (4 : Nat) ≤ 1099511627776 by omega)
    rw [sure_r] at h
    exact h
  obtain ⟨N, hN⟩ : ∃ N, N = (plc x0 x1).length := ⟨_, rfl⟩
  have hNl : N ≤ 1048576 := by have := plc_len x0 x1; omega
  have HA : Hid (∀ w', Calls Try.prog 13 #[.string x0, .string x1, .int .i64 (-1)] w' fun e w'' => (∃ a c, e = .returned (.slice a N c)) ∧ Below w'.heap.size w' w'') := hid fun w' => by
    refine (all_any x0 x1 (-1) w' (by omega) (by omega)).mono ?_
    rintro e w'' ⟨v, rfl, hO, hb⟩
    obtain ⟨a, c, rfl⟩ := own_shape hO
    rw [Scn.mst_all, ← hN]
    exact ⟨⟨_, _, rfl⟩, hb⟩
  have HPl := hid (rnL_len x0 x1 x2)
  have HQl := hid (rnL_len x0 x1 (-1))
  have HQB := hid (rnL_bnd x0 x1 (-1))
  have HQA : Hid (Scn.Apt (rnL x0 x1 (-1)) ∧ Scn.sm (rnL x0 x1 (-1)) = (N : Int)) := hid (by rw [hN]; exact rnL_apt x0 x1)
  generalize rnL x0 x1 x2 = P at HP HPR HPl
  generalize rnL x0 x1 (-1) = Q at HQ HQl HQB HQA
  clear hN
  obtain ⟨n, hn⟩ : ∃ n, n = P.length := ⟨_, rfl⟩
  obtain ⟨q, hq⟩ : ∃ q, q = Q.length := ⟨_, rfl⟩
  have HNP := hid hn
  have HNQ := hid hq
  have hnl : n ≤ 1048576 := by have := HPl.out; omega
  have hql : q ≤ 1048576 := by have := HQl.out; omega
  go_enter Try.func8, Try.ntmps8
  go_wp2_with fail
  refine HP.out.mono ?_
  rintro e w1 ⟨v1, rfl, hO1, hb1⟩
  obtain ⟨a1, c1, e1⟩ := own_shape hO1
  subst e1
  have HO1 := hid (own_rd hO1)
  have HB1 := hid hb1
  rw [← hn] at HO1 ⊢
  clear hO1 hb1 HP
  go_wp2_with fail
  refine (HPR.out w1).mono ?_
  rintro e w2 ⟨v2, rfl, hO2, hb2⟩
  obtain ⟨a2, c2, e2⟩ := own_shape hO2
  subst e2
  have HR1 := hid (HO1.out.below hb2)
  have HR2 := hid (own_rd hO2)
  have HB2 := hid (HB1.out.trans (hb2.mono HB1.out.size))
  rw [← hn] at HR2 ⊢
  clear hO2 hb2 HPR HO1 hn
  go_wp2_with fail
  go_loopw [9] (fun i wr => ∃ k : Nat, k ≤ n ∧ i = .int .i64 k ∧ Hid (∃ m, wr = w2.drewN m)) (fun i _ => n - (intOf i).toNat)
  case atStart => exact ⟨0, Nat.zero_le _, rfl, hid ⟨0, rfl⟩⟩
  case round =>
    obtain ⟨k, hk, rfl, HM⟩ := hrel
    have HBr : Hid (Below w2.heap.size w2 wr) := hid (by obtain ⟨m, rfl⟩ := HM.out; exact below_drewN (Below.refl _ _) m)
    by_cases hlt : k < n
    · obtain ⟨p, hp⟩ : ∃ p, P[k]? = some p := ⟨_, List.getElem?_eq_getElem (by have := HNP.out; omega)⟩
      have hrd1 : RdP wr (.slice a1 n c1) P := by have h := HR1.out.below HBr.out; unfold RdP; rw [← HNP.out]; exact h
      have hrd2 : RdP wr (.slice a2 n c2) P := by have h := HR2.out.below HBr.out; unfold RdP; rw [← HNP.out]; exact h
      obtain ⟨b, o, eA, _, d0, d1⟩ := rdP_at hrd1 hp
      subst eA
      obtain ⟨b2, o2, eB, _, f0, f1⟩ := rdP_at hrd2 hp
      subst eB
      have j1 : (0 : Int) ≤ (k : Int) := by omega
      have j2 : (k : Int) < (n : Int) := by omega
      obtain ⟨pa, pb⟩ := p
      simp only at d0 d1 f0 f1
      clear hp hrd1 hrd2
      go_wp2_with fail
      go_quiet (fail)
      have HM2 : Hid (∃ m, wr.drewN nq = w2.drewN m) := hid (by
        obtain ⟨m, rfl⟩ := HM.out
        exact ⟨_, World.drewN_drewN _ _ _⟩)
      generalize wr.drewN nq = wq at HM2 ⊢
      go_wp2_with fail
      go_roundw
      case rel => exact ⟨k + 1, by omega, by go_num, HM2⟩
      case measure => simp [intOf]; omega
    · have hkn : ¬ (k : Int) < (n : Int) := by omega
      have HB3 := hid (HB2.out.trans (HBr.out.mono HB2.out.size))
      clear hlt HR1 HR2 HM HBr
      go_wp2_with fail
      generalize wr = wo at HB3 ⊢
      refine (HQ.out wo).mono ?_
      rintro e w3 ⟨v3, rfl, hO3, hb3⟩
      obtain ⟨a3, c3, e3⟩ := own_shape hO3
      subst e3
      have HR3 := hid (own_rd hO3)
      have HB4 := hid (HB3.out.trans (hb3.mono HB3.out.size))
      rw [← hq] at HR3 ⊢
      clear hO3 hb3 HQ hq
      go_wp2_with fail
      go_loopw [11, 12] (fun s i wr => ∃ k : Nat, k ≤ q ∧ i = .int .i64 k ∧ s = .int .i64 (Scn.sm (Q.take k)) ∧ Hid (∃ m, wr = w3.drewN m)) (fun _ i _ => q - (intOf i).toNat)
      case atStart => exact ⟨0, Nat.zero_le _, rfl, rfl, hid ⟨0, rfl⟩⟩
      case round =>
        obtain ⟨t, ht, rfl, rfl, HM3⟩ := hrel
        have HBr3 : Hid (Below w3.heap.size w3 wr) := hid (by obtain ⟨m, rfl⟩ := HM3.out; exact below_drewN (Below.refl _ _) m)
        by_cases hlt : t < q
        · obtain ⟨p, hp⟩ : ∃ p, Q[t]? = some p := ⟨_, List.getElem?_eq_getElem (by have := HNQ.out; omega)⟩
          have hrd3 : RdP wr (.slice a3 q c3) Q := by have h := HR3.out.below HBr3.out; unfold RdP; rw [← HNQ.out]; exact h
          obtain ⟨b, o, eA, _, d0, d1⟩ := rdP_at hrd3 hp
          subst eA
          have hpm := List.mem_of_getElem? hp
          have p1 := HQA.out.1.one p hpm
          have s1 := sm_take hp
          have s2 := sm_le HQA.out.1.one (t + 1)
          have s3 := sm_nonneg (l := Q.take t) (fun r hr => HQA.out.1.one r (List.mem_of_mem_take hr))
          have s4 := HQA.out.2
          obtain ⟨S0, hS0⟩ : ∃ S0, S0 = Scn.sm (Q.take t) := ⟨_, rfl⟩
          rw [← hS0] at s1 s3 ⊢
          have HS1 := hid s1
          have i0 : IntKind.i64.wrap (S0 + p.2) = S0 + p.2 := by rw [IntKind.wrap_i64]; omega
          have j1 : (0 : Int) ≤ (t : Int) := by omega
          have j2 : (t : Int) < (q : Int) := by omega
          have z0 : decide (p.2 < 1) = false := decide_eq_false (by omega)
          rcases Nat.eq_zero_or_pos t with h0 | hpos
          · subst h0
            obtain ⟨pa, pb⟩ := p
            simp only at d0 d1 z0 i0 HS1
            simp only [Nat.zero_mul, Nat.add_zero] at d0 d1
            clear hp hrd3 hpm p1 s1 s2 s3 s4 hS0
            go_wp2_with fail
            go_quiet (fail)
            have HM4 : Hid (∃ m, wr.drewN nq = w3.drewN m) := hid (by
              obtain ⟨m, rfl⟩ := HM3.out
              exact ⟨_, World.drewN_drewN _ _ _⟩)
            generalize wr.drewN nq = wq at HM4 ⊢
            go_wp2_with fail
            go_roundw
            case rel => exact ⟨1, by omega, rfl, by rw [HS1.out], HM4⟩
            case measure => simp [intOf]; omega
          · obtain ⟨m0, rfl⟩ : ∃ m0, t = m0 + 1 := ⟨t - 1, by omega⟩
            obtain ⟨r, hr⟩ : ∃ r, Q[m0]? = some r := ⟨_, List.getElem?_eq_getElem (by have := HNQ.out; omega)⟩
            obtain ⟨_, _, eC, _, f0, f1⟩ := rdP_at hrd3 hr
            cases eC
            have hgap := HQA.out.1.gap m0 r p hr hp
            obtain ⟨r0, r1, r2⟩ := HQB.out r (List.mem_of_getElem? hr)
            have i1 : IntKind.i64.wrap (r.1 + r.2) = r.1 + r.2 := by rw [IntKind.wrap_i64]; omega
            have z1 : decide (p.1 ≤ r.1 + r.2) = false := decide_eq_false (by omega)
            have z2 : decide (((m0 + 1 : Nat) : Int) > 0) = true := decide_eq_true (by omega)
            have z3 : IntKind.i64.wrap (((m0 + 1 : Nat) : Int) - 1) = (m0 : Int) := by rw [IntKind.wrap_i64]; omega
            have j3 : (0 : Int) ≤ (m0 : Int) := by omega
            have j4 : (m0 : Int) < (q : Int) := by omega
            obtain ⟨T, hT⟩ : ∃ T, T = m0 + 1 := ⟨_, rfl⟩
            rw [← hT] at d0 d1 z2 z3 j1 j2 HS1 ⊢
            have HTT := hid hT
            obtain ⟨pa, pb⟩ := p
            obtain ⟨ra, rb⟩ := r
            simp only at d0 d1 f0 f1 z0 z1 i0 i1 HS1
            have hTq : T < q := by omega
            have hT0 : T > 0 := by omega
            clear hp hr hrd3 hpm p1 s1 s2 s3 s4 hS0 hgap r0 r1 r2 hT hlt ht hpos
            go_wp2_with fail
            go_quiet (fail)
            have HM4 : Hid (∃ m, wr.drewN nq = w3.drewN m) := hid (by
              obtain ⟨m, rfl⟩ := HM3.out
              exact ⟨_, World.drewN_drewN _ _ _⟩)
            generalize wr.drewN nq = wq at HM4 ⊢
            go_wp2_with fail
            go_roundw
            case rel => exact ⟨T + 1, by omega, by go_num, by rw [HS1.out], HM4⟩
            case measure => simp [intOf]; omega
        · have hkn : ¬ (t : Int) < (q : Int) := by omega
          have hfull : Scn.sm (Q.take t) = (N : Int) := by
            rw [List.take_of_length_le (by have := HNQ.out; omega)]
            exact HQA.out.2
          rw [hfull]
          have HB5 := hid (HB4.out.trans (HBr3.out.mono HB4.out.size))
          clear hlt HR3 HM3 HBr3 hfull
          go_wp2_with fail
          generalize wr = wp at HB5 ⊢
          refine (HX.out wp).mono ?_
          rintro e w5 ⟨v5, rfl, hO5, hb5⟩
          obtain ⟨a5, c5, e5⟩ := own_shape hO5
          subst e5
          have HR5 := hid (own_rd hO5)
          have HB6 := hid (HB5.out.trans (hb5.mono HB5.out.size))
          clear hO5 hb5 HX
          go_wp2_with fail
          refine (HA.out w5).mono ?_
          rintro e w6 ⟨⟨a6, c6, rfl⟩, hb6⟩
          have HR6 := hid (HR5.out.below hb6)
          have HB7 := hid (HB6.out.trans (hb6.mono HB6.out.size))
          clear hb6 HA
          have hrd6 : RdP w6 (.slice a5 2 c5) [(1, 2), (4, 1)] := HR6.out
          obtain ⟨b, o, eA, _, d0, d1⟩ := rdP_at (k := 0) (x := (1, 2)) hrd6 rfl
          subst eA
          simp only [Nat.zero_mul, Nat.add_zero] at d0 d1
          clear hrd6
          go_wp2_with fail
          refine (sure19_any w6).mono ?_
          rintro e w7 ⟨rfl, hb7⟩
          have HB8 := hid (HB7.out.trans (hb7.mono HB7.out.size))
          clear hb7
          go_wp2_with fail
          go_ret
          exact ⟨rfl, HB8.out⟩

theorem own : ownKnob Try.prog.godebug = none := by kernel_rfl

set_option maxRecDepth 100000 in
theorem contract (H : Type) (enc : TypeId × Value → H) (W : World) (base : Nat) (args : Array Value) (ds gs : List (DataW H)) (before : List MemPlace)
    (hval : ∀ (j : Nat) t v, Try.f8.params[j]? = some t → args[j]? = some v → Value.okWide Try.prog W .any base t v)
    (hW : DataW.Whole enc Try.prog Try.f8.params.toList Rows.scanRunsSpec.vars false W args.toList ds gs before)
    (hk : Rows.uptoSmall H (ds ++ gs) = true)
    : Calls Try.prog 8 args W fun e W' => ∃ v, e = .returned v ∧ Rows.scanRunsSpec.post enc Try.prog Try.f8 false true false false W args v W' := by
  have hW' := hW
  obtain ⟨p, q, hA0, hV, rfl, hfz, hnd⟩ := hW
  have hA : DataW.TrodAll enc Try.prog W 0 (fun _ => true) true Try.f8.params.toList args.toList ds p := hA0
  rw [Try.params8] at hA hval
  obtain ⟨v0, vs0, d0, ds0, p0, q0, hargs0, rfl, rfl, h0, r0⟩ := trodAll_cons hA
  obtain ⟨v1, vs1, d1, ds1, p1, q1, hargs1, rfl, rfl, h1, r1⟩ := trodAll_cons r0
  obtain ⟨v2, vs2, d2, ds2, p2, q2, hargs2, rfl, rfl, h2, r2⟩ := trodAll_cons r1
  obtain ⟨rfl, rfl, rfl⟩ := trodAll_nil r2
  obtain rfl : args = #[v0, v1, v2] := by cases args; simp_all
  obtain ⟨rfl, rfl⟩ := trodVars_none hV
  obtain ⟨x0, rfl, rfl, rfl, hmax0⟩ := open_string Try.underlying9 (hval 0 9 v0 rfl rfl) h0
  obtain ⟨x1, rfl, rfl, rfl, hmax1⟩ := open_string Try.underlying9 (hval 1 9 v1 rfl rfl) h1
  obtain ⟨x2, rfl, rfl, rfl, hmax2⟩ := open_int Try.underlying3 (hval 2 3 v2 rfl rfl) h2
  clear hA0
  simp only [List.append_nil] at hW' hk
  have hk' : Rows.uptoBulkAll (H := H) [DataW.lit (.string x0.data.toList), DataW.lit (.string x1.data.toList), DataW.lit (.int .i64 x2)] ≤ 1048576 := of_decide_eq_true hk
  simp only [Rows.uptoBulkAll, Rows.uptoBulk] at hk'
  have hls0 : x0.data.toList.length = x0.size := size_data x0
  have hls1 : x1.data.toList.length = x1.size := size_data x1
  refine (walk x0 x1 x2 W (by omega) (by omega)).mono fun e W' ⟨he, hb⟩ => ?_
  subst he
  exact ⟨_, rfl, _, _, _, [], [], [], hW', trodAll_cons_mk (shut_bool Try.underlying4 _) trodAll_mk0, trodAll_cons_mk (shut_string Try.underlying9 hmax0) (trodAll_cons_mk (shut_string Try.underlying9 hmax1) (trodAll_cons_mk (shut_int Try.underlying3 hmax2) trodAll_mk0)), rfl, hb.frame _, fun h => by cases h⟩

set_option maxRecDepth 100000 in
theorem lifted (os : Os) (started : os.Started) (H : Type) (enc : TypeId × Value → H) (F : Stop.Interp) :
    ReturnsInHanded {} Try.checked os 8 .any ((Rows.OpenSpec.upto Rows.scanRunsSpec).preRow enc Try.prog Try.f8 Rows.scanRunsUptoRow.domain false Rows.scanRunsUptoRow.laid) (((Rows.OpenSpec.upto Rows.scanRunsSpec).at F).post enc Try.prog Try.f8 false true false false) := by
  refine returnsInHanded_of_row (C := Try.checked) (s := Rows.OpenSpec.upto Rows.scanRunsSpec) own started (by kernel_rfl) Try.func8
    (witness_row_at (enc := enc) (C := Try.checked) false
      (World.holding Try.prog os ⟨#[], #[], []⟩)
      #[.string .empty, .string .empty, .int .i64 0] rfl (by kernel_rfl) (by kernel_rfl) (by kernel_rfl)
      (OpenSpec.preRow_of_cond 8 (x := ([.lit (.string []), .lit (.string []), .lit (.int .i64 0)], [], [])) (by kernel_rfl) (by kernel_rfl) (fun k hk => by cases hk; kernel_rfl) (by kernel_rfl) (laidMetH_of_parts (laidMet_nil _ _) (by kernel_rfl)))) ?_
  intro W base args ds gs before hval hW _ hcond hsz hL _ _
  exact contract H enc W base args ds gs before hval hW (hcond _ rfl)

theorem proved : Rows.ScanRunsUptoSaid :=
  OpenClaim.holds_of_cond 8 Try.f8 rfl rfl rfl rfl rfl rfl rfl ⟨rfl, rfl, rfl, rfl, rfl⟩ rfl rfl rfl rfl rfl (by kernel_rfl) Try.func8 (by kernel_rfl)
    (of_decide_eq_true (by kernel_rfl)) (by unfold Func.isWrapper; first | (rw [if_pos (by decide +kernel)]; kernel_rfl) | (rw [if_neg (by decide +kernel)]; exact ⟨rfl, rfl⟩))
    (fun os started H enc _ F => by rw [OpenClaim.pre_eq_preRow]; exact lifted os started H enc F)

end Go.Proofs.Ytagjjhlegojpbaa.scanRuns
