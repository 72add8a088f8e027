/-
  StatSums, up to the bulk, for every list of counts: a count for each name and the numbers, a line each, are the document's, or the error; summed again nothing changes. (The card: the row lists package-level variables, of which the proof uses errors.errorType and strconv's table.)
-/
import Derived.Test.YtnbonghlmdnabaaDoorBy
import Derived.Test.YtnbonghlmdnabaaDoorBc
import Derived.Test.YtnbonghlmdnabaaDoorBw
import Derived.Test.YtnbonghlmdnabaaDoorHw
namespace Go.Proofs.YtnbonghlmdnabaaDoor.statSums
open Go.ChangeShapes Go.WideShapes Go.ChangeAt Go.RowKit
open Go.ChangeMaps (open_string shut_string)
open Sx

theorem q_len (c : Ct) (h : c.nm.size ≤ 1048576) : (q c).length ≤ 4194306 := by
  have h1 := Pq.quote_len c.nm.data.toList
  rw [dsize] at h1
  unfold q
  omega
theorem str_same (s : ByteArray) : (s.toList == s.toList) = true := beq_self_eq_true _
theorem fold_nms : ∀ (l r : List Ct) (x : ByteArray), x ∈ nms (l.foldl addK r) → x ∈ nms r ∨ x ∈ nms l
  | [], r, x, h => .inl h
  | c :: l, r, x, h => by
    rcases fold_nms l (addK r c) x h with h | h
    · by_cases hc : c.nm ∈ nms r
      · rw [nms_add hc] at h; exact .inl h
      · rw [nms_new hc] at h
        rcases List.mem_append.1 h with h | h
        · exact .inl h
        · exact .inr (by rw [List.mem_singleton.1 h]; exact List.mem_cons_self ..)
    · exact .inr (List.mem_cons_of_mem _ h)
theorem sum_again (l : List Ct) : okL (sumS l) = true ∧ sumK (sumS l) = sumS l := by
  unfold sumS
  cases h : okL l with
  | true => rw [if_pos rfl]; exact ⟨sumK_ok h, sumK_twice l⟩
  | false => exact ⟨rfl, rfl⟩
theorem sumS_nm {l : List Ct} {y : Ct} (h : y ∈ sumS l) : ∃ x ∈ l, x.nm = y.nm := by
  unfold sumS at h
  split at h
  · have h1 : y.nm ∈ nms (sumK l) := List.mem_map_of_mem h
    rcases fold_nms l [] y.nm h1 with h2 | h2
    · cases h2
    · obtain ⟨x, hx, e⟩ := List.mem_map.1 h2
      exact ⟨x, hx, e⟩
  · cases h
set_option maxHeartbeats 4000000 in
set_option maxRecDepth 100000 in
theorem walk (v : Value) (l : List Ct) (w : World) (hr : RdK w v l) (_hw : ∀ c ∈ l, WfK c) (hl : l.length ≤ 1048576) (hz : ∀ c ∈ l, c.nm.size ≤ 1048576) (_hsh : v = .slice none 0 0 ∨ ∃ ad n c, v = .slice (some ad) n c) (hg : RdyK w) :
    Calls Tryd.prog 3 #[v] w fun e w' => e = .returned (.bool true) ∧ Below w.heap.size w w' := by
  have hnW : nameW l ≤ 4194306 := nameW_bound fun x hx => q_len x (hz x hx)
  have hbig : okL l = true → l.length * (nameW l + 2100) + nameW l ≤ 70368744177664 := fun h => by
    have h1 := (okL_iff.1 h).1
    have h2 : l.length * (nameW l + 2100) ≤ 65536 * (4194306 + 2100) := Nat.mul_le_mul h1 (by omega)
    omega
  have hs : ∀ x ∈ l, x.nm.size ≤ 35184371999999 := fun x hx => Nat.le_trans (hz x hx) (by decide)
  have hs2 : ∀ x ∈ l, x.nm.size ≤ maxLen := fun x hx => Nat.le_trans (hz x hx) (by decide)
  have hs3 : ∀ x ∈ sumS l, x.nm.size ≤ maxLen := fun x hx => by
    obtain ⟨y, hy, e⟩ := sumS_nm hx
    rw [← e]; exact hs2 y hy
  have hSl : (sumS l).length ≤ 1048576 := by
    unfold sumS
    split
    · exact Nat.le_trans (sumK_len l) hl
    · simp
  have HG := hid hg
  have HM := hid (fun w' (h : Below w.heap.size w w') => mine_any (RdX.below hr h) (by omega))
  have HA := hid (fun w' (u : Value) (h : Below w.heap.size w w') (hu : RdK w' u l) => sum_any hu (by omega) hs2)
  have HB := hid (fun w' (h : Below w.heap.size w w') => rSum_any (RdX.below hr h) (by omega))
  have HC := hid (fun w' (u : Value) (h : Below w.heap.size w w') (hu : RdK w' u l) => numbers_any hu (by omega) (HG.out.1.later h) hs hbig)
  have HD := hid (fun w' (h : Below w.heap.size w w') => rNumbers_any (RdX.below hr h) (by omega) hs hbig)
  have HE := hid (fun w' (u : Value) (h : Below w.heap.size w w') (hu : RdK w' u (sumS l)) => sum_any hu (by omega) hs3)
  rw [show sumE (sumS l) = .nilIface by unfold sumE; rw [(sum_again l).1]; rfl, show sumS (sumS l) = sumS l by rw [sumS, (sum_again l).1, if_pos rfl, (sum_again l).2]] at HE
  have HW := hid (fun w' (h : Below w.heap.size w w') => Sx.works_any w' (HG.out.2.below h) (HG.out.1.later h))
  have HN1 : Hid (∀ w', Below w.heap.size w w' → Calls Tryd.prog 9 #[sumE l] w' fun e w2 => e = .returned (.int .i64 (sumN l)) ∧ Below w'.heap.size w' w2) := hid (fun w' h => by
    unfold sumE sumN
    cases hh : okL l with
    | false => exact num_errno 1 w' (HG.out.2.below h)
    | true => exact num_nil w')
  have HN2 : Hid (∀ w', Below w.heap.size w w' → Calls Tryd.prog 9 #[nmE l] w' fun e w2 => e = .returned (.int .i64 (nmN l)) ∧ Below w'.heap.size w' w2) := hid (fun w' h => by
    unfold nmE nmN
    cases hh : okL l with
    | false => exact num_errno 1 w' (HG.out.2.below h)
    | true => exact num_nil w')
  have HEV : Hid (sumE l = .nilIface ∨ sumE l = .iface 57 (.int .i64 1)) := hid (by unfold sumE; split; exact .inl rfl; exact .inr rfl)
  obtain ⟨a, c, rfl⟩ := hr.shape
  obtain ⟨n, hnn⟩ : ∃ n, n = l.length := ⟨_, rfl⟩
  have HNN := hid hnn
  rw [← hnn] at HM HB HD ⊢
  clear hr _hw hl hz _hsh hg hnW hbig hs hnn hs2 hs3
  generalize sumE l = e1 at HA HN1 HEV
  generalize sumN l = k1 at HB HN1
  generalize nmE l = e2 at HC HN2
  generalize nmN l = k2 at HD HN2
  generalize nmS l = S2 at HC HD
  generalize sumS l = S at HA HB HE hSl
  obtain ⟨r, hrr⟩ : ∃ r, r = S.length := ⟨_, rfl⟩
  have HRL := hid hrr
  have hrl : r ≤ 1048576 := by omega
  have z1 := str_same S2
  have z3 : (k1 == k1) = true := zeq rfl
  have z4 : (k2 == k2) = true := zeq rfl
  have z5 : ((r : Int) == (r : Int)) = true := zeq rfl
  clear hrr hSl
  go_enter Tryd.func3, Tryd.ntmps3
  go_wp2_with fail
  refine (HM.out w (Below.refl _ _)).mono ?_
  rintro e w1 ⟨v1, rfl, hO1, hb1⟩
  obtain ⟨a1, c1, rfl⟩ := own_shape hO1
  have HB1 := hid hb1
  have HA1 := hid (HA.out w1 _ hb1 (own_rd hO1))
  rw [← HNN.out] at HA1 ⊢
  clear hO1 hb1 HA
  go_wp2_with fail
  refine HA1.out.mono ?_
  rintro e w2 ⟨v2, rfl, hO2, hb2⟩
  obtain ⟨a2, c2, rfl⟩ := own_shape hO2
  have HB2 := hid (HB1.out.trans (hb2.mono HB1.out.size))
  have HR2 := hid (own_rd hO2)
  rw [← HRL.out] at HR2 ⊢
  clear hb2 hO2 HA1 HB1
  go_wp2_with fail
  refine (HB.out w2 HB2.out).mono ?_
  rintro e w3 ⟨v3, rfl, hO3, hb3⟩
  obtain ⟨a3, c3, rfl⟩ := own_shape hO3
  have HB3 := hid (HB2.out.trans (hb3.mono HB2.out.size))
  have HQ3 := hid (own_rd hO3)
  have HR3 := hid (RdX.below HR2.out hb3)
  rw [← HRL.out] at HQ3 ⊢
  clear hb3 HB HB2 hO3 HR2
  go_wp2_with fail
  refine (HM.out w3 HB3.out).mono ?_
  rintro e w4 ⟨v4, rfl, hO4, hb4⟩
  obtain ⟨a4, c4, rfl⟩ := own_shape hO4
  have HB4 := hid (HB3.out.trans (hb4.mono HB3.out.size))
  have HC4 := hid (HC.out w4 _ HB4.out (own_rd hO4))
  have HQ4 := hid (RdX.below HQ3.out hb4)
  have HR4 := hid (RdX.below HR3.out hb4)
  rw [← HNN.out] at HC4 ⊢
  clear hO4 hb4 HC HM HB3 HQ3 HR3
  go_wp2_with fail
  refine HC4.out.mono ?_
  rintro e w5 ⟨rfl, hb5⟩
  have HB5 := hid (HB4.out.trans (hb5.mono HB4.out.size))
  have HQ5 := hid (RdX.below HQ4.out hb5)
  have HR5 := hid (RdX.below HR4.out hb5)
  clear hb5 HC4 HB4 HQ4 HR4
  go_wp2_with fail
  refine (HD.out w5 HB5.out).mono ?_
  rintro e w6 ⟨rfl, hb6⟩
  have HB6 := hid (HB5.out.trans (hb6.mono HB5.out.size))
  have HQ6 := hid (RdX.below HQ5.out hb6)
  have HR6 := hid (RdX.below HR5.out hb6)
  clear hb6 HD HB5 HQ5 HR5
  go_wp2_with fail
  refine (HN1.out w6 HB6.out).mono ?_
  rintro e w7 ⟨rfl, hb7⟩
  have HB7 := hid (HB6.out.trans (hb7.mono HB6.out.size))
  have HQ7 := hid (RdX.below HQ6.out hb7)
  have HR7 := hid (RdX.below HR6.out hb7)
  clear hb7 HN1 HB6 HQ6 HR6
  go_wp2_with fail
  refine (HN2.out w7 HB7.out).mono ?_
  rintro e w8 ⟨rfl, hb8⟩
  have HB8 := hid (HB7.out.trans (hb8.mono HB7.out.size))
  have HQ8 : Hid (∀ w', Below w8.heap.size w8 w' → RdX w' (.slice a3 r c3) r (ctsC S)) := hid (fun w' h => RdX.below (RdX.below HQ7.out hb8) h)
  have HR8 : Hid (∀ w', Below w8.heap.size w8 w' → RdX w' (.slice a2 r c2) r (ctsC S)) := hid (fun w' h => RdX.below (RdX.below HR7.out hb8) h)
  clear hb8 HN2 HB7 HQ7 HR7
  go_wp2_with fail
  go_loopw [11] (fun ii wr => ∃ k : Nat, k ≤ r ∧ ii = .int .i64 k ∧ Hid (Below w8.heap.size w8 wr)) (fun ii _ => r - (intOf ii).toNat)
  case atStart => exact ⟨0, Nat.zero_le _, rfl, hid (Below.refl _ _)⟩
  case round =>
    obtain ⟨k, hk, rfl, HBr⟩ := hrel
    by_cases hlt : k < r
    · obtain ⟨x, hx⟩ : ∃ x, S[k]? = some x := ⟨_, List.getElem?_eq_getElem (by have := HRL.out; omega)⟩
      have HBd : Hid (Below w8.heap.size w8 wr.drew) := hid (below_drewN HBr.out 1)
      obtain ⟨b1, o1, e8, _, d0, d1, d2⟩ := rdK_at (by have := HR8.out _ HBd.out; rw [HRL.out] at this; exact this) hx
      cases e8
      obtain ⟨b2, o2, e9, _, g0, g1, g2⟩ := rdK_at (by have := HQ8.out _ HBd.out; rw [HRL.out] at this; exact this) hx
      cases e9
      have i1 : (0 : Int) ≤ (k : Int) := by omega
      have i2 : (k : Int) < (r : Int) := by omega
      have y0 := str_same x.nm
      have y1 : (x.a == x.a) = true := zeq rfl
      have y2 : (x.d == x.d) = true := zeq rfl
      clear hx
      go_wp2_with fail
      go_region_held3 (fun w' => w'.cell? ⟨b1, o1 + k * 3, none⟩ = some (.string x.nm) ∧ w'.cell? ⟨b1, o1 + k * 3 + 1, none⟩ = some (.int .i64 x.a) ∧ w'.cell? ⟨b1, o1 + k * 3 + 2, none⟩ = some (.int .i64 x.d) ∧ w'.cell? ⟨b2, o2 + k * 3, none⟩ = some (.string x.nm) ∧ w'.cell? ⟨b2, o2 + k * 3 + 1, none⟩ = some (.int .i64 x.a) ∧ w'.cell? ⟨b2, o2 + k * 3 + 2, none⟩ = some (.int .i64 x.d)) (go_keep) (fail)
      go_wp2_with fail
      go_roundw
      case rel => exact ⟨k + 1, by omega, by go_num, HBd⟩
      case measure => simp [intOf]; omega
    · have hke : k = r := by omega
      subst hke
      have i2 : ¬ ((k : Int) < (k : Int)) := by omega
      have HBw := hid (HB8.out.trans (HBr.out.mono HB8.out.size))
      have HE1 := hid (HE.out wr (.slice a2 k c2) HBw.out (by have := HR8.out _ HBr.out; rw [HRL.out] at this ⊢; exact this))
      clear HE
      go_wp2_with fail
      refine HE1.out.mono ?_
      rintro e w9 ⟨v9, rfl, hO9, hb9⟩
      obtain ⟨a9, c9, rfl⟩ := own_shape hO9
      have HB9 := hid (HBw.out.trans (hb9.mono HBw.out.size))
      have HR9 : Hid (∀ w', Below w9.heap.size w9 w' → RdX w' (.slice a9 k c9) k (ctsC S)) := hid (fun w' h => by have := RdX.below (own_rd hO9) h; rw [← HRL.out] at this; exact this)
      have HS9 : Hid (∀ w', Below w9.heap.size w9 w' → RdX w' (.slice a2 k c2) k (ctsC S)) := hid (fun w' h => HR8.out _ (HBr.out.trans ((hb9.trans (h.mono hb9.size)).mono HBr.out.size)))
      rw [← HRL.out]
      clear hO9 hb9 HBw HBr HR8 HQ8 HE1 HB8
      rcases HEV.out with h9 | h9
      all_goals
        rw [h9]
        clear h9
        go_wp2_with fail
        go_loopw [14] (fun ii wr => ∃ j : Nat, j ≤ k ∧ ii = .int .i64 j ∧ Hid (Below w9.heap.size w9 wr)) (fun ii _ => k - (intOf ii).toNat)
        case atStart => exact ⟨0, Nat.zero_le _, rfl, hid (Below.refl _ _)⟩
        case round =>
          obtain ⟨j, hj, rfl, HBr⟩ := hrel
          by_cases hlt2 : j < k
          · obtain ⟨x, hx⟩ : ∃ x, S[j]? = some x := ⟨_, List.getElem?_eq_getElem (by have := HRL.out; omega)⟩
            have HBd : Hid (Below w9.heap.size w9 wr.drew) := hid (below_drewN HBr.out 1)
            obtain ⟨b1, o1, e8, _, d0, d1, d2⟩ := rdK_at (by have := HR9.out _ HBd.out; rw [HRL.out] at this; exact this) hx
            cases e8
            obtain ⟨b2, o2, e9, _, g0, g1, g2⟩ := rdK_at (by have := HS9.out _ HBd.out; rw [HRL.out] at this; exact this) hx
            cases e9
            have i1 : (0 : Int) ≤ (j : Int) := by omega
            have i3 : (j : Int) < (k : Int) := by omega
            have y0 := str_same x.nm
            have y1 : (x.a == x.a) = true := zeq rfl
            have y2 : (x.d == x.d) = true := zeq rfl
            clear hx
            go_wp2_with fail
            go_region_held3 (fun w' => w'.cell? ⟨b1, o1 + j * 3, none⟩ = some (.string x.nm) ∧ w'.cell? ⟨b1, o1 + j * 3 + 1, none⟩ = some (.int .i64 x.a) ∧ w'.cell? ⟨b1, o1 + j * 3 + 2, none⟩ = some (.int .i64 x.d) ∧ w'.cell? ⟨b2, o2 + j * 3, none⟩ = some (.string x.nm) ∧ w'.cell? ⟨b2, o2 + j * 3 + 1, none⟩ = some (.int .i64 x.a) ∧ w'.cell? ⟨b2, o2 + j * 3 + 2, none⟩ = some (.int .i64 x.d)) (go_keep) (fail)
            go_wp2_with fail
            go_roundw
            case rel => exact ⟨j + 1, by omega, by go_num, HBd⟩
            case measure => simp [intOf]; omega
          · have hje : j = k := by omega
            subst hje
            have i3 : ¬ ((j : Int) < (j : Int)) := by omega
            have HBz := hid (HB9.out.trans (HBr.out.mono HB9.out.size))
            go_wp2_with fail
            refine (HW.out wr HBz.out).mono ?_
            rintro e wz ⟨rfl, hbz⟩
            have HBf := hid (HBz.out.trans (hbz.mono HBz.out.size))
            clear hbz
            go_wp2_with fail
            go_ret
            exact ⟨rfl, HBf.out⟩

theorem own : ownKnob Tryd.prog.godebug = none := by kernel_rfl

set_option maxRecDepth 100000 in
theorem contract (H : Type) (enc : TypeId × Value → H) (W : World) (base : Nat) (args : Array Value) (ds gs : List (DataW H)) (before : List MemPlace)
    (hval : ∀ (j : Nat) t v, Tryd.f3.params[j]? = some t → args[j]? = some v → Value.okWide Tryd.prog W .any base t v)
    (hW : DataW.Whole enc Tryd.prog Tryd.f3.params.toList Rows.statSumsSpec.vars false W args.toList ds gs before)
    (hk : Rows.uptoSmall H (ds ++ gs) = true)
    (hL : laidMetH Tryd.prog Rows.statSumsUptoRow.laid W)
    : Calls Tryd.prog 3 args W fun e W' => ∃ v, e = .returned v ∧ Rows.statSumsSpec.post enc Tryd.prog Tryd.f3 false true false false W args v W' := by
  have hW' := hW
  obtain ⟨p, q, hA0, hV, rfl, hfz, hnd⟩ := hW
  have hA : DataW.TrodAll enc Tryd.prog W 0 (fun _ => true) true Tryd.f3.params.toList args.toList ds p := hA0
  rw [Tryd.params3] at hA hval
  obtain ⟨v0, vs0, d0, ds0, p0, q0, hargs0, rfl, rfl, h0, r0⟩ := trodAll_cons hA
  obtain ⟨rfl, rfl, rfl⟩ := trodAll_nil r0
  obtain rfl : args = #[v0] := by cases args; simp_all
  obtain ⟨rfl, rfl⟩ := trodVars_none hV
  obtain ⟨x0, hr0, hw0, hd0, hsh0⟩ := open_cts (okWide_slice Tryd.underlying22 (hval 0 22 v0 rfl rfl)) h0
  clear hA0
  simp only [List.append_nil] at hW' hk
  have hk' : Rows.uptoBulkAll (H := H) [d0] ≤ 1048576 := of_decide_eq_true hk
  simp only [Rows.uptoBulkAll] at hk'
  have hbk0 := cts_bulk hd0
  have hlt0 : ∀ x ∈ p0, x.block < W.heap.size := fun x hx => by simpa using hW'.lt x (by simp [hx])
  refine (walk v0 x0 W hr0 hw0 (Nat.le_trans hbk0.1 (by omega)) (fun c hc => Nat.le_trans (hbk0.2 c hc) (by omega)) hsh0 (ready_of hL)).mono fun e W' ⟨he, hb⟩ => ?_
  subst he
  exact ⟨_, rfl, _, _, _, [], (p0 ++ []), [], hW', trodAll_cons_mk (shut_bool Tryd.underlying4 _) trodAll_mk0, trodAll_cons_mk (Below.trod laidOut (by kernel_rfl) (of_decide_eq_true (by kernel_rfl)) h0 hb hlt0) trodAll_mk0, rfl, hb.frame _, fun h => by cases h⟩

set_option maxRecDepth 100000 in
theorem lifted (os : Os) (started : os.Started) (H : Type) (enc : TypeId × Value → H) (F : Stop.Interp) :
    ReturnsInHanded {} Tryd.checked os 3 .any ((Rows.OpenSpec.upto Rows.statSumsSpec).preRow enc Tryd.prog Tryd.f3 Rows.statSumsUptoRow.domain false Rows.statSumsUptoRow.laid) (((Rows.OpenSpec.upto Rows.statSumsSpec).at F).post enc Tryd.prog Tryd.f3 false true false false) := by
  refine returnsInHanded_of_row (C := Tryd.checked) (s := Rows.OpenSpec.upto Rows.statSumsSpec) own started (by kernel_rfl) Tryd.func3
    (witness_row_at (enc := enc) (C := Tryd.checked) false
      (laidWorld os)
      #[.slice none 0 0] rfl (by kernel_rfl) (by kernel_rfl) (by kernel_rfl)
      (OpenSpec.preRow_of_cond 8 (x := ([.nil], [], [])) (by kernel_rfl) (by kernel_rfl) (fun k hk => by cases hk; kernel_rfl) (by kernel_rfl) (laidWorld_met os _))) ?_
  intro W base args ds gs before hval hW _ hcond hsz hL _ _
  exact contract H enc W base args ds gs before hval hW (hcond _ rfl) hL

theorem said : Rows.StatSumsUptoSaid :=
  OpenClaim.holds_of_cond 3 Tryd.f3 rfl rfl rfl rfl rfl rfl rfl ⟨rfl, rfl, rfl, rfl, rfl⟩ rfl rfl rfl rfl rfl (by kernel_rfl) Tryd.func3 (by kernel_rfl)
    (of_decide_eq_true (by kernel_rfl)) (by unfold Func.isWrapper; first | (rw [if_pos (by decide +kernel)]; kernel_rfl) | (rw [if_neg (by decide +kernel)]; exact ⟨rfl, rfl⟩))
    (fun os started H enc _ F => by rw [OpenClaim.pre_eq_preRow]; exact lifted os started H enc F)

theorem plain (f : FuncId) (fn : Func) (hf : Tryd.pinned.checked.prog.funcNamed Rows.statSumsUptoRow.func = some f) (hfn : Tryd.pinned.checked.prog.funcs[f]? = some fn) :
    true = Tryd.pinned.checked.prog.looks [] ∧ ∀ (j : Nat) t, fn.params[j]? = some t → Tryd.pinned.checked.prog.wantsStandIn t = false := by
  obtain rfl : f = 3 := Option.some.inj ((show Tryd.prog.funcNamed Rows.statSumsUptoRow.func = some 3 by kernel_rfl).symm.trans hf) |>.symm
  obtain rfl : fn = Tryd.f3 := (Option.some.inj (Tryd.func3.symm.trans hfn)).symm
  refine ⟨by kernel_rfl, fun j t ht => ?_⟩
  rw [Tryd.params3] at ht
  have hm : t = 22 := by simpa using Array.mem_of_getElem? ht
  rcases hm with rfl
  · exact (show Tryd.prog.wantsStandIn 22 = false by kernel_rfl)

theorem card : Rows.StatSumsUptoCardSaid :=
  Claim7.holds_tied_plain_at .later [] _ _ _ _ said (fun _ h => by cases h) (by kernel_rfl) (fun _ h => by cases h) statSumsUpto_row_tie rfl ⟨rfl, rfl⟩ (by kernel_rfl) rfl plain (by kernel_rfl)
end Go.Proofs.YtnbonghlmdnabaaDoor.statSums
