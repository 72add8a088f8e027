/-
  PROVED: the card of EditsChain: for every three lists of changes and every four integers EditsChain returns true, and all read afterwards as they read before; the card ties what errors.errorType holds to the program's text (a pruned copy of the project: the packages that this law loads).
-/
import Derived.Test.YthgibnbpeopoaaaDoorC6
import Derived.Test.YthgibnbpeopoaaaDoorDj
import Derived.Test.YthgibnbpeopoaaaDoorDl
import Derived.Test.YthgibnbpeopoaaaDoorD0
import Derived.Test.YthgibnbpeopoaaaDoorHandle
namespace Go.Proofs.YthgibnbpeopoaaaDoor.editsChain
open Go.ChangeShapes Go.WideShapes Go.ChangeAt Go.RowKit
open Go.ChangeMaps (open_string shut_string)
open Ed (Ch Run Pr)

theorem val_wf {s : List Ch} {a b n m : Int} (h : Ed.val s a b n m = true) (ha : 0 ≤ a) (hb : 0 ≤ b) (hn : n ≤ 4194304) (hm : m ≤ 4194304) : ∀ c ∈ s, WfC c := by
  induction s generalizing a b with
  | nil => intro c hc; cases hc
  | cons x r ih =>
    obtain ⟨⟨h1, h2, h3, h4⟩, hr⟩ := Ed.val_cons.1 h
    intro c hc
    rcases List.mem_cons.1 hc with e | hc
    · subst e; unfold WfC I64; omega
    · exact ih hr (by omega) (by omega) c hc
theorem Val_wf {s : List Ch} {n m : Int} (h : Ed.Val s n m) : ∀ c ∈ s, WfC c := by
  have hn := Ed.cnt_iff.1 h.1
  have hm := Ed.cnt_iff.1 h.2.1
  exact val_wf h.2.2 (Int.le_refl _) (Int.le_refl _) hn.2 hm.2

set_option maxHeartbeats 2000000 in
set_option maxRecDepth 100000 in
theorem walk (v : Value) (s : List Ch) (x : Value) (t : List Ch) (y : Value) (u : List Ch) (n m k l : Int) (w : World) (hr : RdC w v s) (hwf : ∀ c ∈ s, WfC c) (hl : s.length ≤ 4398046510976) (_ : ArgS v)
    (hu : RdC w x t) (hwt : ∀ c ∈ t, WfC c) (hlt : t.length ≤ 4398046510976) (_ : ArgS x) (hq : RdC w y u) (hwu : ∀ c ∈ u, WfC c) (hlu : u.length ≤ 4398046510976) (_ : ArgS y) (hg : ErrVar w) :
    Calls Tryd.prog 5 #[.agg #[v, x, y, .int .i64 n, .int .i64 m, .int .i64 k, .int .i64 l]] w fun e w' => e = .returned (.bool true) ∧ Below w.heap.size w w' := by
  have HR := hid hr
  have HU := hid hu
  have HQ := hid hq
  have HG := hid hg
  have HWF := hid hwf
  have HWT := hid hwt
  have HWU := hid hwu
  obtain ⟨a0, c0, rfl⟩ := hr.shape
  obtain ⟨a1, c1, rfl⟩ := hu.shape
  obtain ⟨a2, c2, rfl⟩ := hq.shape
  have HJ1 := hid (fun w1 (hb : Below w.heap.size w w1) => join_all (n := n) (m := m) (k := k) (HR.out.below hb) HWF.out (by omega) (HU.out.below hb) HWT.out (by omega))
  have HJ2 := hid (fun w1 (hb : Below w.heap.size w w1) => join_all (n := m) (m := k) (k := l) (HU.out.below hb) HWT.out (by omega) (HQ.out.below hb) HWU.out (by omega))
  have HN1 : Hid (joinN s t n m k = 0 → Ed.Val s n m ∧ Ed.Val t m k) := hid (fun h => by
    unfold joinN at h
    by_cases h1 : Ed.validN s n m = 0
    · rw [if_pos h1] at h; exact ⟨Ed.validN_zero.1 h1, Ed.validN_zero.1 h⟩
    · rw [if_neg h1] at h; exact absurd h h1)
  have HN2 : Hid (joinN t u m k l = 0 → Ed.Val t m k ∧ Ed.Val u k l) := hid (fun h => by
    unfold joinN at h
    by_cases h1 : Ed.validN t m k = 0
    · rw [if_pos h1] at h; exact ⟨Ed.validN_zero.1 h1, Ed.validN_zero.1 h⟩
    · rw [if_neg h1] at h; exact absurd h h1)
  have HJA1 : Hid (joinN s t n m k = 0 → joinA s t n m k = Ed.joinP s t n m k) := hid (fun h => by
    obtain ⟨h1, h2⟩ := HN1.out h
    unfold joinA; rw [if_pos ⟨Ed.validN_zero.2 h1, Ed.validN_zero.2 h2⟩])
  have HJA2 : Hid (joinN t u m k l = 0 → joinA t u m k l = Ed.joinP t u m k l) := hid (fun h => by
    obtain ⟨h1, h2⟩ := HN2.out h
    unfold joinA; rw [if_pos ⟨Ed.validN_zero.2 h1, Ed.validN_zero.2 h2⟩])
  clear hr hwf hg hu hwt hq hwu
  have hbA : Below w.heap.size w (w.alloc (.cells #[.slice a0 s.length c0, .slice a1 t.length c1, .slice a2 u.length c2, .int .i64 n, .int .i64 m, .int .i64 k, .int .i64 l] 46)) := (Below.refl _ _).alloc (Nat.le_refl _) _
  have hgA := heap_alloc_new w (.cells #[.slice a0 s.length c0, .slice a1 t.length c1, .slice a2 u.length c2, .int .i64 n, .int .i64 m, .int .i64 k, .int .i64 l] 46)
  have k0 := cell_of_blk hgA 0
  have k1 := cell_of_blk hgA 1
  have k2 := cell_of_blk hgA 2
  have k3 := cell_of_blk hgA 3
  have k4 := cell_of_blk hgA 4
  have k5 := cell_of_blk hgA 5
  have k6 := cell_of_blk hgA 6
  have HK : Hid (∀ w', Below (w.heap.size + 1) (w.alloc (.cells #[.slice a0 s.length c0, .slice a1 t.length c1, .slice a2 u.length c2, .int .i64 n, .int .i64 m, .int .i64 k, .int .i64 l] 46)) w' → w'.cell? ⟨w.heap.size, 0, none⟩ = some (.slice a0 s.length c0) ∧ w'.cell? ⟨w.heap.size, 1, none⟩ = some (.slice a1 t.length c1) ∧ w'.cell? ⟨w.heap.size, 2, none⟩ = some (.slice a2 u.length c2) ∧ w'.cell? ⟨w.heap.size, 3, none⟩ = some (.int .i64 n) ∧ w'.cell? ⟨w.heap.size, 4, none⟩ = some (.int .i64 m) ∧ w'.cell? ⟨w.heap.size, 5, none⟩ = some (.int .i64 k) ∧ w'.cell? ⟨w.heap.size, 6, none⟩ = some (.int .i64 l)) := hid (fun w' hb => by
    have e : ∀ o, w'.cell? ⟨w.heap.size, o, none⟩ = _ := fun o => hb.cell (p := ⟨w.heap.size, o, none⟩) (Nat.lt_succ_self _)
    exact ⟨(e 0).trans k0, (e 1).trans k1, (e 2).trans k2, (e 3).trans k3, (e 4).trans k4, (e 5).trans k5, (e 6).trans k6⟩)
  have hs0 : (w.alloc (.cells #[.slice a0 s.length c0, .slice a1 t.length c1, .slice a2 u.length c2, .int .i64 n, .int .i64 m, .int .i64 k, .int .i64 l] 46)).heap.size = w.heap.size + 1 := by simp
  go_enter Tryd.func5, Tryd.ntmps5
  go_wp2_with fail
  generalize (w.alloc (.cells #[.slice a0 s.length c0, .slice a1 t.length c1, .slice a2 u.length c2, .int .i64 n, .int .i64 m, .int .i64 k, .int .i64 l] 46)) = w0 at hbA hgA hs0 k0 k1 k2 k3 k4 k5 k6 HK ⊢
  obtain ⟨g, hgE⟩ : ∃ g, g = w.heap.size := ⟨_, rfl⟩
  rw [← hgE] at k0 k1 k2 k3 k4 k5 k6 HK hs0 ⊢
  have HGE := hid hgE
  have HBA := hid hbA
  clear hgE hgA hbA k0 k1 k2 k3 k4 k5 k6
  refine (HJ1.out _ HBA.out).mono ?_
  rintro e w1 ⟨v1, rfl, hO1, hb1⟩
  obtain ⟨am, cm, em⟩ := own_shape hO1
  subst em
  have HO1 := hid (own_rd hO1)
  have HC1 : Hid (Below (g + 1) w0 w1) := hid (by rw [← hs0]; exact hb1)
  have HB1 : Hid (Below w.heap.size w w1) := hid (HBA.out.trans (hb1.mono HBA.out.size))
  obtain ⟨k0, k1, k2, k3, k4, k5, k6⟩ := HK.out w1 HC1.out
  clear hO1 hb1
  go_wp2_with fail
  refine (HJ2.out _ HB1.out).mono ?_
  rintro e w2 ⟨v2, rfl, hO2, hb2⟩
  obtain ⟨an, cn, en⟩ := own_shape hO2
  subst en
  have HO2 := hid (own_rd hO2)
  have HO1b := hid (HO1.out.below hb2)
  have HC2 : Hid (Below (g + 1) w0 w2) := hid (HC1.out.trans (hb2.mono (by have := HC1.out.size; omega)))
  have HB2 : Hid (Below w.heap.size w w2) := hid (HB1.out.trans (hb2.mono HB1.out.size))
  clear hO2 hb2 k0 k1 k2 k3 k4 k5 k6 HO1
  obtain ⟨k0, k1, k2, k3, k4, k5, k6⟩ := HK.out w2 HC2.out
  by_cases hz1 : joinN s t n m k = 0
  case neg =>
    have he : errV (joinN s t n m k) = .iface 71 (.int .i64 (joinN s t n m k)) := by unfold errV; rw [if_neg hz1]
    rw [he]
    clear he hz1 HN1 HN2 HJA1 HJA2 HJ1 HJ2 HO1b HO2
    generalize joinN s t n m k = K1
    generalize joinN t u m k l = K2
    go_wp2_with fail
    refine (works_any w2 (HG.out.below HB2.out)).mono ?_
    rintro e w3 ⟨rfl, hb3⟩
    have HB3 := hid (HB2.out.trans (hb3.mono HB2.out.size))
    clear hb3
    go_wp2
    go_ret
    exact ⟨rfl, HB3.out⟩
  by_cases hz2 : joinN t u m k l = 0
  case neg =>
    have he : errV (joinN t u m k l) = .iface 71 (.int .i64 (joinN t u m k l)) := by unfold errV; rw [if_neg hz2]
    rw [he, hz1, errV_zero]
    clear he hz1 hz2 HN1 HN2 HJA1 HJA2 HJ1 HJ2 HO1b HO2
    generalize joinN t u m k l = K2
    go_wp2_with fail
    refine (works_any w2 (HG.out.below HB2.out)).mono ?_
    rintro e w3 ⟨rfl, hb3⟩
    have HB3 := hid (HB2.out.trans (hb3.mono HB2.out.size))
    clear hb3
    go_wp2
    go_ret
    exact ⟨rfl, HB3.out⟩
  obtain ⟨hVs, hVt⟩ := HN1.out hz1
  obtain ⟨_, hVu⟩ := HN2.out hz2
  rw [HJA1.out hz1] at HO1b
  rw [HJA2.out hz2] at HO2
  rw [hz1, hz2, errV_zero]
  have hJ1 := (Ed.join_Val hVs hVt).1
  have hJ2 := (Ed.join_Val hVt hVu).1
  have HA1 := hid (fun w1 v1 v2 (h1 : RdC w1 v1 (Ed.joinP s t n m k)) (h2 : RdC w1 v2 u) => join_any h1 (Val_wf hJ1) h2 HWU.out hJ1 hVu)
  have HA2 := hid (fun w1 v1 v2 (h1 : RdC w1 v1 s) (h2 : RdC w1 v2 (Ed.joinP t u m k l)) => join_any h1 HWF.out h2 (Val_wf hJ2) hVs hJ2)
  have HA3 := hid (fun w1 v1 v2 (h1 : RdC w1 v1 (t.map Ed.inv)) (h2 : RdC w1 v2 (s.map Ed.inv)) => join_any h1 (Val_wf hVt.inv) h2 (Val_wf hVs.inv) hVt.inv hVs.inv)
  have HA4 := hid (fun w1 v1 v2 (h1 : RdC w1 v1 s) (h2 : RdC w1 v2 []) => join_any h1 HWF.out h2 (fun c hc => by cases hc) hVs (Ed.Val_none hVs.2.1))
  have HA5 := hid (fun w1 v1 (h1 : RdC w1 v1 s) => normal_any h1 HWF.out hVs)
  have HI1 := hid (fun w1 v1 (h1 : RdC w1 v1 (Ed.joinP s t n m k)) => invert_any h1 (by have := Val_len hJ1; omega))
  have HI2 := hid (fun w1 v1 (h1 : RdC w1 v1 t) => invert_any h1 (by omega))
  have HI3 := hid (fun w1 v1 (h1 : RdC w1 v1 s) => invert_any h1 (by omega))
  rw [← Ed.join_assoc hVs hVt hVu] at HA2
  rw [← Ed.join_inv hVs hVt] at HA3
  rw [Ed.join_none hVs] at HA4
  have hL1 := Val_len (Ed.join_Val hJ1 hVu).1
  have hL2 := Val_len hJ1.inv
  have hL3 := Val_len (Ed.normal_Val hVs).1
  have hL4 := Val_len hVs
  have hL5 := Val_len hVt
  have hLi1 : (s.map Ed.inv).length ≤ 8388608 := by rw [List.length_map]; exact hL4
  have hLi2 : (t.map Ed.inv).length ≤ 8388608 := by rw [List.length_map]; exact hL5
  have hN1 := HJA1.out hz1
  have hN2 := HJA2.out hz2
  rw [hN1, hN2]
  clear hN1 hN2 hz1 hz2 HJ1 HJ2 HN1 HN2 HJA1 HJA2 hVs hVt hVu hJ1 hJ2
  generalize Ed.joinP (Ed.joinP s t n m k) u n k l = A at HA1 HA2 hL1
  generalize (Ed.joinP s t n m k).map Ed.inv = I at HA3 HI1 hL2
  generalize Ed.normal s n m = N at HA4 HA5 hL3
  generalize s.map Ed.inv = SI at HA3 HI3 hLi1
  generalize t.map Ed.inv = TI at HA3 HI2 hLi2
  generalize Ed.joinP s t n m k = J1 at HA1 HI1 HO1b ⊢
  generalize Ed.joinP t u m k l = J2 at HA2 HO2 ⊢
  --@@rest
  go_wp2_with fail
  refine (HA1.out _ _ _ HO1b.out (HQ.out.below HB2.out)).mono ?_
  rintro e w3 ⟨v3, rfl, hO3, hb3⟩
  obtain ⟨am3, cm3, em3⟩ := own_shape hO3
  subst em3
  have Hst_3 := hid (HO1b.out.below hb3)
  have Htu_3 := hid (HO2.out.below hb3)
  have Ha_3 := hid (own_rd hO3)
  have HB3 : Hid (Below w.heap.size w w3) := hid (HB2.out.trans (hb3.mono HB2.out.size))
  have HC3 : Hid (Below (g + 1) w0 w3) := hid (HC2.out.trans (hb3.mono (by have := HC2.out.size; omega)))
  clear hO3 hb3
  clear k0 k1 k2 k3 k4 k5 k6
  obtain ⟨k0, k1, k2, k3, k4, k5, k6⟩ := HK.out w3 HC3.out
  go_wp2_with fail
  refine (HA2.out _ _ _ (HR.out.below HB3.out) Htu_3.out).mono ?_
  rintro e w4 ⟨v4, rfl, hO4, hb4⟩
  obtain ⟨am4, cm4, em4⟩ := own_shape hO4
  subst em4
  have Hst_4 := hid (Hst_3.out.below hb4)
  have Htu_4 := hid (Htu_3.out.below hb4)
  have Ha_4 := hid (Ha_3.out.below hb4)
  have Hb_4 := hid (own_rd hO4)
  have HB4 : Hid (Below w.heap.size w w4) := hid (HB3.out.trans (hb4.mono HB3.out.size))
  have HC4 : Hid (Below (g + 1) w0 w4) := hid (HC3.out.trans (hb4.mono (by have := HC3.out.size; omega)))
  clear hO4 hb4
  clear k0 k1 k2 k3 k4 k5 k6
  obtain ⟨k0, k1, k2, k3, k4, k5, k6⟩ := HK.out w4 HC4.out
  go_wp2_with fail
  go_region_held3 (fun w' => w'.cell? ⟨g, 0, none⟩ = some (.slice a0 s.length c0) ∧ w'.cell? ⟨g, 1, none⟩ = some (.slice a1 t.length c1) ∧ w'.cell? ⟨g, 3, none⟩ = some (.int .i64 n) ∧ w'.cell? ⟨g, 4, none⟩ = some (.int .i64 m) ∧ w'.cell? ⟨g, 5, none⟩ = some (.int .i64 k))
    (first
      | go_keep
      | (go_split_ands
         refine ⟨?_, ?_, ?_, ?_, ?_⟩ <;> exact (hbk.cell (lt_of_cell (by assumption))).trans (by assumption)))
    (first
      | (go_at_call 15; refine (HA3.out _ _ _ HM6.out HM7.out).mono ?_; rintro e w7 ⟨v7, rfl, hO7, hbk⟩; obtain ⟨aj, cj, ej⟩ := own_shape hO7; subst ej; have Hc_7 := hid (own_rd hO7); have HB7 : Hid (Below w.heap.size w w7) := hid (HB6.out.trans (hbk.mono HB6.out.size)); have HD7 : Hid (Below w4.heap.size w4 w7) := hid (HD6.out.trans (hbk.mono HD6.out.size)); clear hO7)
      | (go_at_call 19; have hB5 := HB5.out; refine (HI3.out _ _ (HR.out.below hB5)).mono ?_; rintro e w6 ⟨v6, rfl, hO6, hbk⟩; obtain ⟨an6, cn6, en6⟩ := own_shape hO6; subst en6; have HM7 := hid (own_rd hO6); have HM6 := hid (HM5.out.below hbk); have HB6 : Hid (Below w.heap.size w w6) := hid (hB5.trans (hbk.mono hB5.size)); have HD6 : Hid (Below w4.heap.size w4 w6) := hid (HD5.out.trans (hbk.mono HD5.out.size)); clear hO6 hB5)
      | (go_at_call 19; refine (HI2.out _ _ (HU.out.below (below_drewN HB4.out 1))).mono ?_; rintro e w5 ⟨v5, rfl, hO5, hbk⟩; obtain ⟨an5, cn5, en5⟩ := own_shape hO5; subst en5; have HM5 := hid (own_rd hO5); have HB5 : Hid (Below w.heap.size w w5) := hid ((below_drewN HB4.out 1).trans (hbk.mono (below_drewN HB4.out 1).size)); have HD5 : Hid (Below w4.heap.size w4 w5) := hid ((below_drewN (Below.refl w4.heap.size w4) 1).trans hbk); clear hO5))
  have Hst_7 := hid (Hst_4.out.below HD7.out)
  have Ha_7 := hid (Ha_4.out.below HD7.out)
  have Hb_7 := hid (Hb_4.out.below HD7.out)
  have HC7 : Hid (Below (g + 1) w0 w7) := hid (HC4.out.trans (HD7.out.mono (by have := HC4.out.size; omega)))
  clear k0 k1 k2 k3 k4 k5 k6
  obtain ⟨k0, k1, k2, k3, k4, k5, k6⟩ := HK.out w7 HC7.out
  go_wp2_with fail
  refine (HA4.out _ _ _ (HR.out.below HB7.out) (.inl ⟨rfl, none, 0, rfl⟩)).mono ?_
  rintro e w8 ⟨v8, rfl, hO8, hb8⟩
  obtain ⟨am8, cm8, em8⟩ := own_shape hO8
  subst em8
  have Hst_8 := hid (Hst_7.out.below hb8)
  have Ha_8 := hid (Ha_7.out.below hb8)
  have Hb_8 := hid (Hb_7.out.below hb8)
  have Hc_8 := hid (Hc_7.out.below hb8)
  have Hd_8 := hid (own_rd hO8)
  have HB8 : Hid (Below w.heap.size w w8) := hid (HB7.out.trans (hb8.mono HB7.out.size))
  have HC8 : Hid (Below (g + 1) w0 w8) := hid (HC7.out.trans (hb8.mono (by have := HC7.out.size; omega)))
  clear hO8 hb8
  clear k0 k1 k2 k3 k4 k5 k6
  obtain ⟨k0, k1, k2, k3, k4, k5, k6⟩ := HK.out w8 HC8.out
  go_wp2_with fail
  refine (HA5.out _ _ (HR.out.below HB8.out)).mono ?_
  rintro e w9 ⟨v9, rfl, hO9, hb9⟩
  obtain ⟨am9, cm9, em9⟩ := own_shape hO9
  subst em9
  have Hst_9 := hid (Hst_8.out.below hb9)
  have Ha_9 := hid (Ha_8.out.below hb9)
  have Hb_9 := hid (Hb_8.out.below hb9)
  have Hc_9 := hid (Hc_8.out.below hb9)
  have Hd_9 := hid (Hd_8.out.below hb9)
  have Ht_9 := hid (own_rd hO9)
  have HB9 : Hid (Below w.heap.size w w9) := hid (HB8.out.trans (hb9.mono HB8.out.size))
  have HC9 : Hid (Below (g + 1) w0 w9) := hid (HC8.out.trans (hb9.mono (by have := HC8.out.size; omega)))
  clear hO9 hb9
  clear k0 k1 k2 k3 k4 k5 k6
  obtain ⟨k0, k1, k2, k3, k4, k5, k6⟩ := HK.out w9 HC9.out
  clear k0 k1 k2 k3 k4 k5 k6
  go_wp2_with fail
  refine (sameChanges_any Ha_9.out Hb_9.out (by omega) (by omega)).mono ?_
  rintro e w10 ⟨rfl, hb10⟩
  rw [decide_eq_true rfl]
  have Hst_10 := hid (Hst_9.out.below hb10)
  have Hc_10 := hid (Hc_9.out.below hb10)
  have Hd_10 := hid (Hd_9.out.below hb10)
  have Ht_10 := hid (Ht_9.out.below hb10)
  have HB10 : Hid (Below w.heap.size w w10) := hid (HB9.out.trans (hb10.mono HB9.out.size))
  clear hb10
  go_wp2_with fail
  refine (HI1.out _ _ Hst_10.out).mono ?_
  rintro e w11 ⟨v11, rfl, hO11, hb11⟩
  obtain ⟨am11, cm11, em11⟩ := own_shape hO11
  subst em11
  have Hc_11 := hid (Hc_10.out.below hb11)
  have Hd_11 := hid (Hd_10.out.below hb11)
  have Ht_11 := hid (Ht_10.out.below hb11)
  have Hi_11 := hid (own_rd hO11)
  have HB11 : Hid (Below w.heap.size w w11) := hid (HB10.out.trans (hb11.mono HB10.out.size))
  clear hO11 hb11
  go_wp2_with fail
  refine (sameChanges_any Hi_11.out Hc_11.out (by omega) (by omega)).mono ?_
  rintro e w12 ⟨rfl, hb12⟩
  rw [decide_eq_true rfl]
  have Hd_12 := hid (Hd_11.out.below hb12)
  have Ht_12 := hid (Ht_11.out.below hb12)
  have HB12 : Hid (Below w.heap.size w w12) := hid (HB11.out.trans (hb12.mono HB11.out.size))
  clear hb12
  go_wp2_with fail
  refine (sameChanges_any Hd_12.out Ht_12.out (by omega) (by omega)).mono ?_
  rintro e w13 ⟨rfl, hb13⟩
  rw [decide_eq_true rfl]
  have HB13 : Hid (Below w.heap.size w w13) := hid (HB12.out.trans (hb13.mono HB12.out.size))
  clear hb13
  go_wp2_with fail
  refine (works_any w13 (HG.out.below HB13.out)).mono ?_
  rintro e w14 ⟨rfl, hb14⟩
  have HB14 := hid (HB13.out.trans (hb14.mono HB13.out.size))
  clear hb14
  go_wp2
  go_ret
  exact ⟨rfl, HB14.out⟩

theorem own : ownKnob Tryd.prog.godebug = none := by kernel_rfl

set_option maxRecDepth 100000 in
theorem contract (H : Type) (enc : TypeId × Value → H) (W : World) (base : Nat) (args : Array Value) (ds gs : List (DataW H)) (before : List MemPlace)
    (hval : ∀ (j : Nat) t v, Tryd.f5.params[j]? = some t → args[j]? = some v → Value.okWide Tryd.prog W .any base t v)
    (hW : DataW.Whole enc Tryd.prog Tryd.f5.params.toList Rows.editsChainSpec.vars false W args.toList ds gs before)
    (hsz : (DataW.weightsEach Tryd.prog (Tryd.f5.params.toList ++ Rows.editsChainSpec.plain.varTypes Tryd.prog) (ds ++ gs)).all (· ≤ reachBytes) = true)
    (hL : laidMetH Tryd.prog Rows.editsChainRow.laid W)
    : Calls Tryd.prog 5 args W fun e W' => ∃ v, e = .returned v ∧ Rows.editsChainSpec.post enc Tryd.prog Tryd.f5 false true false false W args v W' := by
  have hW' := hW
  obtain ⟨p, q, hA0, hV, rfl, hfz, hnd⟩ := hW
  have hA : DataW.TrodAll enc Tryd.prog W 0 (fun _ => true) true Tryd.f5.params.toList args.toList ds p := hA0
  rw [Tryd.params5] at hA hval hsz
  obtain ⟨v0, vs0, d0, ds0, p0, q0, hargs0, rfl, rfl, h0, r0⟩ := trodAll_cons hA
  obtain ⟨rfl, rfl, rfl⟩ := trodAll_nil r0
  obtain rfl : args = #[v0] := by cases args; simp_all
  obtain ⟨rfl, rfl⟩ := trodVars_none hV
  obtain ⟨v0_0, x0_0, v0_1, x0_1, v0_2, x0_2, x0_3, x0_4, x0_5, x0_6, rfl, hr0_0, hw0_0, hs0_0, hr0_1, hw0_1, hs0_1, hr0_2, hw0_2, hs0_2, hq0⟩ := open_three h0
  have hlen0 := hq0 (List.all_eq_true.2 fun n hn => List.all_eq_true.1 hsz n (DataW.weights_mem_each (j := 0) (t := 46) rfl rfl n (by simpa [DataW.weightsEach] using hn)))
  clear hA0 hsz
  simp only [List.append_nil] at hW'
  have hlt0 : ∀ x ∈ p0, x.block < W.heap.size := fun x hx => by simpa using hW'.lt x (by simp [hx])
  refine (walk v0_0 x0_0 v0_1 x0_1 v0_2 x0_2 x0_3 x0_4 x0_5 x0_6 W hr0_0 hw0_0 hlen0.1 hs0_0 hr0_1 hw0_1 hlen0.2.1 hs0_1 hr0_2 hw0_2 hlen0.2.2 hs0_2 (handle_of hL)).mono fun e W' ⟨he, hb⟩ => ?_
  subst he
  exact ⟨_, rfl, _, _, _, [], (p0 ++ []), [], hW', trodAll_cons_mk (shut_bool Tryd.underlying4 _) trodAll_mk0, trodAll_cons_mk (Below.trod laidOut (by kernel_rfl) (of_decide_eq_true (by kernel_rfl)) h0 hb hlt0) trodAll_mk0, rfl, hb.frame _, fun h => by cases h⟩

set_option maxRecDepth 100000 in
theorem lifted (os : Os) (started : os.Started) (H : Type) (enc : TypeId × Value → H) (F : Stop.Interp) :
    ReturnsInHanded {} Tryd.checked os 5 .any ((OpenSpec.ofChange Rows.editsChainSpec).preRow enc Tryd.prog Tryd.f5 Rows.editsChainRow.domain false Rows.editsChainRow.laid) (((OpenSpec.ofChange Rows.editsChainSpec).at F).post enc Tryd.prog Tryd.f5 false true false false) := by
  refine returnsInHanded_of_row (C := Tryd.checked) (s := OpenSpec.ofChange Rows.editsChainSpec) own started (by kernel_rfl) Tryd.func5
    (witness_row_at (enc := enc) (C := Tryd.checked) false
      { World.holding Tryd.prog os ⟨#[], #[], []⟩ with heap := (World.holding Tryd.prog os ⟨#[], #[], []⟩).heap.modify 0 fun
          | .cells _ t frozen => .cells #[.iface 99 (.agg #[.pointer (some ⟨1, 25, none⟩)])] t frozen
          | o => o }
      #[.agg #[.slice none 0 0, .slice none 0 0, .slice none 0 0, .int .i64 0, .int .i64 0, .int .i64 0, .int .i64 0]] rfl (by kernel_rfl) (by kernel_rfl) (by kernel_rfl)
      (OpenSpec.preRow_of_cond 8 (x := ([.agg [.nil, .nil, .nil, .lit (.int .i64 0), .lit (.int .i64 0), .lit (.int .i64 0), .lit (.int .i64 0)]], [], [])) (by kernel_rfl) (by kernel_rfl) (fun k hk => by cases hk) (by kernel_rfl) (laidMetH_of_parts (laidMet_nil _ _) (by kernel_rfl)))) ?_
  intro W base args ds gs before hval hW _ hcond hsz hL _ _
  exact contract H enc W base args ds gs before hval hW hsz hL

theorem said : Rows.EditsChainSaid :=
  OpenClaim.holds_of_cond 5 Tryd.f5 rfl rfl rfl rfl rfl rfl rfl ⟨rfl, rfl, rfl, rfl, rfl⟩ rfl rfl rfl rfl rfl (by kernel_rfl) Tryd.func5 (by kernel_rfl)
    (of_decide_eq_true (by kernel_rfl)) (by unfold Func.isWrapper; first | (rw [if_pos (by decide +kernel)]; kernel_rfl) | (rw [if_neg (by decide +kernel)]; exact ⟨rfl, rfl⟩))
    (fun os started H enc _ F => by rw [OpenClaim.pre_eq_preRow]; exact lifted os started H enc F)

theorem plain (f : FuncId) (fn : Func) (hf : Tryd.pinned.checked.prog.funcNamed Rows.editsChainRow.func = some f) (hfn : Tryd.pinned.checked.prog.funcs[f]? = some fn) :
    true = Tryd.pinned.checked.prog.looks [] ∧ ∀ (j : Nat) t, fn.params[j]? = some t → Tryd.pinned.checked.prog.wantsStandIn t = false := by
  obtain rfl : f = 5 := Option.some.inj ((show Tryd.prog.funcNamed Rows.editsChainRow.func = some 5 by kernel_rfl).symm.trans hf) |>.symm
  obtain rfl : fn = Tryd.f5 := (Option.some.inj (Tryd.func5.symm.trans hfn)).symm
  refine ⟨by kernel_rfl, fun j t ht => ?_⟩
  rw [Tryd.params5] at ht
  have hm : t = 46 := by simpa using Array.mem_of_getElem? ht
  rcases hm with rfl
  · exact (show Tryd.prog.wantsStandIn 46 = false by kernel_rfl)

theorem card : Rows.EditsChainCardSaid :=
  Claim7.holds_tied_plain_at .later [] _ _ _ _ said (fun _ h => by cases h) (by kernel_rfl) (fun _ h => by cases h) editsChain_row_tie rfl ⟨rfl, rfl⟩ (by kernel_rfl) rfl plain (by kernel_rfl)
end Go.Proofs.YthgibnbpeopoaaaDoor.editsChain
