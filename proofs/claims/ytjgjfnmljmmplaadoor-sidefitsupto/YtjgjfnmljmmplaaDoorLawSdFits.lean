/-
  SideFits, up to the bulk, for every script, every two texts' lines and every width: no line of both columns is wider than the width, and there are as many as there must be; or the error, with no text. (The card: the row lists errors.errorType, which the proof uses.)
-/
import Derived.Test.YtjgjfnmljmmplaaDoorSz
import Derived.Test.YtjgjfnmljmmplaaDoorCards
import Derived.Test.YtjgjfnmljmmplaaDoorTie
import Derived.Test.YtjgjfnmljmmplaaDoorHandle
import Derived.Deep.RegionHeld3
namespace Go.Proofs.YtjgjfnmljmmplaaDoor.sideFits
open Go.ChangeShapes Go.WideShapes Go.ChangeAt Go.RowKit
open Go.ChangeMaps (open_string shut_string)
open Ed (Ch Run Pr)

theorem sv_st (xs : List (List UInt8)) : Cx.SV xs = stC (xs.map fun x => ⟨x.toArray⟩) := by unfold Cx.SV stC; rw [List.map_map]; rfl

set_option maxHeartbeats 4000000 in
set_option maxRecDepth 100000 in
theorem walk (v : Value) (s : List Ch) (va : Value) (A : List ByteArray) (vb : Value) (Bl : List ByteArray) (x3 : Int) (w : World) (hr : RdC w v s) (hwf : ∀ c ∈ s, WfC c) (hl : s.length ≤ 1048576) (_hsh : ArgS v)
    (hra : RdT w va A) (_ : ∀ c ∈ A, SzS c) (hfa : A.length + (flatB A).length ≤ 1048576) (_ : ArgS va)
    (hrb : RdT w vb Bl) (_ : ∀ c ∈ Bl, SzS c) (hfb : Bl.length + (flatB Bl).length ≤ 1048576) (_ : ArgS vb) (hg : ErrVar w) :
    Calls Tryd.prog 5 #[.agg #[v, va, vb, .int .i64 x3]] w fun e w' => e = .returned (.bool true) ∧ Below w.heap.size w w' := by
  have hxa : ∀ x ∈ A, x.size ≤ 1099511627776 := fun x hx => by have := flat_mem hx; omega
  have hxb : ∀ x ∈ Bl, x.size ≤ 1099511627776 := fun x hx => by have := flat_mem hx; omega
  have HS := hid (fun w1 (h1 : Below w.heap.size w w1) => Sy.sure_any w1 (hg.below h1))
  have HP1 := hid (fun w1 (hb : Below w.heap.size w w1) => Sy.print_all (wd := x3) (RdX.below hr hb) hwf (by omega) (RdX.below hra hb) (RdX.below hrb hb) hxa hxb (by omega) (by omega))
  by_cases h0 : Sy.sdE s A Bl x3 = 0
  · obtain ⟨h1, h2, h3, h4⟩ := Sy.sd_zero h0
    have e1 : Sy.sdT s A Bl x3 = bB (Sy.prT (Sy.colH x3) (Sy.colS x3) A Bl (Ed.normal s A.length Bl.length) 0 0) := by unfold Sy.sdT; rw [if_pos h0]
    rw [e1, h0, errV_zero] at HP1
    have hV := (Ed.normal_Val (Ed.validN_zero.1 h2)).1
    have HN := hid (fun w1 (hb : Below w.heap.size w w1) => refNormal_all (n := A.length) (m := Bl.length) (RdX.below hr hb) hwf (by omega))
    rw [h2, show nrmA s A.length Bl.length = Ed.normal s A.length Bl.length by unfold nrmA; rw [if_pos h2]] at HN
    have hw : 2 * Sy.colH x3 + 3 ≤ 8195 ∧ ((2 * Sy.colH x3 + 3 : Nat) : Int) ≤ x3 := by
      unfold Sy.colE at h1
      unfold Sy.colH
      by_cases h9 : 7 ≤ x3 ∧ x3 ≤ 4096
      · rw [if_pos h9]; omega
      · rw [if_neg h9] at h1; cases h1
    generalize Ed.normal s A.length Bl.length = S at HP1 HN hV
    have hrw := Sy.prT_rw (half := Sy.colH x3) (sec := Sy.colS x3) (Sy.valid_nb h3) (Sy.valid_nb h4) S 0 0 (Nat.zero_le _) (Nat.zero_le _) hV.2.2
    rw [Nat.sub_zero] at hrw
    generalize Sy.prT (Sy.colH x3) (Sy.colS x3) A Bl S 0 0 = P at HP1 hrw
    generalize 2 * Sy.colH x3 + 3 = W at hrw hw
    have hwl : Sy.wants S ≤ 1048576 := by
      rcases Sy.wants_le hV.2.2 with h9 | h9
      · omega
      · omega
    have hmem := fun c (hc : c ∈ S) => Sy.val_mem (Int.le_refl 0) (Int.le_refl 0) hV.2.2 hc
    have hSl := Val_len hV
    obtain ⟨c1, c2, c3, c4⟩ := hrw
    have hPl : P.length ≤ 2097152 * 8196 := Nat.le_trans c4 (Nat.mul_le_mul (by omega) (by omega))
    have HSP := hid (fun w1 => Cx.split_any (bB P) w1 (by rw [Sy.bsz]; omega) (by
      rw [Pl.num_eq, show (bB P).data.toList = P from rfl, c1]
      omega))
    rw [show (bB P).data.toList = P from rfl] at HSP
    obtain ⟨L, hL⟩ : ∃ L : List ByteArray, L = (Pl.cut P).map fun x => ⟨x.toArray⟩ := ⟨_, rfl⟩
    have hLl : L.length = A.length + Sy.wants S := by rw [hL, List.length_map, c1]
    rw [sv_st, ← hL, show (Pl.cut P).length = L.length by rw [hL, List.length_map]] at HSP
    have HLW : Hid (∀ y ∈ L, (Cx.bareB y).size ≤ W ∧ y.size ≤ W + 1) := hid (fun y hy => by
      rw [hL] at hy
      obtain ⟨r, hr9, rfl⟩ := List.mem_map.1 hy
      obtain ⟨p, rfl, hp⟩ := c2 r hr9
      have hd : ((⟨(p ++ [10]).toArray⟩ : ByteArray)).data.toList = p ++ [10] := by simp
      refine ⟨?_, ?_⟩
      · rw [← dsize, Sy.bare_data, hd, Sd.bare_app]
        exact hp
      · rw [← dsize, hd, List.length_append, List.length_singleton]
        omega)
    generalize bB P = Z at HP1 HSP
    obtain ⟨s0, cs, rfl⟩ := hr.shape
    obtain ⟨aa, ca, rfl⟩ := hra.shape
    obtain ⟨ab, cb, rfl⟩ := hrb.shape
    generalize s.length = sl at HP1 HN ⊢
    obtain ⟨n, hn⟩ : ∃ n, n = A.length := ⟨_, rfl⟩
    obtain ⟨m, hm⟩ : ∃ m, m = Bl.length := ⟨_, rfl⟩
    rw [← hn] at HP1 HN hLl hmem hfa ⊢
    rw [← hm] at HP1 HN hmem hfb ⊢
    have hnb : n ≤ 1048576 := by omega
    have hmb : m ≤ 1048576 := by omega
    obtain ⟨N, hN⟩ : ∃ N, N = L.length := ⟨_, rfl⟩
    rw [← hN] at HSP hLl
    have HNL := hid hN
    have HNE := hid hLl
    have hNb : N ≤ 2097152 := by omega
    have HM := hid hmem
    have HWx := hid hw
    have HWL := hid hwl
    obtain ⟨K, hK⟩ : ∃ K, K = S.length := ⟨_, rfl⟩
    have HKE := hid hK
    have hKb : K ≤ 8388608 := by omega
    clear hr hwf hl hra hrb hg hxa hxb h0 h1 h2 h3 h4 e1 hV hw hmem hSl c1 c2 c3 c4 hPl hL hLl hN hn hm hK hwl hfa hfb
    go_enter Tryd.func5, Tryd.ntmps5
    go_wp2_with fail
    have hb0 := (Below.refl w.heap.size w).alloc (Nat.le_refl _) (.cells #[.slice s0 sl cs, .slice aa n ca, .slice ab m cb, .int .i64 x3] 25)
    have hn0 := heap_alloc_new w (.cells #[.slice s0 sl cs, .slice aa n ca, .slice ab m cb, .int .i64 x3] 25)
    have hs0 : w.heap.size < (w.alloc (.cells #[.slice s0 sl cs, .slice aa n ca, .slice ab m cb, .int .i64 x3] 25)).heap.size := by simp
    generalize w.alloc (.cells #[.slice s0 sl cs, .slice aa n ca, .slice ab m cb, .int .i64 x3] 25) = w0 at hb0 hn0 hs0 ⊢
    have HC : Hid (∀ w', Below w0.heap.size w0 w' → w'.cell? ⟨w.heap.size, 0, none⟩ = some (.slice s0 sl cs) ∧ w'.cell? ⟨w.heap.size, 1, none⟩ = some (.slice aa n ca) ∧ w'.cell? ⟨w.heap.size, 2, none⟩ = some (.slice ab m cb) ∧ w'.cell? ⟨w.heap.size, 3, none⟩ = some (.int .i64 x3)) := hid (fun w' h => by
      have h1 := (h.block w.heap.size hs0).trans hn0
      exact ⟨cell_of_blk h1 0, cell_of_blk h1 1, cell_of_blk h1 2, cell_of_blk h1 3⟩)
    have HW : Hid (∀ w', Below w0.heap.size w0 w' → Below w.heap.size w w') := hid (fun w' h => hb0.trans (h.mono (Nat.le_of_lt hs0)))
    have HB0 := hid (Below.refl w0.heap.size w0)
    clear hb0 hn0 hs0
    refine (HP1.out _ (HW.out _ HB0.out)).mono ?_
    rintro e w1 ⟨rfl, hb1⟩
    have HB1 := hid (HB0.out.trans (hb1.mono HB0.out.size))
    clear hb1 HP1
    go_wp2_with fail
    refine (HSP.out w1).mono ?_
    rintro e w2 ⟨rfl, ho2, hb2⟩
    have HB2 := hid (HB1.out.trans (hb2.mono HB1.out.size))
    obtain ⟨G2, hG2⟩ : ∃ G2, G2 = w1.heap.size := ⟨_, rfl⟩
    rw [← hG2] at ho2 ⊢
    have HR2 : Hid (∀ w', Below w2.heap.size w2 w' → RdT w' (.slice (some ⟨G2, 0, none⟩) N N) L) := hid (fun w' h => by
      have h9 := RdX.below (own_rd ho2) h
      rw [HNL.out] at h9 ⊢
      exact h9)
    clear hb2 HSP ho2 hG2
    obtain ⟨t0, t1, t2, t3⟩ := HC.out _ HB2.out
    go_wp2_with fail
    refine (HN.out w2 (HW.out _ HB2.out)).mono ?_
    rintro e w3 ⟨v3, rfl, hO3, hb3⟩
    obtain ⟨a3, c3, rfl⟩ := own_shape hO3
    have HB3 := hid (HB2.out.trans (hb3.mono HB2.out.size))
    have HR3 : Hid (∀ w', Below w3.heap.size w3 w' → RdC w' (.slice a3 K c3) S) := hid (fun w' h => by
      have h9 := RdX.below (own_rd hO3) h
      rw [← HKE.out] at h9
      show RdX w' (.slice a3 K c3) S.length (csC S)
      rw [← HKE.out]
      exact h9)
    have HL3 : Hid (∀ w', Below w3.heap.size w3 w' → RdT w' (.slice (some ⟨G2, 0, none⟩) N N) L) := hid (fun w' h => HR2.out _ (hb3.trans (h.mono hb3.size)))
    rw [← HKE.out]
    clear hO3 hb3 HN HR2 t0 t1 t2 t3
    obtain ⟨t0, t1, t2, t3⟩ := HC.out _ HB3.out
    go_wp2_with fail
    clear t0 t1 t2 t3
    go_loopw [8, 9] (fun ww ii wr => ∃ k : Nat, k ≤ K ∧ ii = .int .i64 k ∧ ww = .int .i64 ((n + Sy.wants (S.take k) : Nat) : Int) ∧ Hid (Below w3.heap.size w3 wr)) (fun _ ii _ => K - (intOf ii).toNat)
    case atStart => exact ⟨0, Nat.zero_le _, rfl, rfl, hid (Below.refl _ _)⟩
    case round =>
      obtain ⟨k, hk, rfl, rfl, HBr⟩ := hrel
      by_cases hlt : k < K
      · obtain ⟨c, hc⟩ : ∃ c, S[k]? = some c := ⟨_, List.getElem?_eq_getElem (by have := HKE.out; omega)⟩
        obtain ⟨b9, o9, rfl, hbl, d0, d1, d2, d3⟩ := rdC_at (HR3.out _ HBr.out) hc
        obtain ⟨q1, q2, q3, q4⟩ := HM.out c (List.mem_of_getElem? hc)
        have htk := Sy.wants_take hc
        have hle : Sy.wants (S.take (k + 1)) ≤ 1048576 := Nat.le_trans (Sy.wants_take_le S (k + 1)) HWL.out
        obtain ⟨cn, hcn⟩ : ∃ cn : Nat, cn = c.n.toNat := ⟨_, rfl⟩
        obtain ⟨cm, hcm⟩ : ∃ cm : Nat, cm = c.m.toNat := ⟨_, rfl⟩
        rw [show c.n = (cn : Int) by omega] at d1
        rw [show c.m = (cm : Int) by omega] at d3
        rw [← hcn, ← hcm] at htk
        have HTK := hid htk
        obtain ⟨u, hu⟩ : ∃ u, u = n + Sy.wants (S.take k) := ⟨_, rfl⟩
        rw [← hu]
        have HU := hid hu
        have hub : u + (cm - cn) ≤ 2097152 := by omega
        have i1 : (0 : Int) ≤ (k : Int) := by omega
        have i2 : (k : Int) < (K : Int) := by omega
        have iw0 : IntKind.i64.wrap ((cm : Int) - (cn : Int)) = (cm : Int) - (cn : Int) := by rw [IntKind.wrap_i64]; omega
        have iw1 : IntKind.i64.wrap ((u : Int) + max ((cm : Int) - (cn : Int)) 0) = ((u + (cm - cn) : Nat) : Int) := by rw [IntKind.wrap_i64]; omega
        clear hc q1 q2 q3 q4 htk hcn hcm hu d0 d2 hbl hle
        go_wp2_with fail
        go_quiet (fail)
        have HB4 := hid (below_drewN HBr.out nq)
        clear HBr d1 d3
        generalize wr.drewN nq = wt at HB4 ⊢
        go_wp2_with fail
        go_roundw
        case rel => exact ⟨k + 1, by omega, rfl, by rw [HTK.out, ← Nat.add_assoc, ← HU.out]; congr 1, HB4⟩
        case measure => simp [intOf]; omega
      · have hke : k = K := by omega
        subst hke
        obtain ⟨wo, hwo⟩ : ∃ wo, wo = wr := ⟨_, rfl⟩
        subst hwo
        have i2 : ¬ ((k : Int) < (k : Int)) := by omega
        have HNW : Hid (N = n + Sy.wants (S.take k)) := hid (by rw [List.take_of_length_le (Nat.le_of_eq HKE.out.symm), HNE.out])
        rw [← HNW.out]
        clear HNW
        go_wp2_with fail
        go_loopw [10] (fun ii wq => ∃ j : Nat, j ≤ N ∧ ii = .int .i64 j ∧ Hid (Below w3.heap.size w3 wq)) (fun ii _ => N - (intOf ii).toNat)
        case atStart => exact ⟨0, Nat.zero_le _, rfl, HBr⟩
        case round =>
          clear HBr
          obtain ⟨j, hj, rfl, HBq⟩ := hrel
          by_cases hjt : j < N
          · obtain ⟨y, hy⟩ : ∃ y, L[j]? = some y := ⟨_, List.getElem?_eq_getElem (by have := HNL.out; omega)⟩
            have hyl := HLW.out y (List.mem_of_getElem? hy)
            have HBd : Hid (Below w3.heap.size w3 wr.drew) := hid (below_drewN HBq.out 1)
            obtain ⟨b8, o8, e8, hb8, ty⟩ := rdT_at (HL3.out _ HBd.out) hy
            cases e8
            rw [Nat.zero_add] at ty
            obtain ⟨t0, t1, t2, t3⟩ := HC.out _ (HB3.out.trans (HBd.out.mono HB3.out.size))
            have hw := HWx.out
            have HBA := hid (fun w1 => Cx.bare_any y w1 (by unfold maxLen; omega))
            obtain ⟨z, hz⟩ : ∃ z, z = (Cx.bareB y).size := ⟨_, rfl⟩
            have hzx : ¬ (x3 < (z : Int)) := by omega
            have i3 : (0 : Int) ≤ (j : Int) := by omega
            have i4 : (j : Int) < (N : Int) := by omega
            generalize Cx.bareB y = Y at HBA hz
            have hzs : Y.size = z := hz.symm
            clear t0 t1 t2 hy hyl hb8 hw hz
            go_wp2_with fail
            go_region_held3 (fun w' => w'.cell? ⟨G2, j, none⟩ = some (.string y) ∧ w'.cell? ⟨w.heap.size, 3, none⟩ = some (.int .i64 x3)) (go_keep)
              (first | (go_at_call 16; refine (HBA.out _).mono ?_; rintro e wm ⟨rfl, rfl⟩))
            go_wp2_with fail
            go_roundw
            case rel => exact ⟨j + 1, by omega, by go_num, HBd⟩
            case measure => simp [intOf]; omega
          · have hje : j = N := by omega
            subst hje
            have i2 : ¬ ((j : Int) < (j : Int)) := by omega
            have z2 : ((j : Int) == (j : Int)) = true := beq_self_eq_true _
            have HBz := hid (HB3.out.trans (HBq.out.mono HB3.out.size))
            go_wp2_with fail
            refine (HS.out wr (HW.out _ HBz.out)).mono ?_
            rintro e w7 ⟨rfl, hb7⟩
            have HB7 := hid (HBz.out.trans (hb7.mono HBz.out.size))
            clear hb7 HS
            go_wp2_with fail
            go_ret
            exact ⟨rfl, HW.out _ HB7.out⟩
  · have e1 : Sy.sdT s A Bl x3 = ⟨#[]⟩ := by unfold Sy.sdT; rw [if_neg h0]
    have hef : errV (Sy.sdE s A Bl x3) = .iface 50 (.int .i64 (Sy.sdE s A Bl x3)) := by unfold errV; rw [if_neg h0]
    rw [e1, hef] at HP1
    generalize Sy.sdE s A Bl x3 = K at HP1
    have z1 := Sy.eq_yes ⟨#[]⟩
    obtain ⟨s0, cs, rfl⟩ := hr.shape
    obtain ⟨aa, ca, rfl⟩ := hra.shape
    obtain ⟨ab, cb, rfl⟩ := hrb.shape
    generalize s.length = sl at HP1 ⊢
    generalize A.length = n at HP1 ⊢
    generalize Bl.length = m at HP1 ⊢
    clear hr hwf hl hra hrb hg hxa hxb h0 e1 hfa hfb hef
    go_enter Tryd.func5, Tryd.ntmps5
    go_wp2_with fail
    have hb0 := (Below.refl w.heap.size w).alloc (Nat.le_refl _) (.cells #[.slice s0 sl cs, .slice aa n ca, .slice ab m cb, .int .i64 x3] 25)
    have hs0 : w.heap.size < (w.alloc (.cells #[.slice s0 sl cs, .slice aa n ca, .slice ab m cb, .int .i64 x3] 25)).heap.size := by simp
    generalize w.alloc (.cells #[.slice s0 sl cs, .slice aa n ca, .slice ab m cb, .int .i64 x3] 25) = w0 at hb0 hs0 ⊢
    have HW : Hid (∀ w', Below w0.heap.size w0 w' → Below w.heap.size w w') := hid (fun w' h => hb0.trans (h.mono (Nat.le_of_lt hs0)))
    have HB0 := hid (Below.refl w0.heap.size w0)
    clear hb0 hs0
    refine (HP1.out _ (HW.out _ HB0.out)).mono ?_
    rintro e w1 ⟨rfl, hb1⟩
    have HB1 := hid (HB0.out.trans (hb1.mono HB0.out.size))
    clear hb1 HP1
    go_wp2_with fail
    refine (HS.out w1 (HW.out _ HB1.out)).mono ?_
    rintro e w7 ⟨rfl, hb7⟩
    have HB7 := hid (HB1.out.trans (hb7.mono HB1.out.size))
    clear hb7 HS
    go_wp2_with fail
    go_ret
    exact ⟨rfl, HW.out _ HB7.out⟩

theorem own : ownKnob Tryd.prog.godebug = none := by kernel_rfl

set_option maxRecDepth 100000 in
theorem contract (H : Type) (enc : TypeId × Value → H) (W : World) (base : Nat) (args : Array Value) (ds gs : List (DataW H)) (before : List MemPlace)
    (hval : ∀ (j : Nat) t v, Tryd.f5.params[j]? = some t → args[j]? = some v → Value.okWide Tryd.prog W .any base t v)
    (hW : DataW.Whole enc Tryd.prog Tryd.f5.params.toList Rows.sideFitsSpec.vars false W args.toList ds gs before)
    (hk : Rows.uptoSmall H (ds ++ gs) = true)
    (hL : laidMetH Tryd.prog Rows.sideFitsUptoRow.laid W)
    : Calls Tryd.prog 5 args W fun e W' => ∃ v, e = .returned v ∧ Rows.sideFitsSpec.post enc Tryd.prog Tryd.f5 false true false false W args v W' := by
  have hW' := hW
  obtain ⟨p, q, hA0, hV, rfl, hfz, hnd⟩ := hW
  have hA : DataW.TrodAll enc Tryd.prog W 0 (fun _ => true) true Tryd.f5.params.toList args.toList ds p := hA0
  rw [Tryd.params5] at hA hval
  obtain ⟨v0, vs0, d0, ds0, p0, q0, hargs0, rfl, rfl, h0, r0⟩ := trodAll_cons hA
  obtain ⟨rfl, rfl, rfl⟩ := trodAll_nil r0
  obtain rfl : args = #[v0] := by cases args; simp_all
  obtain ⟨rfl, rfl⟩ := trodVars_none hV
  obtain ⟨v0_0, x0_0, v0_1, x0_1, v0_2, x0_2, x0_3, rfl, hr0_0, hw0_0, hs0_0, hr0_1, hw0_1, hs0_1, hr0_2, hw0_2, hs0_2, hq0⟩ := open_case15 h0
  clear hA0
  simp only [List.append_nil] at hW' hk
  have hk' : Rows.uptoBulkAll (H := H) [d0] ≤ 1048576 := of_decide_eq_true hk
  simp only [Rows.uptoBulkAll] at hk'
  have hlen0 := hq0 (by omega)
  have hlt0 : ∀ x ∈ p0, x.block < W.heap.size := fun x hx => by simpa using hW'.lt x (by simp [hx])
  refine (walk v0_0 x0_0 v0_1 x0_1 v0_2 x0_2 x0_3 W hr0_0 hw0_0 hlen0.1 hs0_0 hr0_1 hw0_1 hlen0.2.1 hs0_1 hr0_2 hw0_2 hlen0.2.2 hs0_2 (handle_of hL)).mono fun e W' ⟨he, hb⟩ => ?_
  subst he
  exact ⟨_, rfl, _, _, _, [], (p0 ++ []), [], hW', trodAll_cons_mk (shut_bool Tryd.underlying4 _) trodAll_mk0, trodAll_cons_mk (Below.trod laidOut (by kernel_rfl) (of_decide_eq_true (by kernel_rfl)) h0 hb hlt0) trodAll_mk0, rfl, hb.frame _, fun h => by cases h⟩

set_option maxRecDepth 100000 in
theorem lifted (os : Os) (started : os.Started) (H : Type) (enc : TypeId × Value → H) (F : Stop.Interp) :
    ReturnsInHanded {} Tryd.checked os 5 .any ((Rows.OpenSpec.upto Rows.sideFitsSpec).preRow enc Tryd.prog Tryd.f5 Rows.sideFitsUptoRow.domain false Rows.sideFitsUptoRow.laid) (((Rows.OpenSpec.upto Rows.sideFitsSpec).at F).post enc Tryd.prog Tryd.f5 false true false false) := by
  refine returnsInHanded_of_row (C := Tryd.checked) (s := Rows.OpenSpec.upto Rows.sideFitsSpec) own started (by kernel_rfl) Tryd.func5
    (witness_row_at (enc := enc) (C := Tryd.checked) false
      { World.holding Tryd.prog os ⟨#[], #[], []⟩ with heap := (World.holding Tryd.prog os ⟨#[], #[], []⟩).heap.modify 0 fun
          | .cells _ t frozen => .cells #[.iface 112 (.agg #[.pointer (some ⟨2, 27, none⟩)])] t frozen
          | o => o }
      #[.agg #[.slice none 0 0, .slice none 0 0, .slice none 0 0, .int .i64 0]] rfl (by kernel_rfl) (by kernel_rfl) (by kernel_rfl)
      (OpenSpec.preRow_of_cond 8 (x := ([.agg [.nil, .nil, .nil, .lit (.int .i64 0)]], [], [])) (by kernel_rfl) (by kernel_rfl) (fun k hk => by cases hk; kernel_rfl) (by kernel_rfl) (laidMetH_of_parts (laidMet_nil _ _) (by kernel_rfl)))) ?_
  intro W base args ds gs before hval hW _ hcond hsz hL _ _
  exact contract H enc W base args ds gs before hval hW (hcond _ rfl) hL

theorem said : Rows.SideFitsUptoSaid :=
  OpenClaim.holds_of_cond 5 Tryd.f5 rfl rfl rfl rfl rfl rfl rfl ⟨rfl, rfl, rfl, rfl, rfl⟩ rfl rfl rfl rfl rfl (by kernel_rfl) Tryd.func5 (by kernel_rfl)
    (of_decide_eq_true (by kernel_rfl)) (by unfold Func.isWrapper; first | (rw [if_pos (by decide +kernel)]; kernel_rfl) | (rw [if_neg (by decide +kernel)]; exact ⟨rfl, rfl⟩))
    (fun os started H enc _ F => by rw [OpenClaim.pre_eq_preRow]; exact lifted os started H enc F)

theorem plain (f : FuncId) (fn : Func) (hf : Tryd.pinned.checked.prog.funcNamed Rows.sideFitsUptoRow.func = some f) (hfn : Tryd.pinned.checked.prog.funcs[f]? = some fn) :
    true = Tryd.pinned.checked.prog.looks [] ∧ ∀ (j : Nat) t, fn.params[j]? = some t → Tryd.pinned.checked.prog.wantsStandIn t = false := by
  obtain rfl : f = 5 := Option.some.inj ((show Tryd.prog.funcNamed Rows.sideFitsUptoRow.func = some 5 by kernel_rfl).symm.trans hf) |>.symm
  obtain rfl : fn = Tryd.f5 := (Option.some.inj (Tryd.func5.symm.trans hfn)).symm
  refine ⟨by kernel_rfl, fun j t ht => ?_⟩
  rw [Tryd.params5] at ht
  have hm : t = 25 := by simpa using Array.mem_of_getElem? ht
  rcases hm with rfl
  · exact (show Tryd.prog.wantsStandIn 25 = false by kernel_rfl)

theorem card : Rows.SideFitsUptoCardSaid :=
  Claim7.holds_tied_plain_at .later [] _ _ _ _ said (fun _ h => by cases h) (by kernel_rfl) (fun _ h => by cases h) sideFitsUpto_row_tie rfl ⟨rfl, rfl⟩ (by kernel_rfl) rfl plain (by kernel_rfl)
end Go.Proofs.YtjgjfnmljmmplaaDoor.sideFits
