/-
  The walk of sweep.
-/
import Derived.Test.YtdilmgcdebobaaaK4
namespace Go.Proofs.Ytdilmgcdebobaaa
open Go.RowKit
open Ed (Ch Run Pr)
open My (Ats En)

theorem stepE_eq (a b : List Int) (t : Ats) (k : Int) : My.stepE a b k (t (k - 1)) (t (k + 1)) = (My.slide a b k (b.length + 1) (candY t k), if (if (t (k + 1)).1 < (t (k - 1)).1 + 1 then (t (k - 1)).2 else (t (k + 1)).2) = 0 ∧ My.hf a b ≤ My.xOf a k (My.slide a b k (b.length + 1) (candY t k)) + My.slide a b k (b.length + 1) (candY t k) then k else (if (t (k + 1)).1 < (t (k - 1)).1 + 1 then (t (k - 1)).2 else (t (k + 1)).2)) := by
  unfold My.stepE candY
  by_cases h : (t (k + 1)).1 < (t (k - 1)).1 + 1
  · simp only [if_pos h]
  · simp only [if_neg h]

theorem two_alloc (w : World) (X Y : Obj) : ((w.alloc X).alloc Y).heap[w.heap.size]? = some X ∧ Below w.heap.size w ((w.alloc X).alloc Y) :=
  ⟨(((Below.refl _ _).alloc (Nat.le_refl _) _).block w.heap.size (by simp)).trans (heap_alloc_new w _), ((Below.refl _ _).alloc (Nat.le_refl _) _).alloc (by simp) _⟩

set_option maxHeartbeats 8000000 in
set_option maxRecDepth 100000 in
theorem sweep_any {w : World} {gs gr nA cap lo hi : Nat} {va vb : Value} {a b : List Int} {t : Ats} (d : Int) (n : Nat) (kf : Nat → Int)
    (hS : w.heap[gs]? = some (.cells #[va, vb, .int .i64 (My.hf a b), .slice (some ⟨gr, 0, none⟩) nA cap] 144)) (hR : AtR w gr cap t lo hi) (ha : RdI w va a) (hb : RdI w vb b)
    (hna : ∀ g o n c, va = .slice (some ⟨g, o, none⟩) n c → g ≠ gr) (hnb : ∀ g o n c, vb = .slice (some ⟨g, o, none⟩) n c → g ≠ gr) (hgs : gs ≠ gr) (hhi : hi < nA) (hcap : nA ≤ cap) (hd : d = 1 ∨ d = -1)
    (hla : a.length ≤ 2000000) (hlb : b.length ≤ 2000000) (hhh : hi ≤ 10000000) (hkf : ∀ j, kf j = kf 0 + d * j) (hk1 : ∀ j, kf (j + 1) = kf j + d) (hne : ∀ j, j < n → kf j ≠ kf n)
    (hrg : ∀ j, j < n → (lo : Int) + 1 ≤ kf j ∧ kf j + 1 ≤ hi) (hF : FineG a b d n t (kf 0)) :
    Calls Try.prog 93 #[.pointer (some ⟨gs, 0, none⟩), .int .i64 (kf 0), .int .i64 (kf n), .int .i64 d] w fun e w' => e = .returned (.tuple #[]) ∧ Kept (fun j => j = gr) w w' ∧ AtR w' gr cap (swG a b d n t (kf 0)) lo hi := by
  obtain ⟨aa, ca, rfl⟩ := ha.shape
  obtain ⟨ab, cb, rfl⟩ := hb.shape
  have HS := hid hS
  have HR := hid hR
  have HA := hid ha
  have HB := hid hb
  have HKF := hid hkf
  have HSN : Hid (∀ j, swG a b d (j + 1) t (kf 0) = My.put (swG a b d j t (kf 0)) (kf j) (My.stepE a b (kf j) (swG a b d j t (kf 0) (kf j - 1)) (swG a b d j t (kf 0) (kf j + 1)))) := hid (fun j => by
    rw [swG_snoc, ← HKF.out j])
  have HFA : Hid (∀ j, j < n → StOk a b (swG a b d j t (kf 0)) (kf j)) := hid (fun j hj => by
    have := fine_at a b d n j t (kf 0) hF hj
    rwa [← HKF.out j] at this)
  have HK1 := hid hk1
  have HME : Hid (∀ j, j ≤ n → ((kf n - kf j) * d).toNat = n - j) := hid (fun j hj => by
    rw [HKF.out n, HKF.out j]
    rcases hd with e | e
    · subst e; omega
    · subst e; omega)
  have HNE := hid hne
  have HNA : Hid (∀ g o, aa = some ⟨g, o, none⟩ → ¬ g = gr) := hid (fun g o h => hna g o _ _ (by rw [h]))
  have HNB : Hid (∀ g o, ab = some ⟨g, o, none⟩ → ¬ g = gr) := hid (fun g o h => hnb g o _ _ (by rw [h]))
  have hsl := lt_of_heap hS
  have hrl := hR.lt
  have HHF : Hid (0 ≤ My.hf a b ∧ My.hf a b ≤ 4000000) := hid (by unfold My.hf; omega)
  generalize hHF : My.hf a b = HFV at *
  clear hS hR ha hb hkf hk1 hne hF hna hnb
  go_enter Try.func93, Try.ntmps93
  go_wp2
  go_loopw [1] (fun k wr => ∃ j : Nat, j ≤ n ∧ k = .int .i64 (kf j) ∧ Hid (Kept (fun j => j = gr) w wr) ∧ Hid (AtR wr gr cap (swG a b d j t (kf 0)) lo hi)) (fun k _ => ((kf n - intOf k) * d).toNat)
  case atStart => exact ⟨0, Nat.zero_le _, rfl, hid (Kept.refl _ _), HR⟩
  case round =>
    obtain ⟨j, hj, rfl, HK, HT⟩ := hrel
    by_cases hlt : j < n
    · obtain ⟨hr1, hr2⟩ := hrg j hlt
      have hst := HFA.out j hlt
      have hsn := HSN.out j
      have hse := stepE_eq a b (swG a b d j t (kf 0)) (kf j)
      have HKN := hid (HK1.out j)
      have hkne := HNE.out j hlt
      have HMM : Hid (((kf n - kf (j + 1)) * d).toNat < ((kf n - kf j) * d).toNat) := hid (by rw [HME.out j hj, HME.out (j + 1) (by omega)]; omega)
      rw [hHF] at hse
      generalize swG a b d j t (kf 0) = T at hst hsn hse HT
      obtain ⟨k, hk⟩ : ∃ k : Nat, (k : Int) = kf j := ⟨(kf j).toNat, by omega⟩
      rw [← hk] at hr1 hr2 hst hsn hse HKN hkne HMM ⊢
      clear hk
      obtain ⟨g1, g2, g3, g4, g5, g6, g7, g8⟩ := hst
      have hYge := My.slide_ge (a := a) (b := b) (k : Int) (b.length + 1) (candY T k)
      have hYle := slide_le (a := a) (b := b) (k := (k : Int)) (b.length + 1) (candY T k) g2
      have hXle := slide_lex (a := a) (b := b) (k := (k : Int)) (b.length + 1) (candY T k) g4
      have HALL := hid (fun z => My.slide_all (a := a) (b := b) (k : Int) (b.length + 1) (candY T k) z)
      have HSTP := hid (My.slide_stop (a := a) (b := b) (k : Int) (b.length + 1) (candY T k) (by omega))
      generalize My.slide a b (k : Int) (b.length + 1) (candY T k) = Y at hYge hYle hXle HALL HSTP hse
      have e1 : ((k + 1 : Nat) : Int) = (k : Int) + 1 := by omega
      have e2 : ((k - 1 : Nat) : Int) = (k : Int) - 1 := by omega
      obtain ⟨cw0, cw1⟩ := HT.out.cells (k := k + 1) (by omega) (by omega)
      obtain ⟨ci0, ci1⟩ := HT.out.cells (k := k - 1) (by omega) (by omega)
      rw [e1] at cw0 cw1
      rw [e2] at ci0 ci1
      have hcy : candY T k = if (T ((k : Int) + 1)).1 < (T ((k : Int) - 1)).1 + 1 then (T ((k : Int) - 1)).1 + 1 else (T ((k : Int) + 1)).1 := rfl
      generalize candY T k = y0 at g1 g2 g3 g4 hYge hcy HALL
      rcases hTw : T ((k : Int) + 1) with ⟨wy, wo⟩
      rcases hTi : T ((k : Int) - 1) with ⟨iy, io⟩
      rw [hTw] at cw0 cw1 hse hsn hcy g7 g8
      rw [hTi] at ci0 ci1 hse hsn hcy g5 g6
      simp only at cw0 cw1 ci0 ci1 hse hcy g5 g6 g7 g8
      clear hTw hTi
      have hsb := (HK.out.block gs hsl hgs).trans HS.out
      have s0 : wr.cell? ⟨gs, 0, none⟩ = some (.slice aa a.length ca) := cell_of_blk hsb 0
      have s1 : wr.cell? ⟨gs, 1, none⟩ = some (.slice ab b.length cb) := cell_of_blk hsb 1
      have s2 : wr.cell? ⟨gs, 2, none⟩ = some (.int .i64 HFV) := cell_of_blk hsb 2
      have s3 : wr.cell? ⟨gs, 3, none⟩ = some (.slice (some ⟨gr, 0, none⟩) nA cap) := cell_of_blk hsb 3
      have q0 : ((k : Int) == kf n) = false := zne hkne
      have hgl : gs < wr.heap.size := Nat.lt_of_lt_of_le hsl HK.out.size
      have hgrl : gr < wr.heap.size := HT.out.lt
      have i1 : IntKind.i64.wrap ((k : Int) + 1) = ((k + 1 : Nat) : Int) := (wrapOk (by omega) (by omega)).trans e1.symm
      have i2 : IntKind.i64.wrap ((k : Int) - 1) = ((k - 1 : Nat) : Int) := (wrapOk (by omega) (by omega)).trans e2.symm
      have i3 : (0 : Int) ≤ ((k + 1 : Nat) : Int) := by omega
      have i4 : ((k + 1 : Nat) : Int) < (nA : Int) := by omega
      have i5 : (0 : Int) ≤ ((k - 1 : Nat) : Int) := by omega
      have i6 : ((k - 1 : Nat) : Int) < (nA : Int) := by omega
      have HCY := hid hcy
      have HSE := hid hse
      have HSB := hid hsb
      have HSN2 := hid hsn
      clear hcy hse hsb hsn e1 e2
      go_upto_if 38 with fail
      go_cut [] (fun wc => Hid (wc.heap[wr.heap.size]? = some (.cells #[.int .i64 y0, .int .i64 (if wy < iy + 1 then io else wo)] 146)) ∧ Hid (Below wr.heap.size wr wc))
      case first =>
        by_cases hc : wy < iy + 1
        · have HY : Hid (y0 = iy + 1) := hid (by rw [HCY.out, if_pos hc])
          have HC := hid hc
          go_wp2
          go_meet
          exact ⟨hid (by rw [HY.out, if_pos HC.out]; exact (two_alloc wr _ _).1), hid (two_alloc wr _ _).2⟩
        · have HY : Hid (y0 = wy) := hid (by rw [HCY.out, if_neg hc])
          have HC := hid hc
          go_wp2
          go_meet
          exact ⟨hid (by rw [HY.out, if_neg (by have := HC.out; omega)]; exact (two_alloc wr _ _).1), hid (two_alloc wr _ _).2⟩
      case rest =>
        obtain ⟨HGW, HBW⟩ := hcut
        generalize (if wy < iy + 1 then io else wo) = o0 at HGW HSE
        have HK2 : Hid (Kept (fun j => j = gr) w wc) := hid (HK.out.step (Kept.of_below (X := fun _ => False) HBW.out) (fun _ h => h.elim))
        have HT2 : Hid (AtR wc gr cap T lo hi) := hid (HT.out.far (HBW.out.block gr hgrl))
        have hwg : w.heap.size ≤ wr.heap.size := HK.out.size
        have hggr : gr ≠ wr.heap.size := by omega
        have hggs : gs ≠ wr.heap.size := by omega
        obtain ⟨gw, hgw⟩ : ∃ gw, gw = wr.heap.size := ⟨_, rfl⟩
        rw [← hgw] at HGW hggr hggs hwg ⊢
        clear cw0 cw1 ci0 ci1 s0 s1 s2 s3 HSB HK HT HBW hgw hgl hgrl i1 i2 i3 i4 i5 i6 HCY q0 g5 g6 g7 g8
        have hsb := (HK2.out.block gs hsl hgs).trans HS.out
        have s0 : wc.cell? ⟨gs, 0, none⟩ = some (.slice aa a.length ca) := cell_of_blk hsb 0
        have m0 : wc.cell? ⟨gw, 0, none⟩ = some (.int .i64 y0) := cell_of_blk HGW.out 0
        have i1 : IntKind.i64.wrap (y0 - (k : Int)) = y0 - (k : Int) := wrapOk (by omega) (by omega)
        have i2 : IntKind.i64.wrap (y0 - (k : Int) + (a.length : Int)) = y0 - (k : Int) + (a.length : Int) := wrapOk (by omega) (by omega)
        have i3 : IntKind.i64.wrap (y0 - (k : Int) + (a.length : Int) + 1) = y0 - (k : Int) + (a.length : Int) + 1 := wrapOk (by omega) (by omega)
        clear hsb
        go_wp2_with fail
        go_quiet (fail)
        go_wp2_with fail
        have HGW1 : Hid ((wc.drewN nq).heap[gw]? = some (.cells #[.int .i64 y0, .int .i64 o0] 146)) := HGW
        have HK3 : Hid (Kept (fun j => j = gr) w (wc.drewN nq)) := hid (HK2.out.drewN nq)
        have HT3 : Hid (AtR (wc.drewN nq) gr cap T lo hi) := hid (HT2.out.far rfl)
        generalize wc.drewN nq = w3 at HGW1 HK3 HT3 ⊢
        clear HGW HK2 HT2 s0 m0 i1 i2 i3
        go_loopw [10] (fun x wv => ∃ y : Int, y0 ≤ y ∧ y ≤ Y ∧ x = .int .i64 (y - (k : Int) + (a.length : Int) + 1) ∧ Hid (wv.heap[gw]? = some (.cells #[.int .i64 y, .int .i64 o0] 146)) ∧ Hid (Kept (fun j => j = gw) w3 wv)) (fun x _ => (Y - (k : Int) + (a.length : Int) + 1 - intOf x).toNat)
        case atStart => exact ⟨y0, Int.le_refl _, hYge, rfl, HGW1, hid (Kept.refl _ _)⟩
        case round =>
          obtain ⟨y, hy0, hyY, rfl, HGV, HKV⟩ := hrel
          obtain ⟨w4, hw4⟩ : ∃ w4, w4 = wr := ⟨_, rfl⟩
          subst hw4
          have hK4 : Kept (fun j => j = gr) w w4 := HK3.out.step HKV.out (fun q hq => .inr (by rw [hq]; exact hwg))
          have HK4 := hid hK4
          have HT4 : Hid (AtR w4 gr cap T lo hi) := hid (HT3.out.far (HKV.out.block gr HT3.out.lt hggr))
          have hsb := (HK4.out.block gs hsl hgs).trans HS.out
          have s0 : w4.cell? ⟨gs, 0, none⟩ = some (.slice aa a.length ca) := cell_of_blk hsb 0
          have s1 : w4.cell? ⟨gs, 1, none⟩ = some (.slice ab b.length cb) := cell_of_blk hsb 1
          have s2 : w4.cell? ⟨gs, 2, none⟩ = some (.int .i64 HFV) := cell_of_blk hsb 2
          have s3 : w4.cell? ⟨gs, 3, none⟩ = some (.slice (some ⟨gr, 0, none⟩) nA cap) := cell_of_blk hsb 3
          have m0 : w4.cell? ⟨gw, 0, none⟩ = some (.int .i64 y) := cell_of_blk HGV.out 0
          have m1 : w4.cell? ⟨gw, 1, none⟩ = some (.int .i64 o0) := cell_of_blk HGV.out 1
          have mf : ∀ o, w4.frozen? ⟨gw, o, none⟩ = false := fun o => frozen_of_blk HGV.out o
          have HRA := hid (HA.out.kept hK4 HNA.out)
          have HRB := hid (HB.out.kept hK4 HNB.out)
          have hx0 : 0 ≤ y - (k : Int) + (a.length : Int) + 1 := by unfold My.xOf at g3; omega
          have hx1 : y - (k : Int) + (a.length : Int) + 1 ≤ a.length := by unfold My.xOf at hXle; omega
          have HXY : Hid (My.xOf a k y = y - (k : Int) + (a.length : Int) + 1) := hid rfl
          clear hsb hK4
          go_upto_region 8 with fail
          go_cut [89] (fun c wx => c = .bool (decide (y < Y)) ∧ ∃ q, wx = w4.drewN q)
          case first =>
            by_cases hxl : y - (k : Int) + (a.length : Int) + 1 < (a.length : Int)
            case neg =>
              have HE : Hid (decide (y < Y) = false) := hid (decide_eq_false (fun h => by
                have := (My.mAt_lt (HALL.out y hy0 h)).1
                unfold My.xOf at this
                omega))
              have e1 : decide (y - (k : Int) + (a.length : Int) + 1 < (a.length : Int)) = false := decide_eq_false hxl
              go_quiet (fail)
              go_wp2
              go_meet
              exact ⟨by rw [HE.out], _, rfl⟩
            by_cases hyl : y < (b.length : Int)
            case neg =>
              have HE : Hid (decide (y < Y) = false) := hid (decide_eq_false (fun h => by omega))
              have e1 : decide (y - (k : Int) + (a.length : Int) + 1 < (a.length : Int)) = true := decide_eq_true hxl
              have e2 : decide (y < (b.length : Int)) = false := decide_eq_false hyl
              go_quiet (fail)
              go_wp2
              go_meet
              exact ⟨by rw [HE.out], _, rfl⟩
            obtain ⟨u, hu⟩ : ∃ u, a[(y - (k : Int) + (a.length : Int) + 1).toNat]? = some u := ⟨_, List.getElem?_eq_getElem (by omega)⟩
            obtain ⟨z, hz⟩ : ∃ z, b[y.toNat]? = some z := ⟨_, List.getElem?_eq_getElem (by omega)⟩
            obtain ⟨b1, o1, rfl, _, d1⟩ := rdI_at HRA.out hu
            obtain ⟨b2, o2, rfl, _, d2⟩ := rdI_at HRB.out hz
            have HE : Hid (decide (y < Y) = (u == z)) := hid (by
              have hm : My.mAt a b (My.xOf a k y) y = (u == z) := by
                rw [HXY.out]
                unfold My.mAt
                rw [decide_eq_true (by omega), decide_eq_true (by omega), Bool.true_and, Bool.true_and]
                exact eqAt_some hu hz
              rw [← hm]
              by_cases h : y < Y
              · rw [decide_eq_true h]; exact (HALL.out y hy0 h).symm
              · rw [decide_eq_false h, show y = Y by omega]; exact HSTP.out.symm)
            have e1 : decide (y - (k : Int) + (a.length : Int) + 1 < (a.length : Int)) = true := decide_eq_true hxl
            have e2 : decide (y < (b.length : Int)) = true := decide_eq_true hyl
            have i5 : (0 : Int) ≤ y := by omega
            clear hu hz
            go_quiet (fail)
            go_wp2
            go_meet
            exact ⟨by rw [HE.out], _, rfl⟩
          case rest =>
            obtain ⟨rfl, q, rfl⟩ := hcut
            have m0' : (w4.drewN q).cell? ⟨gw, 0, none⟩ = some (.int .i64 y) := m0
            have m1' : (w4.drewN q).cell? ⟨gw, 1, none⟩ = some (.int .i64 o0) := m1
            have mf' : ∀ o, (w4.drewN q).frozen? ⟨gw, o, none⟩ = false := mf
            have s2' : (w4.drewN q).cell? ⟨gs, 2, none⟩ = some (.int .i64 HFV) := s2
            have s3' : (w4.drewN q).cell? ⟨gs, 3, none⟩ = some (.slice (some ⟨gr, 0, none⟩) nA cap) := s3
            have HGV5 : Hid ((w4.drewN q).heap[gw]? = some (.cells #[.int .i64 y, .int .i64 o0] 146)) := HGV
            have HKV5 : Hid (Kept (fun j => j = gw) w3 (w4.drewN q)) := hid (HKV.out.drewN q)
            have HK5 : Hid (Kept (fun j => j = gr) w (w4.drewN q)) := hid (HK4.out.drewN q)
            have HT5 : Hid (AtR (w4.drewN q) gr cap T lo hi) := hid (HT4.out.far rfl)
            clear m0 m1 mf s0 s1 s2 s3 HGV HKV HK4 HT4 HRA HRB
            generalize w4.drewN q = w5 at m0' m1' mf' s2' s3' HGV5 HKV5 HK5 HT5 ⊢
            by_cases hyl : y < Y
            · rw [decide_eq_true hyl]
              have i1 : IntKind.i64.wrap (y - (k : Int) + (a.length : Int) + 1 + 1) = y + 1 - (k : Int) + (a.length : Int) + 1 := (wrapOk (by omega) (by omega)).trans (by omega)
              have i2 : IntKind.i64.wrap (y + 1) = y + 1 := wrapOk (by omega) (by omega)
              have HGN : Hid ((w5.setCell ⟨gw, 0, none⟩ (.int .i64 (y + 1))).heap[gw]? = some (.cells #[.int .i64 (y + 1), .int .i64 o0] 146)) := hid (set_heap w5 gw 0 _ _ _ HGV5.out)
              have HKN2 : Hid (Kept (fun j => j = gw) w3 (w5.setCell ⟨gw, 0, none⟩ (.int .i64 (y + 1)))) := hid (HKV5.out.set rfl _)
              go_wp2
              go_roundw
              case rel => exact ⟨y + 1, by omega, by omega, by go_num, HGN, HKN2⟩
              case measure => simp [intOf]; omega
            · rw [decide_eq_false hyl]
              obtain rfl : y = Y := by omega
              have i1 : IntKind.i64.wrap (y - (k : Int) + (a.length : Int) + 1 + y) = y - (k : Int) + (a.length : Int) + 1 + y := wrapOk (by omega) (by omega)
              go_upto_region 11 with fail
              go_cut [109] (fun c wx => c = .bool (decide (o0 = 0 ∧ HFV ≤ y - (k : Int) + (a.length : Int) + 1 + y)) ∧ ∃ q, wx = w5.drewN q)
              case first =>
                by_cases hov : o0 = 0
                · have e1 : (o0 == 0) = true := zeq hov
                  have HE : Hid (decide (o0 = 0 ∧ HFV ≤ y - (k : Int) + (a.length : Int) + 1 + y) = decide (HFV ≤ y - (k : Int) + (a.length : Int) + 1 + y)) := hid (by simp [hov])
                  clear hov
                  go_quiet (fail)
                  go_wp2
                  go_meet
                  exact ⟨by rw [HE.out], _, rfl⟩
                · have e1 : (o0 == 0) = false := zne hov
                  have HE : Hid (decide (o0 = 0 ∧ HFV ≤ y - (k : Int) + (a.length : Int) + 1 + y) = false) := hid (by simp [hov])
                  clear hov
                  go_quiet (fail)
                  go_wp2
                  go_meet
                  exact ⟨by rw [HE.out], _, rfl⟩
              case rest =>
                obtain ⟨rfl, q6, rfl⟩ := hcut
                obtain ⟨OV, hOV⟩ : ∃ OV, OV = (if o0 = 0 ∧ HFV ≤ My.xOf a k y + y then (k : Int) else o0) := ⟨_, rfl⟩
                have HOV := hid hOV
                rw [← hOV] at HSE
                clear hOV
                have HXY2 : Hid (My.xOf a k y + y = y - (k : Int) + (a.length : Int) + 1 + y) := hid rfl
                have HGV6 : Hid ((w5.drewN q6).heap[gw]? = some (.cells #[.int .i64 y, .int .i64 o0] 146)) := HGV5
                have HK6 : Hid (Kept (fun j => j = gr) w (w5.drewN q6)) := hid (HK5.out.drewN q6)
                have HT6 : Hid (AtR (w5.drewN q6) gr cap T lo hi) := hid (HT5.out.far rfl)
                have mf6 : ∀ o, (w5.drewN q6).frozen? ⟨gw, o, none⟩ = false := mf'
                have m16 : (w5.drewN q6).cell? ⟨gw, 1, none⟩ = some (.int .i64 o0) := m1'
                clear m0' m1' mf' s2' s3' HGV5 HKV5 HK5 HT5 i1
                generalize w5.drewN q6 = w6 at HGV6 HK6 HT6 mf6 m16 ⊢
                go_upto_if 109 with fail
                go_cut [] (fun wx => Hid (wx.heap[gw]? = some (.cells #[.int .i64 y, .int .i64 OV] 146)) ∧ Hid (Kept (fun j => j = gw) w6 wx))
                case first =>
                  by_cases hov : o0 = 0 ∧ HFV ≤ y - (k : Int) + (a.length : Int) + 1 + y
                  · have HE : Hid (OV = k) := hid (by rw [HOV.out, HXY2.out, if_pos hov])
                    rw [decide_eq_true hov]
                    clear hov
                    go_wp2
                    go_meet
                    exact ⟨hid (by rw [HE.out]; exact set_heap w6 gw 1 _ _ _ HGV6.out), hid ((Kept.refl (fun j => j = gw) w6).set (g := gw) rfl _)⟩
                  · have HE : Hid (OV = o0) := hid (by rw [HOV.out, HXY2.out, if_neg hov])
                    rw [decide_eq_false hov]
                    clear hov
                    go_wp2
                    go_meet
                    exact ⟨hid (by rw [HE.out]; exact HGV6.out), hid (Kept.refl _ _)⟩
                case rest =>
                  obtain ⟨HGX, HKX⟩ := hcut
                  have HK7 : Hid (Kept (fun j => j = gr) w wc) := hid (HK6.out.step HKX.out (fun q hq => .inr (by rw [hq]; exact hwg)))
                  have HT7 : Hid (AtR wc gr cap T lo hi) := hid (HT6.out.far (HKX.out.block gr HT6.out.lt hggr))
                  have hsb := (HK7.out.block gs hsl hgs).trans HS.out
                  have s3 : wc.cell? ⟨gs, 3, none⟩ = some (.slice (some ⟨gr, 0, none⟩) nA cap) := cell_of_blk hsb 3
                  have m0 : wc.cell? ⟨gw, 0, none⟩ = some (.int .i64 y) := cell_of_blk HGX.out 0
                  have m1 : wc.cell? ⟨gw, 1, none⟩ = some (.int .i64 OV) := cell_of_blk HGX.out 1
                  obtain ⟨t0, t1⟩ := HT7.out.cells (k := k) (by omega) (by omega)
                  have tf : ∀ o, (wc.drewN 1).frozen? ⟨gr, o, none⟩ = false := fun o => HT7.out.frozen o
                  have t0' : (wc.drewN 1).cell? ⟨gr, k * 2, none⟩ = some (.int .i64 (T k).1) := t0
                  have t1' : (wc.drewN 1).cell? ⟨gr, k * 2 + 1, none⟩ = some (.int .i64 (T k).2) := t1
                  have HT8 : Hid (AtR (((wc.drewN 1).setCell ⟨gr, k * 2, none⟩ (.int .i64 y)).setCell ⟨gr, k * 2 + 1, none⟩ (.int .i64 OV)) gr cap (My.put T k (y, OV)) lo hi) := hid (AtR.set (HT7.out.far rfl) k (by omega) (y, OV))
                  have HK8 : Hid (Kept (fun j => j = gr) w (((wc.drewN 1).setCell ⟨gr, k * 2, none⟩ (.int .i64 y)).setCell ⟨gr, k * 2 + 1, none⟩ (.int .i64 OV))) := hid (((HK7.out.drewN 1).set rfl _).set rfl _)
                  have i3 : (0 : Int) ≤ (k : Int) := by omega
                  have i4 : (k : Int) < (nA : Int) := by omega
                  have i5 : IntKind.i64.wrap ((k : Int) + d) = (k : Int) + d := wrapOk (by omega) (by omega)
                  have HTF : Hid (swG a b d (j + 1) t (kf 0) = My.put T k (y, OV)) := hid (by rw [HSN2.out, HSE.out])
                  rw [← HTF.out] at HT8
                  clear hsb HGX HKX HGV6 HK6 HT6 mf6 m16
                  go_wp2_with fail
                  refine wp_region_qtail 7 (by kernel_rfl) (by kernel_rfl) ?_
                  simp only [List.take_succ_cons, List.take_zero, List.drop_succ_cons, List.drop_zero]
                  repeat go_big_quiet_step (fail)
                  refine wpQuiet_nil ?_
                  go_wp2
                  go_roundw
                  case rel => exact ⟨j + 1, by omega, by rw [HKN.out], HK8, HT8⟩
                  case measure =>
                    have := HMM.out
                    rw [HKN.out] at this
                    simpa [intOf] using this
    · obtain rfl : j = n := by omega
      have q0 : (kf j == kf j) = true := zeq rfl
      go_wp2
      exact bodyPost_end (v := .tuple #[]) (by simp [results, Try.results93]) rfl ⟨rfl, HK.out, HT.out⟩
end Go.Proofs.Ytdilmgcdebobaaa
