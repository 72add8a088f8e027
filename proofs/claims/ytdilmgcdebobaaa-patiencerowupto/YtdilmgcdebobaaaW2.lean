/-
  The walk of placesIn.
-/
import Derived.Test.YtdilmgcdebobaaaW1
namespace Go.Proofs.Ytdilmgcdebobaaa
open Go.RowKit
open Go.Maps (Keyed Tidy)

theorem fn_some {l : List Int} {j : Nat} (h : j < l.length) : l[j]? = some (fn l j) := by unfold fn; rw [List.getD_eq_getElem?_getD, List.getElem?_eq_getElem h]; rfl

set_option maxHeartbeats 4000000 in
set_option maxRecDepth 100000 in
theorem placesIn_any {w : World} {v u : Value} {a b : List Int} (hv : RdI w v a) (hu : RdI w u b) (hla : a.length ≤ 4194304) (hlb : b.length ≤ 4194304) (hwa : ∀ x ∈ a, I64 x) (hwb : ∀ x ∈ b, I64 x) (i i' k k' : Nat) (h1 : i ≤ k) (h2 : k ≤ a.length) (h3 : i' ≤ k') (h4 : k' ≤ b.length) :
    Calls Try.prog 23 #[.agg #[.int .i64 i, .int .i64 i', .int .i64 k, .int .i64 k'], v, u] w fun e w' =>
      ∃ n sl, e = .returned (.map (some (w.heap.size + 1))) ∧ Pls w' (w.heap.size + 2) (w.heap.size + 1) n (innA a i k) sl (plB a b i k i' k') ∧ Below w.heap.size w w' := by
  have HV := hid hv
  have HU := hid hu
  have HWA := hid hwa
  have HWB := hid hwb
  obtain ⟨av, cv, rfl⟩ := hv.shape
  obtain ⟨au, cu, rfl⟩ := hu.shape
  obtain ⟨NA, hNA⟩ : ∃ NA, NA = a.length := ⟨_, rfl⟩
  obtain ⟨NB, hNB⟩ : ∃ NB, NB = b.length := ⟨_, rfl⟩
  have HNA := hid hNA
  have HNB := hid hNB
  rw [← hNA] at hla h2 HV ⊢
  rw [← hNB] at hlb h4 HU ⊢
  obtain ⟨O, hO⟩ : ∃ O, O = Obj.cells #[.int .i64 i, .int .i64 i', .int .i64 k, .int .i64 k'] 40 := ⟨_, rfl⟩
  have hmm := @run_makeMap Try.prog
  have hbA : Below w.heap.size w (w.alloc O) := (Below.refl _ _).alloc (Nat.le_refl _) _
  have hsA : (w.alloc O).heap.size = w.heap.size + 1 := by simp
  have HPM : Hid (Pls ((w.alloc O).alloc (.map #[] 0)) (w.heap.size + 2) (w.heap.size + 1) 0 (fun _ => false) (fun _ _ => .slice none 0 0) (fun _ _ => [])) := hid (by
    have := Pls.made (w.alloc O)
    rw [hsA] at this
    exact this)
  have HBM : Hid (Below w.heap.size w ((w.alloc O).alloc (.map #[] 0))) := hid (hbA.alloc (by rw [hsA]; omega) _)
  have HBX : Hid (((w.alloc O).alloc (.map #[] 0)).heap[w.heap.size]? = some O) := hid (by
    have hb : Below (w.alloc O).heap.size (w.alloc O) ((w.alloc O).alloc (.map #[] 0)) := (Below.refl _ _).alloc (Nat.le_refl _) _
    rw [hb.block _ (by rw [hsA]; omega)]
    exact heap_alloc_new w O)
  rw [hO] at HPM HBM HBX
  have m0 : ((w.alloc (Obj.cells #[.int .i64 i, .int .i64 i', .int .i64 k, .int .i64 k'] 40)).alloc (.map #[] 0)).cell? ⟨w.heap.size, 0, none⟩ = some (.int .i64 i) := cell_of_blk HBX.out 0
  clear hv hu hwa hwb hbA hsA hO hNA hNB
  go_enter Try.func23, Try.ntmps23
  go_wp2
  go_loopw [8, 9] (fun ii p9 wr => ∃ (j n : Nat) (sl : Int → Bool → Value), i ≤ j ∧ j ≤ k ∧ ii = .int .i64 j ∧ n ≤ j ∧ Hid (Pls wr (w.heap.size + 2) (w.heap.size + 1) n (innA a i j) sl (plA a i j)) ∧ Hid (Below w.heap.size w wr) ∧ Hid (wr.heap[w.heap.size]? = some (.cells #[.int .i64 i, .int .i64 i', .int .i64 k, .int .i64 k'] 40))) (fun ii _ _ => k - (intOf ii).toNat)
  case atStart => exact ⟨i, 0, _, Nat.le_refl _, h1, rfl, Nat.zero_le _, hid (by
      rw [show innA a i i = fun _ => false from funext fun x => by unfold innA; rw [plc_self]; rfl, show plA a i i = fun _ _ => [] from funext fun x => funext fun s => by unfold plA; rw [plc_self]; split <;> rfl]
      exact HPM.out), HBM, HBX⟩
  case round =>
    obtain ⟨j, n, sl, hj1, hj2, rfl, hn, HP, HB, HX⟩ := hrel
    have n2 : wr.cell? ⟨w.heap.size, 2, none⟩ = some (.int .i64 k) := cell_of_blk HX.out 2
    by_cases hlt : j < k
    · have hjN : j < a.length := by rw [← HNA.out]; omega
      obtain ⟨zb, zo, e, hzb, d1⟩ := rdI_at HV.out (fn_some hjN)
      cases e
      obtain ⟨z, hz⟩ : ∃ z, z = fn a j := ⟨_, rfl⟩
      have HZ := hid hz
      have HI : Hid (I64 z) := hid (by rw [hz]; exact HWA.out _ (List.mem_of_getElem? (fn_some hjN)))
      rw [← hz] at d1
      have d2 := (HB.out.cell (p := ⟨zb, zo + j, none⟩) hzb).trans d1
      obtain ⟨a8, c8, e8⟩ := (own_rd (HP.out.row z false)).shape
      obtain ⟨a9, c9, e9⟩ := (own_rd (HP.out.row z true)).shape
      have HS0 := hid e8
      have HS1 := hid e9
      have HZB := hid hzb
      have HDZ := hid d1
      have j1 : (0 : Int) ≤ (j : Int) := by omega
      have j2 : (j : Int) < (NA : Int) := by omega
      have j3 : (j : Int) < (k : Int) := by omega
      have j4 : IntKind.i64.wrap ((j : Int) + 1) = (j : Int) + 1 := by rw [IntKind.wrap_i64]; omega
      clear hz d1 e8 e9 hzb
      obtain ⟨L8, hL8⟩ : ∃ L8, L8 = (plA a i j z false).length := ⟨_, rfl⟩
      obtain ⟨L9, hL9⟩ : ∃ L9, L9 = (plA a i j z true).length := ⟨_, rfl⟩
      rw [← hL8] at HS0
      rw [← hL9] at HS1
      have HL8 := hid hL8
      have HL9 := hid hL9
      clear hL8 hL9
      have hMw : w.heap.size + 1 < wr.heap.size := (HP.out.map.choose_spec.1).lt
      have HOW : Hid (OwnI (apW wr (.slice a8 L8 c8) (.slice a9 L9 c9) (j : Int)) (w.heap.size + 2) (.slice a8 L8 c8) (plA a i j z false)) := hid (own_stays (by have := HP.out.row z false; rw [HS0.out] at this; exact this) (apW_below _ _ _ _))
      have HBS : Hid (w.heap.size + 2 ≤ (apW wr (.slice a8 L8 c8) (.slice a9 L9 c9) (j : Int)).heap.size) := hid (by rw [apW_size]; omega)
      have HLN : Hid ((plA a i j z false).length ≤ 1000000000) := hid (by have := plA_len a i j z false; omega)
      go_wp2_with (first | (at_lookup; refine wpList_lookup_sp rfl _ _ rfl rfl HP.out z HI.out rfl _ _ HS0.out HS1.out ?_) | (at_builtin; refine wpList_append_in rfl _ _ rfl (w.heap.size + 2) _ (plA a i j z false) rfl HOW.out (wr.heap.size + 1) 1 (j : Int) rfl (apW_cell wr _ _ _) HLN.out HBS.out ?_; intro v' w4 hO4 hg4; obtain ⟨a4, c4, e4⟩ := (own_rd hO4).shape; rw [List.length_append, List.length_singleton, ← HL8.out] at e4; subst e4; have HO4 := hid hO4; have HG4 : Hid (Grew (apW wr (.slice a8 L8 c8) (.slice a9 L9 c9) (j : Int)) w4 (sl z false) (.slice a4 (L8 + 1) c4)) := hid (by rw [HS0.out]; exact hg4); have n5 : w4.cell? ⟨wr.heap.size, 0, none⟩ = some (.slice a8 L8 c8) := cell_of_blk (ap_blk HP.out false HG4.out) 0; have f5 : w4.frozen? ⟨wr.heap.size, 0, none⟩ = false := frozen_of_blk (ap_blk HP.out false HG4.out) 0; clear hO4 hg4))
      obtain ⟨D, hD1, hD2⟩ := ap_put HP.out false 0 HG4.out HO4.out
      have HD1 := hid hD1
      have HD2 := hid hD2
      have HE : Hid (Value.agg #[ups sl z false (.slice a4 (L8 + 1) c4) z false, ups sl z false (.slice a4 (L8 + 1) c4) z true] = .agg #[.slice a4 (L8 + 1) c4, .slice a9 L9 c9]) := hid (by rw [ups_same, ups_other sl _ (by simp), HS1.out])
      have hB5 := set_heap w4 wr.heap.size 0 _ _ (.slice a4 (L8 + 1) c4) (ap_blk HP.out false HG4.out)
      have q0 : ((w4.setCell ⟨wr.heap.size, 0, none⟩ (.slice a4 (L8 + 1) c4)).drewN 1).cell? ⟨wr.heap.size, 0, none⟩ = some ((.slice a4 (L8 + 1) c4)) := cell_of_blk hB5 0
      have q1 : ((w4.setCell ⟨wr.heap.size, 0, none⟩ (.slice a4 (L8 + 1) c4)).drewN 1).cell? ⟨wr.heap.size, 1, none⟩ = some (.slice a9 L9 c9) := cell_of_blk hB5 1
      have q2 : ((w4.setCell ⟨wr.heap.size, 0, none⟩ (.slice a4 (L8 + 1) c4)).drewN 1).cell? ⟨zb, zo + j, none⟩ = some (.int .i64 z) := ((below_set' (k := 0) (ap_below HP.out false HG4.out HB.out (by omega) (by omega)) (by omega) (.slice a4 (L8 + 1) c4)).cell (p := ⟨zb, zo + j, none⟩) HZB.out).trans HDZ.out
      have HKY : Hid (keyOf Try.prog 3 (.int .i64 z) = some (.int .i64 z)) := hid (Maps.keyOf_int_mk Try.underlying3 (wfI HI.out))
      clear hD1 hD2 hB5 n5 f5 d2
      refine wp_region_qtail 6 (by kernel_rfl) (by kernel_rfl) ?_
      simp only [List.take_succ_cons, List.take_zero, List.drop_succ_cons, List.drop_zero]
      repeat go_big_quiet_step (fail)
      refine wpQuiet_nil ?_
      refine wpList_mapUpdate_own _ rfl _ _ _ 42 rfl 3 63 intLaw Try.underlying42 RV (w.heap.size + 1) n D rfl HD1.out (by unfold maxLen; omega) _ _ _ rfl rfl HKY.out (.held (.agg #[ups sl z false (.slice a4 (L8 + 1) c4) z false, ups sl z false (.slice a4 (L8 + 1) c4) z true])) [] (by rw [HE.out]; rfl) ?_
      intro w6 hm6 hg6
      obtain ⟨r1, r2, r3⟩ := HD2.out w6 hm6 hg6
      have E1 := innA_next (a := a) hj1
      have E2 := plA_next (a := a) hj1
      rw [← HZ.out] at E1 E2
      rw [E1, E2] at r1
      have HPN := hid r1
      have HBN := hid (r3 w w.heap.size HB.out (by omega))
      have HXN : Hid (w6.heap[w.heap.size]? = some (.cells #[.int .i64 i, .int .i64 i', .int .i64 k, .int .i64 k'] 40)) := hid ((r2 _ (by omega)).trans HX.out)
      clear r1 r2 r3 hm6 hg6 q0 q1 q2
      go_wp2
      exact ⟨⟨j + 1, n + 1, _, by omega, by omega, by push_cast; rfl, by omega, HPN, HBN, HXN⟩, by simp [intOf]; omega⟩
    · obtain rfl : j = k := by omega
      have HQ : Hid (Pls wr (w.heap.size + 2) (w.heap.size + 1) n (innA a i j) sl (plB a b i j i' i')) := hid (by rw [← plB_start]; exact HP.out)
      have j3 : ¬ (j : Int) < (j : Int) := by omega
      have m1 : wr.cell? ⟨w.heap.size, 1, none⟩ = some (.int .i64 i') := cell_of_blk HX.out 1
      obtain ⟨k, hk⟩ : ∃ k, k = j := ⟨_, rfl⟩
      subst hk
      go_wp2
      go_loopw [10, 11, 12] (fun ii p9 p10 wr => ∃ (j n : Nat) (sl : Int → Bool → Value), i' ≤ j ∧ j ≤ k' ∧ ii = .int .i64 j ∧ n ≤ k + j ∧ Hid (Pls wr (w.heap.size + 2) (w.heap.size + 1) n (innA a i k) sl (plB a b i k i' j)) ∧ Hid (Below w.heap.size w wr) ∧ Hid (wr.heap[w.heap.size]? = some (.cells #[.int .i64 i, .int .i64 i', .int .i64 k, .int .i64 k'] 40))) (fun ii _ _ _ => k' - (intOf ii).toNat)
      case atStart => exact ⟨i', n, sl, Nat.le_refl _, h3, rfl, by omega, HQ, HB, HX⟩
      case round =>
        obtain ⟨j, n, sl, hj1, hj2, rfl, hn, HP, HB, HX⟩ := hrel
        have n2 : wr.cell? ⟨w.heap.size, 3, none⟩ = some (.int .i64 k') := cell_of_blk HX.out 3
        by_cases hlt : j < k'
        · have hjN : j < b.length := by rw [← HNB.out]; omega
          obtain ⟨zb, zo, e, hzb, d1⟩ := rdI_at HU.out (fn_some hjN)
          cases e
          obtain ⟨z, hz⟩ : ∃ z, z = fn b j := ⟨_, rfl⟩
          have HZ := hid hz
          have HI : Hid (I64 z) := hid (by rw [hz]; exact HWB.out _ (List.mem_of_getElem? (fn_some hjN)))
          rw [← hz] at d1
          have d2 := (HB.out.cell (p := ⟨zb, zo + j, none⟩) hzb).trans d1
          obtain ⟨a8, c8, e8⟩ := (own_rd (HP.out.row z false)).shape
          obtain ⟨a9, c9, e9⟩ := (own_rd (HP.out.row z true)).shape
          have HS0 := hid e8
          have HS1 := hid e9
          have HZB := hid hzb
          have HDZ := hid d1
          have j1 : (0 : Int) ≤ (j : Int) := by omega
          have j2 : (j : Int) < (NB : Int) := by omega
          have j3 : (j : Int) < (k' : Int) := by omega
          have j4 : IntKind.i64.wrap ((j : Int) + 1) = (j : Int) + 1 := by rw [IntKind.wrap_i64]; omega
          clear hz d1 e8 e9 hzb
          obtain ⟨L8, hL8⟩ : ∃ L8, L8 = (plB a b i k i' j z false).length := ⟨_, rfl⟩
          obtain ⟨L9, hL9⟩ : ∃ L9, L9 = (plB a b i k i' j z true).length := ⟨_, rfl⟩
          rw [← hL8] at HS0
          rw [← hL9] at HS1
          have HL8 := hid hL8
          have HL9 := hid hL9
          clear hL8 hL9
          have hMw : w.heap.size + 1 < wr.heap.size := (HP.out.map.choose_spec.1).lt
          by_cases hin : innA a i k z = true
          · have HIN : Hid (innA a i k z = true) := hid hin
            clear hin
            have HOW : Hid (OwnI (apW wr (.slice a8 L8 c8) (.slice a9 L9 c9) (j : Int)) (w.heap.size + 2) (.slice a9 L9 c9) (plB a b i k i' j z true)) := hid (own_stays (by have := HP.out.row z true; rw [HS1.out] at this; exact this) (apW_below _ _ _ _))
            have HBS : Hid (w.heap.size + 2 ≤ (apW wr (.slice a8 L8 c8) (.slice a9 L9 c9) (j : Int)).heap.size) := hid (by rw [apW_size]; omega)
            have HLN : Hid ((plB a b i k i' j z true).length ≤ 1000000000) := hid (by have := plB_len a b i k i' j z; omega)
            go_wp2_with (first | (at_lookup; refine wpList_lookup_sp_ok rfl _ _ rfl rfl HP.out z HI.out rfl _ _ HS0.out HS1.out true HIN.out ?_) | (at_builtin; refine wpList_append_in rfl _ _ rfl (w.heap.size + 2) _ (plB a b i k i' j z true) rfl HOW.out (wr.heap.size + 1) 1 (j : Int) rfl (apW_cell wr _ _ _) HLN.out HBS.out ?_; intro v' w4 hO4 hg4; obtain ⟨a4, c4, e4⟩ := (own_rd hO4).shape; rw [List.length_append, List.length_singleton, ← HL9.out] at e4; subst e4; have HO4 := hid hO4; have HG4 : Hid (Grew (apW wr (.slice a8 L8 c8) (.slice a9 L9 c9) (j : Int)) w4 (sl z true) (.slice a4 (L9 + 1) c4)) := hid (by rw [HS1.out]; exact hg4); have n5 : w4.cell? ⟨wr.heap.size, 1, none⟩ = some (.slice a9 L9 c9) := cell_of_blk (ap_blk HP.out true HG4.out) 1; have f5 : w4.frozen? ⟨wr.heap.size, 1, none⟩ = false := frozen_of_blk (ap_blk HP.out true HG4.out) 1; clear hO4 hg4))
            obtain ⟨D, hD1, hD2⟩ := ap_put HP.out true 1 HG4.out HO4.out
            have HD1 := hid hD1
            have HD2 := hid hD2
            have HE : Hid (Value.agg #[ups sl z true (.slice a4 (L9 + 1) c4) z false, ups sl z true (.slice a4 (L9 + 1) c4) z true] = .agg #[.slice a8 L8 c8, .slice a4 (L9 + 1) c4]) := hid (by rw [ups_same, ups_other sl _ (by simp), HS0.out])
            have hB5 := set_heap w4 wr.heap.size 1 _ _ (.slice a4 (L9 + 1) c4) (ap_blk HP.out true HG4.out)
            have q0 : ((w4.setCell ⟨wr.heap.size, 1, none⟩ (.slice a4 (L9 + 1) c4)).drewN 1).cell? ⟨wr.heap.size, 0, none⟩ = some (.slice a8 L8 c8) := cell_of_blk hB5 0
            have q1 : ((w4.setCell ⟨wr.heap.size, 1, none⟩ (.slice a4 (L9 + 1) c4)).drewN 1).cell? ⟨wr.heap.size, 1, none⟩ = some ((.slice a4 (L9 + 1) c4)) := cell_of_blk hB5 1
            have q2 : ((w4.setCell ⟨wr.heap.size, 1, none⟩ (.slice a4 (L9 + 1) c4)).drewN 1).cell? ⟨zb, zo + j, none⟩ = some (.int .i64 z) := ((below_set' (k := 1) (ap_below HP.out true HG4.out HB.out (by omega) (by omega)) (by omega) (.slice a4 (L9 + 1) c4)).cell (p := ⟨zb, zo + j, none⟩) HZB.out).trans HDZ.out
            have HKY : Hid (keyOf Try.prog 3 (.int .i64 z) = some (.int .i64 z)) := hid (Maps.keyOf_int_mk Try.underlying3 (wfI HI.out))
            clear hD1 hD2 hB5 n5 f5 d2
            refine wp_region_qtail 6 (by kernel_rfl) (by kernel_rfl) ?_
            simp only [List.take_succ_cons, List.take_zero, List.drop_succ_cons, List.drop_zero]
            repeat go_big_quiet_step (fail)
            refine wpQuiet_nil ?_
            refine wpList_mapUpdate_own _ rfl _ _ _ 42 rfl 3 63 intLaw Try.underlying42 RV (w.heap.size + 1) n D rfl HD1.out (by unfold maxLen; omega) _ _ _ rfl rfl HKY.out (.held (.agg #[ups sl z true (.slice a4 (L9 + 1) c4) z false, ups sl z true (.slice a4 (L9 + 1) c4) z true])) [] (by rw [HE.out]; rfl) ?_
            intro w6 hm6 hg6
            obtain ⟨r1, r2, r3⟩ := HD2.out w6 hm6 hg6
            have E1 := innA_same (a := a) HIN.out
            have HIN2 := HIN.out
            rw [HZ.out] at HIN2
            have E2 := plB_next (a := a) (b := b) hj1 HIN2
            rw [← HZ.out] at E2
            rw [E1, E2] at r1
            have HPN := hid r1
            have HBN := hid (r3 w w.heap.size HB.out (by omega))
            have HXN : Hid (w6.heap[w.heap.size]? = some (.cells #[.int .i64 i, .int .i64 i', .int .i64 k, .int .i64 k'] 40)) := hid ((r2 _ (by omega)).trans HX.out)
            clear r1 r2 r3 hm6 hg6 q0 q1 q2
            go_wp2
            exact ⟨⟨j + 1, n + 1, _, by omega, by omega, by push_cast; rfl, by omega, HPN, HBN, HXN⟩, by simp [intOf]; omega⟩

          · have HIF : Hid (innA a i k z = false) := hid (by simpa using hin)
            have HPS := hid (HP.out.later (atW_below wr (.slice a8 L8 c8) (.slice a9 L9 c9)))
            have HBS := hid (HB.out.trans ((atW_below wr (.slice a8 L8 c8) (.slice a9 L9 c9)).mono HB.out.size))
            have HXS : Hid ((atW wr (.slice a8 L8 c8) (.slice a9 L9 c9)).heap[w.heap.size]? = some (.cells #[.int .i64 i, .int .i64 i', .int .i64 k, .int .i64 k'] 40)) := hid (((atW_below wr (.slice a8 L8 c8) (.slice a9 L9 c9)).block _ (by omega)).trans HX.out)
            have HE2 : Hid (plB a b i k i' j = plB a b i k i' (j + 1)) := hid (plB_skip (by rw [← HZ.out]; exact HIF.out))
            rw [HE2.out] at HPS
            clear hin
            go_wp2_with (at_lookup; refine wpList_lookup_sp_ok rfl _ _ rfl rfl HP.out z HI.out rfl _ _ HS0.out HS1.out false HIF.out ?_)
            exact ⟨⟨j + 1, n, _, by omega, by omega, by push_cast; rfl, by omega, HPS, HBS, HXS⟩, by simp [intOf]; omega⟩
        · obtain rfl : j = k' := by omega
          have j3 : ¬ (j : Int) < (j : Int) := by omega
          go_wp2
          go_ret
          exact ⟨rfl, ⟨n, sl, HP.out⟩, HB.out⟩
end Go.Proofs.Ytdilmgcdebobaaa
