/-
  The walk of sideOf.
-/
import Derived.Test.YtpedbnghhmnjjaaL1
namespace Go.Proofs.Ytpedbnghhmnjjaa
open Go.RowKit
open Go.Maps (Keyed Tidy)

set_option maxHeartbeats 8000000 in
set_option maxRecDepth 100000 in
theorem sideOf_any {w : World} {v u : Value} {row other : List Int} (hv : RdI w v row) (hu : RdI w u other) (hrl : row.length ≤ 10000000) (hol : other.length ≤ 10000000) (hwr : ∀ x ∈ row, I64 x) (hwo : ∀ x ∈ other, I64 x) :
    Calls Try.prog 22 #[v, u] w fun e w' => ∃ gn gp gc : Nat, e = .returned (.agg #[.slice (some ⟨gn, 0, none⟩) (row.filter (My.inL other)).length row.length, .slice (some ⟨gp, 0, none⟩) (row.filter (My.inL other)).length row.length, .slice (some ⟨gc, 0, none⟩) row.length row.length]) ∧
      RdI w' (.slice (some ⟨gn, 0, none⟩) (row.filter (My.inL other)).length row.length) (row.filter (My.inL other)) ∧ RdI w' (.slice (some ⟨gp, 0, none⟩) (row.filter (My.inL other)).length row.length) (pl0 (My.inL other) row 0) ∧ BlR w' gc (row.map (fun x => !My.inL other x)) ∧
      w.heap.size ≤ gn ∧ w.heap.size ≤ gp ∧ w.heap.size ≤ gc ∧ gn ≠ gc ∧ gp ≠ gc ∧ gn < w'.heap.size ∧ gp < w'.heap.size ∧ Below w.heap.size w w' := by
  obtain ⟨a0, c0, rfl⟩ := hv.shape
  obtain ⟨a1, c1, rfl⟩ := hu.shape
  have HV := hid hv
  have HU := hid hu
  have HWR := hid hwr
  have HWO := hid hwo
  clear hv hu hwr hwo
  have hmm := mkMap other.length
  have HCZ : Hid (∀ x, ((other.count x : Int) == 0) = !My.inL other x) := hid (fun x => cnt_zero)
  obtain ⟨p, hp⟩ : ∃ p, p = My.inL other := ⟨_, rfl⟩
  rw [← hp] at HCZ ⊢
  clear hp
  go_enter Try.func22, Try.ntmps22
  go_wp2
  obtain ⟨X0, hX0⟩ : ∃ X0, X0 = Obj.cells #[.slice none 0 0, .slice none 0 0, .slice none 0 0] 42 (0, 0) := ⟨_, rfl⟩
  rw [← hX0]
  have HR0 : Hid (((w.alloc X0).alloc (.map #[] 0)).heap[w.heap.size]? = some (.cells #[.slice none 0 0, .slice none 0 0, .slice none 0 0] 42)) := hid (by rw [← hX0]; exact (two_alloc w X0 _).1)
  have HB0 : Hid (Below w.heap.size w ((w.alloc X0).alloc (.map #[] 0))) := hid (two_alloc w X0 _).2
  have HM0 : Hid (MapC ((w.alloc X0).alloc (.map #[] 0)) (w.heap.size + 1) 0 []) := hid ⟨.map [], by have h := World.ownsMap_made (H := Unit) (w.alloc X0) Try.prog 3 (plainElem Try.prog 3); simpa using h, cnt_nil⟩
  have hs0 : ((w.alloc X0).alloc (.map #[] 0)).heap.size = w.heap.size + 2 := by simp
  generalize (w.alloc X0).alloc (.map #[] 0) = w1 at HR0 HB0 HM0 hs0 ⊢
  obtain ⟨gR, hgR⟩ : ∃ gR, gR = w.heap.size := ⟨_, rfl⟩
  obtain ⟨M, hM⟩ : ∃ M, M = w.heap.size + 1 := ⟨_, rfl⟩
  rw [← hM] at HM0 ⊢
  rw [← hgR] at HR0 ⊢
  have HGR := hid hgR
  have HGM := hid hM
  have hgM : gR ≠ M := by omega
  have hMl : M < w1.heap.size := by omega
  have hgl : gR < w1.heap.size := by omega
  clear hX0 hmm hgR hM
  go_loopw [16] (fun i wr => ∃ k : Nat, k ≤ other.length ∧ i = .int .i64 k ∧ Hid (MapC wr M k (other.take k)) ∧ Hid (Kept (fun j => j = M) w1 wr)) (fun i _ => other.length - (intOf i).toNat)
  case atStart => exact ⟨0, Nat.zero_le _, rfl, HM0, hid (Kept.refl _ _)⟩
  case round =>
    obtain ⟨k, hk, rfl, HM, HK⟩ := hrel
    have HKB : Hid (Below w.heap.size w wr) := hid (HB0.out.trans (HK.out.below (fun g hg => by rw [hg, HGM.out]; omega) HB0.out.size))
    by_cases hlt : k < other.length
    · obtain ⟨x, hx⟩ : ∃ x, other[k]? = some x := ⟨_, List.getElem?_eq_getElem hlt⟩
      obtain ⟨b1, o1, rfl, _, d1⟩ := rdI_at (HU.out.below HKB.out) hx
      have HW := hid (HWO.out x (List.mem_of_getElem? hx))
      have HTS := hid (take_snoc hx)
      obtain ⟨D, hown, hcnt⟩ := HM.out
      have HCN := hid hcnt
      have HKEY : Hid (keyOf Try.prog 3 (.int .i64 x) = some (.int .i64 x)) := hid (Maps.keyOf_int_mk Try.underlying3 (wfI HW.out))
      have hcl : (other.take k).count x ≤ 10000000 := by
        have := List.count_le_length (l := other.take k) (a := x)
        rw [List.length_take] at this
        omega
      have HPUT := hid (hcnt.put x)
      have HAT := hid (hcnt.2 x)
      obtain ⟨C, hC⟩ : ∃ C : Nat, C = (other.take k).count x := ⟨_, rfl⟩
      rw [← hC] at HPUT HAT hcl
      have i1 : IntKind.i64.wrap ((C : Int) + 1) = (C : Int) + 1 := wrapOk (by omega) (by omega)
      have i2 : IntKind.i64.wrap ((k : Int) + 1) = (k : Int) + 1 := wrapOk (by omega) (by omega)
      have j0 : (k : Int) < (other.length : Int) := by omega
      have j1 : (0 : Int) ≤ (k : Int) := by omega
      clear hx hcnt hC
      go_wp2_with (first
        | (at_lookup; refine wpList_lookup_own_int _ rfl _ _ 51 rfl 3 3 .i64 intLaw Try.underlying51 Try.underlying3 (zeroInt _) M k D rfl hown _ _ rfl HKEY.out ?_; intro c hat hwc; obtain rfl : c = (C : Int) := by (rw [HAT.out] at hat; injection hat with h1; injection h1 with h2 h3; exact h3.symm))
        | (at_mapUpdate; refine wpList_mapUpdate_own _ rfl _ _ _ 51 rfl 3 3 intLaw Try.underlying51 _ M k D rfl hown (by unfold maxLen; omega) _ _ _ rfl rfl HKEY.out (.lit (.int .i64 ((C : Int) + 1))) [] (plainElem_int Try.underlying3 (WalkArith.wf_i64 (by omega))) ?_; intro w2 hown2 hg2))
      go_roundw
      case rel => exact ⟨k + 1, by omega, by push_cast; rfl, hid ⟨_, hown2, by rw [HTS.out]; exact HPUT.out⟩, hid (HK.out.step (kept_of_grown hg2) (fun _ h => .inl h))⟩
      case measure => simp [intOf]; omega
    · obtain rfl : k = other.length := by omega
      have HM2 : Hid (MapC wr M other.length other) := hid (by have h := HM.out; rw [List.take_of_length_le (Nat.le_refl _)] at h; exact h)
      clear HM HM0
      obtain ⟨w2, hw2⟩ : ∃ w2, w2 = wr := ⟨_, rfl⟩
      subst hw2
      go_upto_region 7 with fail
      have hmI := mkI row.length (by omega)
      have hmB := mkB row.length (by omega)
      obtain ⟨MI, hMI⟩ : ∃ MI, MI = madeCells (Value.int .i64 0).cells (row.length * 1) := ⟨_, rfl⟩
      obtain ⟨MB, hMB⟩ : ∃ MB, MB = madeCells (Value.bool false).cells (row.length * 1) := ⟨_, rfl⟩
      rw [← hMI] at hmI
      rw [← hMB] at hmB
      have HMI := hid hMI
      have HMB := hid hMB
      clear hMI hMB
      go_cut [8] (fun q wc => ∃ gS gn gp gc : Nat, q = .pointer (some ⟨gS, 0, none⟩) ∧ Hid (SdI w2 wc gS gn gp gc row.length MI MB))
      case first =>
        go_region
        all_goals go_wp2
        all_goals go_meet
        all_goals (apply sd_of <;> first | exact (four_alloc w2 _ _ _ _).1 | exact (four_alloc w2 _ _ _ _).2.1 | exact (four_alloc w2 _ _ _ _).2.2.1 | exact (four_alloc w2 _ _ _ _).2.2.2.1 | exact (four_alloc w2 _ _ _ _).2.2.2.2 | omega)
      case rest =>
        obtain ⟨gS, gn, gp, gc, rfl, HSD⟩ := hcut
        obtain ⟨l1, l2, l3, l4, ⟨b1, b2, b3, b4⟩, ⟨e1, e2, e3, e4, e5, e6⟩, hbw⟩ := HSD.out
        have HS0 := hid (HSD.out.begin HMI.out HMB.out hrl)
        have hw2l : w1.heap.size ≤ w2.heap.size := HK.out.size
        have hw2w : w.heap.size + 2 ≤ w2.heap.size := by omega
        have hMS : ¬ (M = gS ∨ M = gn ∨ M = gp ∨ M = gc) := by omega
        have hRS : ¬ (gR = gS ∨ gR = gn ∨ gR = gp ∨ gR = gc) := by omega
        have HM3 : Hid (MapC wc M other.length other) := hid (HM2.out.far (hbw.block M (by omega)))
        have HR3 : Hid (wc.heap[gR]? = some (.cells #[.slice none 0 0, .slice none 0 0, .slice none 0 0] 42)) := hid ((hbw.block gR (by omega)).trans ((HK.out.block gR hgl hgM).trans HR0.out))
        have HB3 : Hid (Below w.heap.size w wc) := hid (HKB.out.trans (hbw.mono HKB.out.size))
        have hwcl : w2.heap.size ≤ wc.heap.size := hbw.size
        obtain ⟨B, hBe⟩ : ∃ B, B = w2.heap.size := ⟨_, rfl⟩
        rw [← hBe] at HS0
        have HBE := hid hBe
        clear l1 l2 l3 l4 hBe hbw HSD HM2 HR0 HK HKB hmI hmB HMI HMB HB0
        obtain ⟨w3, hw3⟩ : ∃ w3, w3 = wc := ⟨_, rfl⟩
        subst hw3
        go_wp2_with fail
        go_loopw [37] (fun i wr => ∃ k : Nat, k ≤ row.length ∧ i = .int .i64 k ∧ Hid (SdK wr B gS gn gp gc row.length ((row.take k).filter p) (pl0 p (row.take k) 0) (mkAt p row k)) ∧ Hid (Kept (fun j => j = gS ∨ j = gn ∨ j = gp ∨ j = gc) w3 wr)) (fun i _ => row.length - (intOf i).toNat)
        case atStart => exact ⟨0, Nat.zero_le _, rfl, HS0, hid (Kept.refl _ _)⟩
        case round =>
          clear HS0
          obtain ⟨k, hk, rfl, HS, HK⟩ := hrel
          have HBK : Hid (Below w.heap.size w wr) := hid (HB3.out.trans (HK.out.below (fun g hg => by have h1 := HGM.out; have h2 := HGR.out; rcases hg with h | h | h | h <;> omega) HB3.out.size))
          have HM4 : Hid (MapC wr M other.length other) := hid (HM3.out.far (HK.out.block M HM3.out.lt hMS))
          have HR4 : Hid (wr.heap[gR]? = some (.cells #[.slice none 0 0, .slice none 0 0, .slice none 0 0] 42)) := hid ((HK.out.block gR (lt_of_heap HR3.out) hRS).trans HR3.out)
          by_cases hlt : k < row.length
          · obtain ⟨x, hx⟩ : ∃ x, row[k]? = some x := ⟨_, List.getElem?_eq_getElem hlt⟩
            obtain ⟨b1', o1, rfl, _, d1⟩ := rdI_at (HV.out.below HBK.out) hx
            have HW := hid (HWR.out x (List.mem_of_getElem? hx))
            have HTS := hid (take_snoc hx)
            have HMN := hid (mkAt_next (p := p) hx)
            obtain ⟨D, hown, hcnt⟩ := HM4.out
            have HAT := hid (hcnt.2 x)
            have HKEY : Hid (keyOf Try.prog 3 (.int .i64 x) = some (.int .i64 x)) := hid (Maps.keyOf_int_mk Try.underlying3 (wfI HW.out))
            have HZ := hid (HCZ.out x)
            obtain ⟨C, hC⟩ : ∃ C : Nat, C = other.count x := ⟨_, rfl⟩
            rw [← hC] at HAT HZ
            have hNl : ((row.take k).filter p).length ≤ k := by
              have := List.length_filter_le p (row.take k)
              rw [List.length_take] at this
              omega
            have hPl := pl0_len p (row.take k) 0
            have j0 : (k : Int) < (row.length : Int) := by omega
            have j1 : (0 : Int) ≤ (k : Int) := by omega
            have i2 : IntKind.i64.wrap ((k : Int) + 1) = (k : Int) + 1 := wrapOk (by omega) (by omega)
            have s2 : wr.cell? ⟨gS, 2, none⟩ = some (.slice (some ⟨gc, 0, none⟩) row.length row.length) := cell_of_blk HS.out.blk 2
            have hTl : (row.take k).length = k := by rw [List.length_take]; omega
            have HPS := hid (pl0_snoc p x (row.take k) 0)
            rw [hTl] at HPS
            clear hx hcnt hC hTl
            by_cases hpx : p x = true
            · have HPX := hid hpx
              have q0 : ((C : Int) == 0) = false := by rw [HZ.out, hpx]; rfl
              have s0 : wr.cell? ⟨gS, 0, none⟩ = some (.slice (some ⟨gn, 0, none⟩) ((row.take k).filter p).length row.length) := cell_of_blk HS.out.blk 0
              have HFN : Hid ((row.take (k + 1)).filter p = (row.take k).filter p ++ [x]) := hid (by rw [HTS.out, List.filter_append, List.filter_cons_of_pos HPX.out]; rfl)
              have HPN : Hid (pl0 p (row.take (k + 1)) 0 = pl0 p (row.take k) 0 ++ [(k : Int)]) := hid (by rw [HTS.out, HPS.out, if_pos HPX.out, Nat.zero_add])
              have HMN2 : Hid (mkAt p row (k + 1) = mkAt p row k) := hid (by rw [HMN.out, if_pos HPX.out])
              obtain ⟨L, hL⟩ : ∃ L, L = ((row.take k).filter p).length := ⟨_, rfl⟩
              rw [← hL] at s0 hNl hPl
              have HL := hid hL
              have HPL := hid hPl
              clear hpx hL hPl HPS HMN
              go_upto_region 13 with (at_lookup; refine wpList_lookup_own_int _ rfl _ _ 51 rfl 3 3 .i64 intLaw Try.underlying51 Try.underlying3 (zeroInt _) M other.length D rfl hown _ _ rfl HKEY.out ?_; intro c hat hwc; obtain rfl : c = (C : Int) := by (rw [HAT.out] at hat; injection hat with h1; injection h1 with h2 h3; exact h3.symm))
              clear hown hat hwc HAT HKEY HZ q0 HW d1 s2
              obtain ⟨N, hN⟩ : ∃ N, N = (row.take k).filter p := ⟨_, rfl⟩
              obtain ⟨P, hP⟩ : ∃ P, P = pl0 p (row.take k) 0 := ⟨_, rfl⟩
              rw [← hN] at HS HFN HL
              rw [← hP] at HS HPN HPL
              have hLN := HL.out
              have hLP := HPL.out
              have hblk := HS.out.blk
              rw [← hLN, hLP] at hblk
              have hnums := HS.out.nums
              rw [← hLN] at hnums
              clear hN hP
              obtain ⟨X1, hX1⟩ : ∃ X1, X1 = Obj.cells #[.int .i64 x] 3 (0, 0) := ⟨_, rfl⟩
              have HX1 := hid hX1
              have hb4 := (Below.refl wr.heap.size wr).alloc (Nat.le_refl _) X1
              have HNA := hid (own_stays hnums hb4)
              have HSA := hid (HS.out.far hb4)
              have hblA := (hb4.block gS (lt_of_heap hblk)).trans hblk
              have HBA := hid hblA
              have HKA : Hid (Kept (fun j => j = gS ∨ j = gn ∨ j = gp ∨ j = gc) w3 (wr.alloc X1)) := hid (HK.out.step (Kept.of_below (X := fun _ => False) hb4) (fun _ h => h.elim))
              have HCE : Hid ((wr.alloc X1).cell? ⟨wr.heap.size, 0, none⟩ = some (.int .i64 x)) := hid (by have h := heap_alloc_new wr X1; rw [hX1] at h ⊢; exact cell_of_blk h 0)
              obtain ⟨i0, hi, hz0, hz1, hz2⟩ := info_parts Try.infoInt
              have HLN := hid hLN
              have HLP := hid hLP
              clear hLN hLP hb4 hblk hnums hblA
              rw [hX1] at HNA HSA HBA HKA HCE
              go_upto_region 14 with (at_builtin; refine wpList_append_fits _ rfl _ _ 22 rfl B 3 i0 1 Try.underlying22 hi hz1 gn L row.length (isC N) rfl HNA.out ⟨wr.heap.size, 0, none⟩ 1 1 [.int .i64 x] rfl rfl (by intro j u hj; match j, hj with | 0, hj => (simp at hj; subst hj; exact HCE.out)) (by intro u hu; simp at hu; subst hu; rfl) (by omega) ?_; intro w4 hO4 hG4; have HO4 := hid hO4; have HK4 := hid (kept_of_grown hG4); have hbl4 := (HK4.out.block gS (lt_of_heap HBA.out) e1).trans HBA.out; have s0' : w4.cell? ⟨gS, 0, none⟩ = some (.slice (some ⟨gn, 0, none⟩) L row.length) := cell_of_blk hbl4 0; have f0' : w4.frozen? ⟨gS, 0, none⟩ = false := frozen_of_blk hbl4 0; clear hO4 hG4 hbl4)
              have HS5 : Hid (SdK (w4.setCell ⟨gS, 0, none⟩ (.slice (some ⟨gn, 0, none⟩) (L + 1) row.length)) B gS gn gp gc row.length (N ++ [x]) P (mkAt p row k)) := hid (by
                have h := SdK.num (x := x) HSA.out HK4.out e1 (Ne.symm e4) (Ne.symm e5) e2 e3 (by rw [← HLN.out]; exact HO4.out)
                rw [← HLN.out] at h
                exact h)
              have HK5 : Hid (Kept (fun j => j = gS ∨ j = gn ∨ j = gp ∨ j = gc) w3 (w4.setCell ⟨gS, 0, none⟩ (.slice (some ⟨gn, 0, none⟩) (L + 1) row.length))) := hid ((HKA.out.step HK4.out (fun _ h => .inl (.inr (.inl h)))).set (.inl rfl) _)
              generalize w4.setCell ⟨gS, 0, none⟩ (.slice (some ⟨gn, 0, none⟩) (L + 1) row.length) = w5 at HS5 HK5 ⊢
              clear HNA HSA HBA HKA HCE HO4 HK4 s0' f0' HS HK s0 HX1 hX1
              have hLP := HLP.out
              have hblk := HS5.out.blk
              rw [hLP] at hblk
              have s1 : w5.cell? ⟨gS, 1, none⟩ = some (.slice (some ⟨gp, 0, none⟩) L row.length) := cell_of_blk hblk 1
              have hplcs := HS5.out.plcs
              rw [hLP] at hplcs
              obtain ⟨X1, hX1⟩ : ∃ X1, X1 = Obj.cells #[.int .i64 (k : Int)] 3 (0, 0) := ⟨_, rfl⟩
              have hb4 := (Below.refl w5.heap.size w5).alloc (Nat.le_refl _) X1
              have HNA := hid (own_stays hplcs hb4)
              have HSA := hid (HS5.out.far hb4)
              have hblA := (hb4.block gS (lt_of_heap hblk)).trans hblk
              have HBA := hid hblA
              have HKA : Hid (Kept (fun j => j = gS ∨ j = gn ∨ j = gp ∨ j = gc) w3 (w5.alloc X1)) := hid (HK5.out.step (Kept.of_below (X := fun _ => False) hb4) (fun _ h => h.elim))
              have HCE : Hid ((w5.alloc X1).cell? ⟨w5.heap.size, 0, none⟩ = some (.int .i64 (k : Int))) := hid (by have h := heap_alloc_new w5 X1; rw [hX1] at h ⊢; exact cell_of_blk h 0)
              clear hLP hb4 hblk hplcs hblA HS5 HK5
              rw [hX1] at HNA HSA HBA HKA HCE
              clear hX1
              go_wp2_with (at_builtin; refine wpList_append_fits _ rfl _ _ 22 rfl B 3 i0 1 Try.underlying22 hi hz1 gp L row.length (isC P) rfl HNA.out ⟨w5.heap.size, 0, none⟩ 1 1 [.int .i64 (k : Int)] rfl rfl (by intro j u hj; match j, hj with | 0, hj => (simp at hj; subst hj; exact HCE.out)) (by intro u hu; simp at hu; subst hu; rfl) (by omega) ?_; intro w6 hO6 hG6; have HO6 := hid hO6; have HK6 := hid (kept_of_grown hG6); have hbl6 := (HK6.out.block gS (lt_of_heap HBA.out) e2).trans HBA.out; have s1' : w6.cell? ⟨gS, 1, none⟩ = some (.slice (some ⟨gp, 0, none⟩) L row.length) := cell_of_blk hbl6 1; have f1' : w6.frozen? ⟨gS, 1, none⟩ = false := frozen_of_blk hbl6 1; clear hO6 hG6 hbl6)
              go_roundw
              case rel =>
                refine ⟨k + 1, by omega, by push_cast; rfl, ?_, hid ((HKA.out.step HK6.out (fun _ h => .inl (.inr (.inr (.inl h))))).set (.inl rfl) _)⟩
                rw [HFN.out, HPN.out, HMN2.out]
                have h := SdK.plc (x := (k : Int)) HSA.out HK6.out e2 e4 (Ne.symm e6) e1 e3 (by rw [HLP.out]; exact HO6.out)
                rw [HLP.out] at h
                exact h
              case measure => simp [intOf]; omega
            · have HPX := hid hpx
              have q0 : ((C : Int) == 0) = true := by rw [HZ.out]; simp [hpx]
              have HFN : Hid ((row.take (k + 1)).filter p = (row.take k).filter p) := hid (by rw [HTS.out, List.filter_append, List.filter_cons_of_neg HPX.out]; simp)
              have HPN : Hid (pl0 p (row.take (k + 1)) 0 = pl0 p (row.take k) 0) := hid (by rw [HTS.out, HPS.out, if_neg HPX.out, List.append_nil])
              have HMN2 : Hid (mkAt p row (k + 1) = (mkAt p row k).set k true) := hid (by rw [HMN.out, if_neg HPX.out])
              have HSN := hid (HS.out.mark e3 e5 e6 k)
              have HKN := hid (HK.out.set (g := gc) (k := k) (.inr (.inr (.inr rfl))) (.bool true))
              obtain ⟨u, hu⟩ : ∃ u, (mkAt p row k)[k]? = some u := ⟨_, List.getElem?_eq_getElem (by rw [mkAt_len p row k hk]; omega)⟩
              have c1 := HS.out.marks.cell hu
              have cf := HS.out.marks.frozen k
              clear hpx hu HPS HMN hPl
              go_wp2_with (at_lookup; refine wpList_lookup_own_int _ rfl _ _ 51 rfl 3 3 .i64 intLaw Try.underlying51 Try.underlying3 (zeroInt _) M other.length D rfl hown _ _ rfl HKEY.out ?_; intro c hat hwc; obtain rfl : c = (C : Int) := by (rw [HAT.out] at hat; injection hat with h1; injection h1 with h2 h3; exact h3.symm))
              go_roundw
              case rel => exact ⟨k + 1, by omega, by push_cast; rfl, by rw [HFN.out, HPN.out, HMN2.out]; exact HSN, HKN⟩
              case measure => simp [intOf]; omega
          · obtain rfl : k = row.length := by omega
            have HS6 : Hid (SdK wr B gS gn gp gc row.length (row.filter p) (pl0 p row 0) (row.map fun x => !p x)) := hid (by
              have h := HS.out
              rw [List.take_of_length_le (Nat.le_refl _), mkAt_end] at h
              exact h)
            have hpl := pl0_len p row 0
            have hblk := HS6.out.blk
            rw [hpl] at hblk
            obtain ⟨L, hL⟩ : ∃ L, L = (row.filter p).length := ⟨_, rfl⟩
            rw [← hL] at hblk hpl
            have HL := hid hL
            have HPL := hid hpl
            have s0 : wr.cell? ⟨gS, 0, none⟩ = some (.slice (some ⟨gn, 0, none⟩) L row.length) := cell_of_blk hblk 0
            have s1 : wr.cell? ⟨gS, 1, none⟩ = some (.slice (some ⟨gp, 0, none⟩) L row.length) := cell_of_blk hblk 1
            have s2 : wr.cell? ⟨gS, 2, none⟩ = some (.slice (some ⟨gc, 0, none⟩) row.length row.length) := cell_of_blk hblk 2
            have r0 : wr.cell? ⟨gR, 0, none⟩ = some (.slice none 0 0) := cell_of_blk HR4.out 0
            have r1 : wr.cell? ⟨gR, 1, none⟩ = some (.slice none 0 0) := cell_of_blk HR4.out 1
            have r2 : wr.cell? ⟨gR, 2, none⟩ = some (.slice none 0 0) := cell_of_blk HR4.out 2
            have rf : ∀ o, wr.frozen? ⟨gR, o, none⟩ = false := fun o => frozen_of_blk HR4.out o
            clear hblk hL hpl HS
            go_wp2
            have k7 : Kept (fun j => j = gR) wr (((wr.setCell ⟨gR, 0, none⟩ (.slice (some ⟨gn, 0, none⟩) L row.length)).setCell ⟨gR, 1, none⟩ (.slice (some ⟨gp, 0, none⟩) L row.length)).setCell ⟨gR, 2, none⟩ (.slice (some ⟨gc, 0, none⟩) row.length row.length)) := (((Kept.refl (fun j => j = gR) wr).set (g := gR) rfl _).set (g := gR) rfl _).set (g := gR) rfl _
            have h7 := set_heap _ gR 2 _ _ (.slice (some ⟨gc, 0, none⟩) row.length row.length) (set_heap _ gR 1 _ _ (.slice (some ⟨gp, 0, none⟩) L row.length) (set_heap _ gR 0 _ _ (.slice (some ⟨gn, 0, none⟩) L row.length) HR4.out))
            generalize (((wr.setCell ⟨gR, 0, none⟩ (.slice (some ⟨gn, 0, none⟩) L row.length)).setCell ⟨gR, 1, none⟩ (.slice (some ⟨gp, 0, none⟩) L row.length)).setCell ⟨gR, 2, none⟩ (.slice (some ⟨gc, 0, none⟩) row.length row.length)) = w7 at k7 h7 ⊢
            have q0 : w7.cell? ⟨gR, 0, none⟩ = some (.slice (some ⟨gn, 0, none⟩) L row.length) := cell_of_blk h7 0
            have q1 : w7.cell? ⟨gR, 1, none⟩ = some (.slice (some ⟨gp, 0, none⟩) L row.length) := cell_of_blk h7 1
            have q2 : w7.cell? ⟨gR, 2, none⟩ = some (.slice (some ⟨gc, 0, none⟩) row.length row.length) := cell_of_blk h7 2
            have hL := HL.out
            have hPL := HPL.out
            have hgr := HGR.out
            have hn := own_rd HS6.out.nums
            have hp := own_rd HS6.out.plcs
            rw [← hL] at hn
            rw [hPL] at hp
            refine bodyPost_ret (v := .agg #[.slice (some ⟨gn, 0, none⟩) L row.length, .slice (some ⟨gp, 0, none⟩) L row.length, .slice (some ⟨gc, 0, none⟩) row.length row.length]) (by simp [results, Try.results22, go_sem, q0, q1, q2]) rfl ⟨gn, gp, gc, by rw [hL], ?_, ?_, HS6.out.marks.far (k7.block gc HS6.out.marks.lt (by omega)), by omega, by omega, by omega, e5, e6, Nat.lt_of_lt_of_le (own_lt HS6.out.nums _ rfl) k7.size, Nat.lt_of_lt_of_le (own_lt HS6.out.plcs _ rfl) k7.size, HBK.out.trans (k7.below (fun g hg => by omega) HBK.out.size)⟩
            · show RdX w7 _ (row.filter p).length _
              rw [← hL]
              exact hn.kept k7 (fun g o h => by cases h; omega)
            · show RdX w7 _ (pl0 p row 0).length _
              rw [← hL, hPL]
              exact hp.kept k7 (fun g o h => by cases h; omega)
end Go.Proofs.Ytpedbnghhmnjjaa
