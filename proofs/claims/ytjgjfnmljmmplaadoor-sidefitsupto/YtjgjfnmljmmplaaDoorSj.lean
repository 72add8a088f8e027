/-
  The program's rows (layer 15). (Made by wip/gensj.py.)
-/
import Derived.Test.YtjgjfnmljmmplaaDoorSi
import Derived.Deep.RegionHeld3
import Derived.StillTailTactics
import Derived.BigQuiet
namespace Go.Proofs.YtjgjfnmljmmplaaDoor
namespace Sy
open Go.RowKit

theorem still_of_quietY {P : Program} {ops : Array Oper} {w1 : World} {Q : Act → Prop} : ∀ (l : List Oper) (a : Act), wpQuiet P ops (fun w' => w' = w1) Q l a → wpStill P ops w1 Q l a
  | [], _, h => h
  | o :: rest, a, h => by
    unfold wpQuiet at h
    unfold wpStill
    split
    · next hw =>
      rw [if_pos hw] at h
      obtain ⟨v, h1, h2⟩ := h
      have h3 := h1 w1 rfl
      have h4 := still_of_quietY rest _ h2
      unfold Oper.quietAt at h3
      unfold Oper.still
      generalize (execOp a.eval o).run P w1 = r at h3 ⊢
      unfold Oper.quietUpon at h3
      unfold Oper.stillUpon
      split at h3
      · obtain ⟨e1, e2⟩ := h3
        subst e2
        exact ⟨e1, h4⟩
      · obtain ⟨e1, e2⟩ := h3
        subst e2
        exact ⟨e1, h4⟩
      · obtain ⟨e1, e2⟩ := h3
        exact ⟨e1, v, e2, h4⟩
      · exact h3.elim
    · next hw =>
      rw [if_neg hw] at h
      exact still_of_quietY rest _ h
theorem wp_region_qtailY {P : Program} {id : Nat} {Q : Exit → Act → World → Prop} {a : Act} {w : World} {l : List Oper} (n : Nat) (hm : P.follows .mixedOrders = true) (hB : Region.lexTailB .any l.toArray n = true)
    (h : wpQuiet P l.toArray (fun w' => w' = w.drewN 1) (fun a' => wpList P l.toArray Q (l.drop n) a' (w.drewN 1)) (l.take n) a) : (Code.region id l.toArray true).wp P Q a w :=
  wp_region_still_tail n hm hB (still_of_quietY _ _ h)
theorem embP : Bx.Emb 59 5 := ⟨by kernel_rfl, by decide⟩
/-- what a page holds besides its builder -/
def pgR (half sec : Nat) : List Value := [.int .i64 (half : Int), .int .i64 (sec : Int), .string (bB (Sd.blk (half + 1)))]
abbrev Pg (B b half sec : Nat) (l : Sd.Bs) (w : World) : Prop := Bx.PgAt B b 59 (pgR half sec) l w
theorem frm_nat (n : Nat) : frm (n : Int) = n % 8 := by unfold frm; omega
theorem emptyY (s : ByteArray) : s.toList.isEmpty = decide (s.size = 0) := by
  rw [ByteArray.toList_eq]
  have e := dsize s
  cases h : s.data.toList with
  | nil => rw [h] at e; simp at e; simp [← e]
  | cons x r => rw [h] at e; simp at e; simp [← e]
theorem empY (s : ByteArray) (h : s.size = 0) : s.toList.isEmpty = true := by rw [emptyY]; exact decide_eq_true h
theorem empN (s : ByteArray) (h : s.size ≠ 0) : s.toList.isEmpty = false := by rw [emptyY]; exact decide_eq_false h
theorem blk_cut {n k : Nat} : ((bB (Sd.blk n)).extract k n).data.toList = Sd.blk (n - k) := by
  unfold Sd.blk bB
  simp [ByteArray.data_extract]
set_option maxHeartbeats 8000000 in
set_option maxRecDepth 100000 in
theorem row_any {B b half sec : Nat} {l : Sd.Bs} {w : World} (x y : ByteArray) (mk : UInt8) (hh : half ≤ 4096) (h : Pg B b half sec l w) (hB : B ≤ w.heap.size) (hx : x.size ≤ 1099511627776) (hy : y.size ≤ 1099511627776) (hl : l.length ≤ 100000000000000) :
    Calls Tryd.prog 42 #[.pointer (some ⟨b, 0, none⟩), .string x, .int .u8 mk.toNat, .string y] w fun e w' => e = .returned (.tuple #[]) ∧ Pg B b half sec (l ++ Sd.rowT half sec x.data.toList mk y.data.toList) w' ∧ Bx.Fr B b w w' := by
  have HC1 := hid (fun w1 => cut_any x 0 (half : Int) w1 (by omega) (by omega) hx)
  have HC2 := hid (fun w1 => cut_any y (sec : Int) (half : Int) w1 (by omega) (by omega) hy)
  rw [show frm 0 = 0 from rfl] at HC1
  rw [frm_nat] at HC2
  have HLL := hid (Sd.cut_half 0 half (Sd.bare x.data.toList))
  have HRL := hid (Sd.cut_half (sec % 8) half (Sd.bare y.data.toList))
  unfold Sd.rowT
  generalize Sd.cutT 0 (half : Int) [] (Sd.bare x.data.toList) = L at HC1 HLL ⊢
  generalize Sd.cutT (sec % 8) (half : Int) [] (Sd.bare y.data.toList) = R at HC2 HRL ⊢
  obtain ⟨LN, hLN⟩ : ∃ LN, LN = L.length := ⟨_, rfl⟩
  obtain ⟨RN, hRN⟩ : ∃ RN, RN = R.length := ⟨_, rfl⟩
  rw [← hLN] at HC1 HLL
  rw [← hRN] at HC2 HRL
  have hnl : (bB L).size = LN := by rw [hLN]; exact bsz L
  have hnr : (bB R).size = R.length := bsz R
  have HLD : Hid ((bB L).data.toList = L) := hid rfl
  have HRD : Hid ((bB R).data.toList = R) := hid rfl
  generalize bB L = LB at HC1 hnl HLD
  generalize bB R = RB at HC2 hnr HRD
  have HLX := hid hLN
  have HRX := hid hRN
  have HLN := hid hl
  have HP0 := hid h
  have c2 : w.cell? ⟨b, 2, none⟩ = some (.int .i64 (half : Int)) := h.cell 0 rfl
  clear h hl hx hy hLN hRN
  go_enter Tryd.func42, Tryd.ntmps42
  go_wp2_with fail
  refine (HC1.out w).mono ?_
  rintro e w1 ⟨rfl, hb1⟩
  have HP := hid (HP0.out.below hb1)
  have HF := hid (Bx.Fr.of (b := b) hb1 hB)
  have HD := hid (Nat.le_trans hB hb1.size)
  clear hb1 c2 HP0 HC1
  have c2 : w1.cell? ⟨b, 2, none⟩ = some (.int .i64 (half : Int)) := HP.out.cell 0 rfl
  have c3 : w1.cell? ⟨b, 3, none⟩ = some (.int .i64 (sec : Int)) := HP.out.cell 1 rfl
  go_wp2_with fail
  go_region_held (fun w' => w'.cell? ⟨b, 2, none⟩ = some (.int .i64 (half : Int)) ∧ w'.cell? ⟨b, 3, none⟩ = some (.int .i64 (sec : Int)))
    (first
      | go_keep
      | (go_split_ands
         refine ⟨?_, ?_⟩ <;> exact (hbk.cell (lt_of_cell (by assumption))).trans (by assumption)))
    (first
      | (go_at_call 12; refine (HC2.out _).mono ?_; rintro e w2 ⟨rfl, hbk⟩; have HBK := hid ((below_drewN (Below.refl w1.heap.size w1) 1).trans (hbk.mono (below_drewN (Below.refl w1.heap.size w1) 1).size))))
  replace HP := hid (HP.out.below HBK.out)
  replace HF := hid (HF.out.trans (Bx.Fr.of (b := b) HBK.out HD.out))
  replace HD := hid (Nat.le_trans HD.out HBK.out.size)
  clear HBK c2 c3 hbk HC2
  go_wp2_with fail
  refine (Bx.ws_any embP LB HP.out (by have := HLN.out; have := HLL.out; omega) HD.out).mono ?_
  rintro e w3 ⟨rfl, hp, hf⟩
  rw [HLD.out] at hp
  replace HP := hid hp
  replace HF := hid (HF.out.trans hf)
  replace HD := hid (Nat.le_trans HD.out hf.below.size)
  clear hp hf
  have HLE : Hid ((l ++ L).length ≤ 100000000005000) := hid (by have := HLN.out; have := HLL.out; have := HLX.out; rw [List.length_append]; omega)
  by_cases hr0 : RB.size = 0
  · have hRn : R = [] := List.length_eq_zero_iff.1 (by rw [← hnr]; exact hr0)
    have hx := empY RB hr0
    by_cases hm : mk = 32
    · have t1 : ((mk.toNat : Int) != 32) = false := by rw [hm]; rfl
      have HRW : Hid (Sd.rowG half L mk R = L ++ [10]) := hid (by rw [hRn, hm]; unfold Sd.rowG; simp)
      clear hRn hm hr0
      go_wp2_with fail
      refine (Bx.wb_any embP 10 HP.out (by have := HLE.out; omega) HD.out).mono ?_
      rintro e w15 ⟨rfl, hp, hf⟩
      replace HP := hid hp
      replace HF := hid (HF.out.trans hf)
      replace HD := hid (Nat.le_trans HD.out hf.below.size)
      clear hp hf
      go_wp2_with fail
      exact bodyPost_end (v := .tuple #[]) (results_none Tryd.results42 _ _ _) rfl ⟨rfl, by rw [HRW.out]; simpa using HP.out, HF.out⟩
    · have t1 : ((mk.toNat : Int) != 32) = true := by
        rw [bne_iff_ne]
        intro e
        apply hm
        apply UInt8.toNat_inj.1
        show mk.toNat = 32
        omega
      have HRW : Hid (Sd.rowG half L mk R = L ++ (Sd.blk (half + 1 - L.length) ++ [mk] ++ [10])) := hid (by rw [hRn]; unfold Sd.rowG; simp [hm])
      clear hRn hm hr0
      have hEX : ((bB (Sd.blk (half + 1))).extract LN (half + 1)).data.toList = Sd.blk (half + 1 - L.length) := by rw [blk_cut, ← HLX.out]
      have hEZ : ((bB (Sd.blk (half + 1))).extract LN (half + 1)).size = half + 1 - LN := by rw [← dsize, hEX, Sd.blk_len, HLX.out]
      have hBZ : (bB (Sd.blk (half + 1))).size = half + 1 := by rw [bsz, Sd.blk_len]
      have c4 : w3.cell? ⟨b, 4, none⟩ = some (.string (bB (Sd.blk (half + 1)))) := HP.out.cell 2 rfl
      have hll := HLL.out
      have i1 : (0 : Int) ≤ (LN : Int) := by omega
      have i2 : (LN : Int) ≤ ((half + 1 : Nat) : Int) := by omega
      have i3 : LN ≤ half + 1 := by omega
      have HEX := hid hEX
      have HEZ := hid hEZ
      clear hEX hEZ
      generalize bB (Sd.blk (half + 1)) = BL at c4 hBZ HEX HEZ
      go_wp2_with fail
      refine wp_region_qtailY 9 (by kernel_rfl) (by kernel_rfl) ?_
      simp only [List.take_succ_cons, List.take_zero, List.drop_succ_cons, List.drop_zero]
      repeat go_big_quiet_step (fail)
      refine wpQuiet_nil ?_
      replace HP := hid (HP.out.below (below_drewN (Below.refl w3.heap.size w3) 1))
      replace HF := hid (HF.out.trans (Bx.Fr.of (b := b) (below_drewN (Below.refl w3.heap.size w3) 1) HD.out))
      have HD4 : Hid (B ≤ (w3.drewN 1).heap.size) := HD
      clear HD
      have HD := HD4
      clear HD4 c4
      generalize w3.drewN 1 = w4 at HP HF HD ⊢
      go_wp2_with fail
      refine (Bx.ws_any embP (BL.extract LN (half + 1)) HP.out (by have := HLE.out; rw [HEZ.out]; omega) HD.out).mono ?_
      rintro e w11 ⟨rfl, hp, hf⟩
      rw [HEX.out] at hp
      replace HP := hid hp
      replace HF := hid (HF.out.trans hf)
      replace HD := hid (Nat.le_trans HD.out hf.below.size)
      clear hp hf
      have HLE2 : Hid ((l ++ L ++ Sd.blk (half + 1 - L.length)).length ≤ 100000000010000) := hid (by have := HLE.out; rw [List.length_append, Sd.blk_len]; omega)
      go_wp2_with fail
      refine (Bx.wb_any embP mk HP.out (by have := HLE2.out; omega) HD.out).mono ?_
      rintro e w12 ⟨rfl, hp, hf⟩
      replace HP := hid hp
      replace HF := hid (HF.out.trans hf)
      replace HD := hid (Nat.le_trans HD.out hf.below.size)
      clear hp hf
      have HLE3 : Hid ((l ++ L ++ Sd.blk (half + 1 - L.length) ++ [mk]).length ≤ 100000000010001) := hid (by have := HLE2.out; rw [List.length_append, List.length_singleton]; omega)
      go_wp2_with fail
      refine (Bx.wb_any embP 10 HP.out (by have := HLE3.out; omega) HD.out).mono ?_
      rintro e w16 ⟨rfl, hp, hf⟩
      replace HP := hid hp
      replace HF := hid (HF.out.trans hf)
      replace HD := hid (Nat.le_trans HD.out hf.below.size)
      clear hp hf
      go_wp2_with fail
      exact bodyPost_end (v := .tuple #[]) (results_none Tryd.results42 _ _ _) rfl ⟨rfl, by rw [HRW.out]; simpa using HP.out, HF.out⟩
  · have hRn : R ≠ [] := fun e => hr0 (by rw [hnr, e]; rfl)
    have hx := empN RB hr0
    have HRW : Hid (Sd.rowG half L mk R = L ++ (Sd.blk (half + 1 - L.length) ++ [mk] ++ (32 :: R) ++ [10])) := hid (by unfold Sd.rowG; simp [hRn])
    clear hRn hr0
    cases t1 : ((mk.toNat : Int) != 32) with
    | false =>
      have hEX : ((bB (Sd.blk (half + 1))).extract LN (half + 1)).data.toList = Sd.blk (half + 1 - L.length) := by rw [blk_cut, ← HLX.out]
      have hEZ : ((bB (Sd.blk (half + 1))).extract LN (half + 1)).size = half + 1 - LN := by rw [← dsize, hEX, Sd.blk_len, HLX.out]
      have hBZ : (bB (Sd.blk (half + 1))).size = half + 1 := by rw [bsz, Sd.blk_len]
      have c4 : w3.cell? ⟨b, 4, none⟩ = some (.string (bB (Sd.blk (half + 1)))) := HP.out.cell 2 rfl
      have hll := HLL.out
      have i1 : (0 : Int) ≤ (LN : Int) := by omega
      have i2 : (LN : Int) ≤ ((half + 1 : Nat) : Int) := by omega
      have i3 : LN ≤ half + 1 := by omega
      have HEX := hid hEX
      have HEZ := hid hEZ
      clear hEX hEZ
      generalize bB (Sd.blk (half + 1)) = BL at c4 hBZ HEX HEZ
      go_wp2_with fail
      refine wp_region_qtailY 9 (by kernel_rfl) (by kernel_rfl) ?_
      simp only [List.take_succ_cons, List.take_zero, List.drop_succ_cons, List.drop_zero]
      repeat go_big_quiet_step (fail)
      refine wpQuiet_nil ?_
      replace HP := hid (HP.out.below (below_drewN (Below.refl w3.heap.size w3) 1))
      replace HF := hid (HF.out.trans (Bx.Fr.of (b := b) (below_drewN (Below.refl w3.heap.size w3) 1) HD.out))
      have HD4 : Hid (B ≤ (w3.drewN 1).heap.size) := HD
      clear HD
      have HD := HD4
      clear HD4 c4
      generalize w3.drewN 1 = w4 at HP HF HD ⊢
      go_wp2_with fail
      refine (Bx.ws_any embP (BL.extract LN (half + 1)) HP.out (by have := HLE.out; rw [HEZ.out]; omega) HD.out).mono ?_
      rintro e w11 ⟨rfl, hp, hf⟩
      rw [HEX.out] at hp
      replace HP := hid hp
      replace HF := hid (HF.out.trans hf)
      replace HD := hid (Nat.le_trans HD.out hf.below.size)
      clear hp hf
      have HLE2 : Hid ((l ++ L ++ Sd.blk (half + 1 - L.length)).length ≤ 100000000010000) := hid (by have := HLE.out; rw [List.length_append, Sd.blk_len]; omega)
      go_wp2_with fail
      refine (Bx.wb_any embP mk HP.out (by have := HLE2.out; omega) HD.out).mono ?_
      rintro e w12 ⟨rfl, hp, hf⟩
      replace HP := hid hp
      replace HF := hid (HF.out.trans hf)
      replace HD := hid (Nat.le_trans HD.out hf.below.size)
      clear hp hf
      have HLE3 : Hid ((l ++ L ++ Sd.blk (half + 1 - L.length) ++ [mk]).length ≤ 100000000010001) := hid (by have := HLE2.out; rw [List.length_append, List.length_singleton]; omega)
      go_wp2_with fail
      refine (Bx.wb_any embP 32 HP.out (by have := HLE3.out; omega) HD.out).mono ?_
      rintro e w13 ⟨rfl, hp, hf⟩
      replace HP := hid hp
      replace HF := hid (HF.out.trans hf)
      replace HD := hid (Nat.le_trans HD.out hf.below.size)
      clear hp hf
      have HLE4 : Hid ((l ++ L ++ Sd.blk (half + 1 - L.length) ++ [mk] ++ [32]).length ≤ 100000000010002) := hid (by have := HLE3.out; rw [List.length_append, List.length_singleton]; omega)
      go_wp2_with fail
      refine (Bx.ws_any embP RB HP.out (by have := HLE4.out; have := HRL.out; have := HRX.out; omega) HD.out).mono ?_
      rintro e w14 ⟨rfl, hp, hf⟩
      rw [HRD.out] at hp
      replace HP := hid hp
      replace HF := hid (HF.out.trans hf)
      replace HD := hid (Nat.le_trans HD.out hf.below.size)
      clear hp hf
      have HLE5 : Hid ((l ++ L ++ Sd.blk (half + 1 - L.length) ++ [mk] ++ [32] ++ R).length ≤ 100000000020002) := hid (by have := HLE4.out; have := HRL.out; have := HRX.out; rw [List.length_append]; omega)
      go_wp2_with fail
      refine (Bx.wb_any embP 10 HP.out (by have := HLE5.out; omega) HD.out).mono ?_
      rintro e w17 ⟨rfl, hp, hf⟩
      replace HP := hid hp
      replace HF := hid (HF.out.trans hf)
      replace HD := hid (Nat.le_trans HD.out hf.below.size)
      clear hp hf
      go_wp2_with fail
      exact bodyPost_end (v := .tuple #[]) (results_none Tryd.results42 _ _ _) rfl ⟨rfl, by rw [HRW.out]; simpa using HP.out, HF.out⟩
    | true =>
      have hEX : ((bB (Sd.blk (half + 1))).extract LN (half + 1)).data.toList = Sd.blk (half + 1 - L.length) := by rw [blk_cut, ← HLX.out]
      have hEZ : ((bB (Sd.blk (half + 1))).extract LN (half + 1)).size = half + 1 - LN := by rw [← dsize, hEX, Sd.blk_len, HLX.out]
      have hBZ : (bB (Sd.blk (half + 1))).size = half + 1 := by rw [bsz, Sd.blk_len]
      have c4 : w3.cell? ⟨b, 4, none⟩ = some (.string (bB (Sd.blk (half + 1)))) := HP.out.cell 2 rfl
      have hll := HLL.out
      have i1 : (0 : Int) ≤ (LN : Int) := by omega
      have i2 : (LN : Int) ≤ ((half + 1 : Nat) : Int) := by omega
      have i3 : LN ≤ half + 1 := by omega
      have HEX := hid hEX
      have HEZ := hid hEZ
      clear hEX hEZ
      generalize bB (Sd.blk (half + 1)) = BL at c4 hBZ HEX HEZ
      go_wp2_with fail
      refine wp_region_qtailY 9 (by kernel_rfl) (by kernel_rfl) ?_
      simp only [List.take_succ_cons, List.take_zero, List.drop_succ_cons, List.drop_zero]
      repeat go_big_quiet_step (fail)
      refine wpQuiet_nil ?_
      replace HP := hid (HP.out.below (below_drewN (Below.refl w3.heap.size w3) 1))
      replace HF := hid (HF.out.trans (Bx.Fr.of (b := b) (below_drewN (Below.refl w3.heap.size w3) 1) HD.out))
      have HD4 : Hid (B ≤ (w3.drewN 1).heap.size) := HD
      clear HD
      have HD := HD4
      clear HD4 c4
      generalize w3.drewN 1 = w4 at HP HF HD ⊢
      go_wp2_with fail
      refine (Bx.ws_any embP (BL.extract LN (half + 1)) HP.out (by have := HLE.out; rw [HEZ.out]; omega) HD.out).mono ?_
      rintro e w11 ⟨rfl, hp, hf⟩
      rw [HEX.out] at hp
      replace HP := hid hp
      replace HF := hid (HF.out.trans hf)
      replace HD := hid (Nat.le_trans HD.out hf.below.size)
      clear hp hf
      have HLE2 : Hid ((l ++ L ++ Sd.blk (half + 1 - L.length)).length ≤ 100000000010000) := hid (by have := HLE.out; rw [List.length_append, Sd.blk_len]; omega)
      go_wp2_with fail
      refine (Bx.wb_any embP mk HP.out (by have := HLE2.out; omega) HD.out).mono ?_
      rintro e w12 ⟨rfl, hp, hf⟩
      replace HP := hid hp
      replace HF := hid (HF.out.trans hf)
      replace HD := hid (Nat.le_trans HD.out hf.below.size)
      clear hp hf
      have HLE3 : Hid ((l ++ L ++ Sd.blk (half + 1 - L.length) ++ [mk]).length ≤ 100000000010001) := hid (by have := HLE2.out; rw [List.length_append, List.length_singleton]; omega)
      go_wp2_with fail
      refine (Bx.wb_any embP 32 HP.out (by have := HLE3.out; omega) HD.out).mono ?_
      rintro e w13 ⟨rfl, hp, hf⟩
      replace HP := hid hp
      replace HF := hid (HF.out.trans hf)
      replace HD := hid (Nat.le_trans HD.out hf.below.size)
      clear hp hf
      have HLE4 : Hid ((l ++ L ++ Sd.blk (half + 1 - L.length) ++ [mk] ++ [32]).length ≤ 100000000010002) := hid (by have := HLE3.out; rw [List.length_append, List.length_singleton]; omega)
      go_wp2_with fail
      refine (Bx.ws_any embP RB HP.out (by have := HLE4.out; have := HRL.out; have := HRX.out; omega) HD.out).mono ?_
      rintro e w14 ⟨rfl, hp, hf⟩
      rw [HRD.out] at hp
      replace HP := hid hp
      replace HF := hid (HF.out.trans hf)
      replace HD := hid (Nat.le_trans HD.out hf.below.size)
      clear hp hf
      have HLE5 : Hid ((l ++ L ++ Sd.blk (half + 1 - L.length) ++ [mk] ++ [32] ++ R).length ≤ 100000000020002) := hid (by have := HLE4.out; have := HRL.out; have := HRX.out; rw [List.length_append]; omega)
      go_wp2_with fail
      refine (Bx.wb_any embP 10 HP.out (by have := HLE5.out; omega) HD.out).mono ?_
      rintro e w17 ⟨rfl, hp, hf⟩
      replace HP := hid hp
      replace HF := hid (HF.out.trans hf)
      replace HD := hid (Nat.le_trans HD.out hf.below.size)
      clear hp hf
      go_wp2_with fail
      exact bodyPost_end (v := .tuple #[]) (results_none Tryd.results42 _ _ _) rfl ⟨rfl, by rw [HRW.out]; simpa using HP.out, HF.out⟩
end Sy
end Go.Proofs.YtjgjfnmljmmplaaDoor
