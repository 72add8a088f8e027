/-
  Several texts in one: Ka, Ko, Kb, Kc, Kd.
-/
import Derived.Test.YtkolgglllladfaaGreatDoorGrJ6
import Derived.Test.YtkolgglllladfaaGreatDoorGrX
/-
  The document's old, fresh, line, start, Place, Counts.
-/
namespace Go.Proofs.YtkolgglllladfaaGreatDoor
open Go.RowKit
open Hu (Rw Hk)

set_option maxHeartbeats 1000000 in
set_option maxRecDepth 100000 in
theorem rOld_any (r : Rw) (w : World) : Calls Tryz.prog 74 #[RwV r] w fun e w' => e = .returned (.bool (Hu.isO r)) ∧ Below w.heap.size w w' := by
  have HB := hid ((Below.refl w.heap.size w).alloc (Nat.le_refl _) (.cells #[.int .i64 r.k, .string r.t] 57))
  unfold RwV Hu.isO
  cases h2 : (r.k == 1) <;> cases h3 : (r.k == 2)
  all_goals
    go_enter Tryz.func74, Tryz.ntmps74
    go_wp2
    go_ret
    exact ⟨rfl, HB.out⟩
set_option maxHeartbeats 1000000 in
set_option maxRecDepth 100000 in
theorem rFresh_any (r : Rw) (w : World) : Calls Tryz.prog 75 #[RwV r] w fun e w' => e = .returned (.bool (Hu.isF r)) ∧ Below w.heap.size w w' := by
  have HB := hid ((Below.refl w.heap.size w).alloc (Nat.le_refl _) (.cells #[.int .i64 r.k, .string r.t] 57))
  unfold RwV Hu.isF
  cases h2 : (r.k == 1) <;> cases h3 : (r.k == 3)
  all_goals
    go_enter Tryz.func75, Tryz.ntmps75
    go_wp2
    go_ret
    exact ⟨rfl, HB.out⟩
theorem start_no {a : Int} {n : Nat} {M : Int} (hM : M = if (n : Int) = 0 then 0 else 1) (h : ¬ M ≤ a) : Hu.startD a n = false := by unfold Hu.startD; rw [← hM, decide_eq_false h]; rfl
theorem start_no2 {a : Int} {n : Nat} (h : ¬ a ≤ 2147483647 - (n : Int)) : Hu.startD a n = false := by unfold Hu.startD; rw [decide_eq_false h]; simp
theorem start_yes {a : Int} {n : Nat} {M : Int} (hM : M = if (n : Int) = 0 then 0 else 1) (h : M ≤ a) (h2 : a ≤ 2147483647 - (n : Int)) : Hu.startD a n = true := by unfold Hu.startD; rw [← hM, decide_eq_true h, decide_eq_true h2]; rfl
set_option maxHeartbeats 2000000 in
set_option maxRecDepth 100000 in
theorem rStart_any (a : Int) (n : Nat) (w : World) (hn : n < 8796093022200) : Calls Tryz.prog 45 #[.int .i64 a, .int .i64 n] w fun e w' => e = .returned (.bool (Hu.startD a n)) ∧ w' = w := by
  have i1 : IntKind.i64.wrap (2147483647 - (n : Int)) = 2147483647 - (n : Int) := wrapOk (by omega) (by omega)
  by_cases h0 : n = 0
  · subst h0
    by_cases h1 : (0 : Int) ≤ a
    · by_cases h2 : a ≤ 2147483647
      · have HE := hid (start_yes (a := a) (n := 0) (M := 0) rfl h1 (by omega))
        rw [HE.out]
        go_enter Tryz.func45, Tryz.ntmps45
        go_wp2_with fail
        go_ret
        exact ⟨rfl, rfl⟩
      · have HE := hid (start_no2 (a := a) (n := 0) (by omega))
        rw [HE.out]
        go_enter Tryz.func45, Tryz.ntmps45
        go_wp2_with fail
        go_ret
        exact ⟨rfl, rfl⟩
    · have HE := hid (start_no (a := a) (n := 0) (M := 0) rfl h1)
      rw [HE.out]
      go_enter Tryz.func45, Tryz.ntmps45
      go_wp2_with fail
      go_ret
      exact ⟨rfl, rfl⟩
  · have z0 : ((n : Int) == 0) = false := zne (by omega)
    have hM : (1 : Int) = if (n : Int) = 0 then 0 else 1 := by rw [if_neg (by omega)]
    by_cases h1 : (1 : Int) ≤ a
    · by_cases h2 : a ≤ 2147483647 - (n : Int)
      · have HE := hid (start_yes hM h1 h2)
        rw [HE.out]
        clear hM h0
        go_enter Tryz.func45, Tryz.ntmps45
        go_wp2_with fail
        go_ret
        exact ⟨rfl, rfl⟩
      · have HE := hid (start_no2 h2)
        rw [HE.out]
        clear hM h0
        go_enter Tryz.func45, Tryz.ntmps45
        go_wp2_with fail
        go_ret
        exact ⟨rfl, rfl⟩
    · have HE := hid (start_no hM h1)
      rw [HE.out]
      clear hM h0
      go_enter Tryz.func45, Tryz.ntmps45
      go_wp2_with fail
      go_ret
      exact ⟨rfl, rfl⟩
set_option maxHeartbeats 2000000 in
set_option maxRecDepth 100000 in
theorem rLine_any (x : ByteArray) (w : World) (hs : x.size ≤ maxLen) : Calls Tryz.prog 76 #[.string x] w fun e w' => e = .returned (.bool (Hu.okT x)) ∧ w' = w := by
  unfold maxLen at hs
  by_cases h0 : x.size = 0
  · have HE : Hid (Hu.okT x = false) := hid (Cx.ok1_no0 x h0)
    have he := Cx.empty_yes x h0
    have i1 : (x.size : Int) = 0 := by omega
    rw [HE.out]
    clear h0
    go_enter Tryz.func76, Tryz.ntmps76
    go_wp2_with fail
    refine wp_loop_rounds 1 ?_
    rw [rounds_succ]
    go_wp2_with fail
    go_ret
    exact ⟨rfl, rfl⟩
  · have he := Cx.empty_no x h0
    go_enter Tryz.func76, Tryz.ntmps76
    go_wp2_with fail
    go_loop [3] (fun t => ∃ j : Nat, j ≤ x.size - 1 ∧ t = .int .i64 j ∧ (10 : UInt8) ∉ x.data.toList.take j) (fun t => x.size - (intOf t).toNat)
    case atStart => exact ⟨0, Nat.zero_le _, rfl, by simp⟩
    case round =>
      obtain ⟨j, hj, rfl, hno⟩ := hrel
      have HO := hid hno
      clear hno
      by_cases hjl : j + 1 < x.size
      · have hjx : j < x.size := by omega
        cases hq : ((x[j].toNat : Int) == 10) with
        | true =>
          have HE : Hid (Hu.okT x = false) := hid (Cx.ok1_part x j hjx hq hjl)
          go_wp2_with fail
          go_ret
          exact ⟨ret_bool HE.out.symm, rfl⟩
        | false =>
          have hm := hid (Cx.take_miss x j hjx hq HO.out)
          go_wp2_with fail
          go_round
          case rel => exact ⟨j + 1, by omega, by go_num, hm.out⟩
          case measure => simp [intOf]; omega
      · have hjs : j = x.size - 1 := by omega
        subst hjs
        have HE : Hid (Hu.okT x = true) := hid (Cx.ok1_full x h0 HO.out)
        go_wp2_with fail
        go_ret
        exact ⟨ret_bool HE.out.symm, rfl⟩
set_option maxHeartbeats 4000000 in
set_option maxRecDepth 100000 in
theorem rCounts_any {w : World} {v : Value} {l : List Rw} (hv : RdW w v l) (hl : l.length < 5864062014800) :
    Calls Tryz.prog 43 #[v] w fun e w' => e = .returned (.tuple #[.int .i64 ((Hu.olds l).length : Nat), .int .i64 ((Hu.fres l).length : Nat)]) ∧ Below w.heap.size w w' := by
  obtain ⟨av, cv, rfl⟩ := hv.shape
  have HV := hid hv
  obtain ⟨n, hn⟩ : ∃ n, n = l.length := ⟨_, rfl⟩
  have HN := hid hn
  rw [← hn] at HV hl ⊢
  clear hv hn
  go_enter Tryz.func43, Tryz.ntmps43
  go_wp2_with fail
  go_loopw [4, 5, 6] (fun p q ii wr => ∃ (k x y : Nat), k ≤ n ∧ ii = .int .i64 k ∧ p = .int .i64 x ∧ q = .int .i64 y ∧ x ≤ k ∧ y ≤ k ∧ Hid (x = (Hu.olds (l.take k)).length) ∧ Hid (y = (Hu.fres (l.take k)).length) ∧ Hid (Below w.heap.size w wr)) (fun _ _ ii _ => n - (intOf ii).toNat)
  case atStart => exact ⟨0, 0, 0, Nat.zero_le _, rfl, rfl, rfl, Nat.le_refl _, Nat.le_refl _, hid (by simp [Hu.olds]), hid (by simp [Hu.fres]), Below.refl _ _⟩
  case round =>
    obtain ⟨k, x, y, hk, rfl, rfl, rfl, hx, hy, HX, HY, HB⟩ := hrel
    by_cases hlt : k < n
    · obtain ⟨z, hz⟩ : ∃ z, l[k]? = some z := ⟨_, List.getElem?_eq_getElem (by have := HN.out; omega)⟩
      obtain ⟨b1, o1, e1, hb1, d0, d1⟩ := rdW_at HV.out hz
      subst e1
      replace d0 := (HB.out.cell (p := ⟨b1, _, none⟩) hb1).trans d0
      replace d1 := (HB.out.cell (p := ⟨b1, _, none⟩) hb1).trans d1
      have HO := hid (olds_take_len hz)
      have HF := hid (fres_take_len hz)
      have HC1 := hid (fun w1 => rOld_any z w1)
      have HC2 := hid (fun w1 => rFresh_any z w1)
      unfold RwV at HC1 HC2
      have i1 : (0 : Int) ≤ (k : Int) := by omega
      have i2 : (k : Int) < (n : Int) := by omega
      have s1 : IntKind.i64.wrap ((x : Int) + 1) = (x : Int) + 1 := wrapOk (by omega) (by omega)
      have s2 : IntKind.i64.wrap ((y : Int) + 1) = (y : Int) + 1 := wrapOk (by omega) (by omega)
      have s3 : IntKind.i64.wrap ((k : Int) + 1) = (k : Int) + 1 := wrapOk (by omega) (by omega)
      have HCELL : Hid (∀ w1, Below wr.heap.size wr w1 → w1.cell? ⟨b1, o1 + k * 2, none⟩ = some (.int .i64 z.k) ∧ w1.cell? ⟨b1, o1 + k * 2 + 1, none⟩ = some (.string z.t)) := hid (fun w1 h => ⟨(h.cell (p := ⟨b1, _, none⟩) (Nat.lt_of_lt_of_le hb1 HB.out.size)).trans d0, (h.cell (p := ⟨b1, _, none⟩) (Nat.lt_of_lt_of_le hb1 HB.out.size)).trans d1⟩)
      generalize Hu.isO z = qo at HC1 HO
      generalize Hu.isF z = qf at HC2 HF
      clear hz hb1
      cases qo <;> cases qf
      all_goals
        go_wp2_with fail
        refine (HC1.out _).mono ?_
        rintro e w2 ⟨rfl, h2⟩
        have HB2 := hid (HB.out.trans (h2.mono HB.out.size))
        obtain ⟨t0, t1⟩ := HCELL.out w2 h2
        clear h2
        go_wp2_with fail
        refine (HC2.out _).mono ?_
        rintro e w3 ⟨rfl, h3⟩
        have HB3 := hid (HB2.out.trans (h3.mono HB2.out.size))
        clear h3
        go_wp2_with fail
        go_roundw
        case measure => simp [intOf]; omega
      case rel => exact ⟨k + 1, x, y, by omega, by go_num, rfl, rfl, by omega, by omega, hid (by have h := HO.out; have := HX.out; simp at h; omega), hid (by have h := HF.out; have := HY.out; simp at h; omega), HB3⟩
      case rel => exact ⟨k + 1, x, y + 1, by omega, by go_num, rfl, by go_num, by omega, by omega, hid (by have h := HO.out; have := HX.out; simp at h; omega), hid (by have h := HF.out; have := HY.out; simp at h; omega), HB3⟩
      case rel => exact ⟨k + 1, x + 1, y, by omega, by go_num, by go_num, rfl, by omega, by omega, hid (by have h := HO.out; have := HX.out; simp at h; omega), hid (by have h := HF.out; have := HY.out; simp at h; omega), HB3⟩
      case rel => exact ⟨k + 1, x + 1, y + 1, by omega, by go_num, by go_num, by go_num, by omega, by omega, hid (by have h := HO.out; have := HX.out; simp at h; omega), hid (by have h := HF.out; have := HY.out; simp at h; omega), HB3⟩
    · obtain rfl : k = n := by omega
      have hk2 : l.take k = l := List.take_of_length_le (by have := HN.out; omega)
      have HP2 : Hid (x = (Hu.olds l).length) := hid (by rw [HX.out, hk2])
      have HQ2 : Hid (y = (Hu.fres l).length) := hid (by rw [HY.out, hk2])
      clear hk2
      go_wp2_with fail
      go_ret2
      exact ⟨by rw [← HP2.out, ← HQ2.out]; rfl, HB.out⟩
end Go.Proofs.YtkolgglllladfaaGreatDoor
/-
  The document's put, stated (made by wip/genko.py out of J8).
-/
namespace Go.Proofs.YtkolgglllladfaaGreatDoor
open Go.RowKit
open Hu (Rw Hk)
open Ed (Ch)

end Go.Proofs.YtkolgglllladfaaGreatDoor
/-
  The document's rows (made by wip/genkb.py).
-/
namespace Go.Proofs.YtkolgglllladfaaGreatDoor
open Go.RowKit
open Hu (Rw Hk)

theorem rWhole_any2 (s : ByteArray) (w : World) (hs : s.size ≤ maxLen) : Calls Tryz.prog 47 #[.string s] w fun e w' => e = .returned (.bool (Hu.whT s)) ∧ w' = w := Cx.refWhole_any s w hs
theorem rowsD_at {l : List Rw} {k : Nat} {z : Rw} (h : l[k]? = some z) (en ov ch : Bool) : Hu.rowsD (l.drop k) en ov ch = if ((!Hu.isO z && !Hu.isF z) || !Hu.okT z.t || (Hu.isO z && en) || (Hu.isF z && ov)) = true then false else Hu.rowsD (l.drop (k + 1)) (en || (!Hu.whT z.t && Hu.isO z)) (ov || (!Hu.whT z.t && Hu.isF z)) (ch || !(z.k == 1)) := by
  obtain ⟨hk, rfl⟩ := List.getElem?_eq_some_iff.1 h
  rw [List.drop_eq_getElem_cons hk, Hu.rowsD]
set_option maxHeartbeats 8000000 in
set_option maxRecDepth 100000 in
theorem rRows_any {w : World} {v : Value} {l : List Rw} (hv : RdW w v l) (hl : l.length < 5864062014800) (hs : ∀ r ∈ l, r.t.size ≤ maxLen) :
    Calls Tryz.prog 44 #[v] w fun e w' => e = .returned (.bool (Hu.rowsD l false false false)) ∧ Below w.heap.size w w' := by
  obtain ⟨av, cv, rfl⟩ := hv.shape
  have HV := hid hv
  have HSZ := hid hs
  obtain ⟨n, hn⟩ : ∃ n, n = l.length := ⟨_, rfl⟩
  have HN := hid hn
  rw [← hn] at HV hl ⊢
  clear hv hn hs
  go_enter Tryz.func44, Tryz.ntmps44
  go_wp2_with fail
  go_loopw [3, 4, 5, 6] (fun p q c ii wr => ∃ (k : Nat) (en ov ch : Bool), k ≤ n ∧ ii = .int .i64 k ∧ p = .bool en ∧ q = .bool ov ∧ c = .bool ch ∧ Hid (Hu.rowsD l false false false = Hu.rowsD (l.drop k) en ov ch) ∧ Hid (Below w.heap.size w wr)) (fun _ _ _ ii _ => n - (intOf ii).toNat)
  case atStart => exact ⟨0, false, false, false, Nat.zero_le _, rfl, rfl, rfl, rfl, hid rfl, Below.refl _ _⟩
  case round =>
    obtain ⟨k, en, ov, ch, hk, rfl, rfl, rfl, rfl, HD, HB⟩ := hrel
    by_cases hlt : k < n
    · obtain ⟨z, hz⟩ : ∃ z, l[k]? = some z := ⟨_, List.getElem?_eq_getElem (by have := HN.out; omega)⟩
      obtain ⟨b1, o1, e1, hb1, d0, d1⟩ := rdW_at HV.out hz
      subst e1
      replace d0 := (HB.out.cell (p := ⟨b1, _, none⟩) hb1).trans d0
      replace d1 := (HB.out.cell (p := ⟨b1, _, none⟩) hb1).trans d1
      have HE : Hid (Hu.rowsD l false false false = _) := hid (HD.out.trans (rowsD_at hz en ov ch))
      have HC1 := hid (fun w1 => rOld_any z w1)
      have HC2 := hid (fun w1 => rFresh_any z w1)
      have HC3 := hid (fun w1 => rLine_any z.t w1 (HSZ.out z (List.mem_of_getElem? hz)))
      have HC4 := hid (fun w1 => rWhole_any2 z.t w1 (HSZ.out z (List.mem_of_getElem? hz)))
      unfold RwV at HC1 HC2
      have HK := hid (Hu.kinds z)
      have i1 : (0 : Int) ≤ (k : Int) := by omega
      have i2 : (k : Int) < (n : Int) := by omega
      have s3 : IntKind.i64.wrap ((k : Int) + 1) = (k : Int) + 1 := wrapOk (by omega) (by omega)
      generalize Hu.okT z.t = qt at HC3 HE
      generalize Hu.whT z.t = qw at HC4 HE
      clear hz hb1 HD
      replace HK := HK.out
      have HB1 := hid (HB.out.alloc HB.out.size (.cells #[.int .i64 z.k, .string z.t] 57))
      have HKB := hid (heap_alloc_new wr (.cells #[.int .i64 z.k, .string z.t] 57))
      clear HB
      go_wp2_with fail
      generalize wr.alloc (.cells #[.int .i64 z.k, .string z.t] 57) = w1 at HB1 HKB ⊢
      generalize wr.heap.size = R at HKB ⊢
      clear d0 d1
      have HB := HB1
      clear HB1
      rcases HK with ⟨h1, h2, _, h4⟩ | ⟨h1, h2, _, h4⟩ | ⟨h1, h2, _, h4⟩ | ⟨h1, h2, _, h4⟩ <;> rw [h1] at HC1 HE <;> rw [h2] at HC2 HE <;> rw [h4] at HE <;> clear h1 h2
      · cases qt
        · clear HC4
          repeat (first
            | (refine (HC1.out _).mono ?_; rintro e w2 ⟨rfl, h2⟩; replace HB := hid (HB.out.trans (h2.mono HB.out.size)); replace HKB := hid ((h2.block R (lt_of_heap HKB.out)).trans HKB.out); clear h2; have c0 := cell_of_blk HKB.out 0; have c1 := cell_of_blk HKB.out 1; go_wp2_with fail; clear c0 c1)
            | (refine (HC2.out _).mono ?_; rintro e w2 ⟨rfl, h2⟩; replace HB := hid (HB.out.trans (h2.mono HB.out.size)); replace HKB := hid ((h2.block R (lt_of_heap HKB.out)).trans HKB.out); clear h2; have c0 := cell_of_blk HKB.out 0; have c1 := cell_of_blk HKB.out 1; go_wp2_with fail; clear c0 c1)
            | (refine (HC3.out _).mono ?_; rintro e w2 ⟨rfl, rfl⟩; have c0 := cell_of_blk HKB.out 0; have c1 := cell_of_blk HKB.out 1; go_wp2_with fail; clear c0 c1)
            | (refine (HC4.out _).mono ?_; rintro e w2 ⟨rfl, rfl⟩; have c0 := cell_of_blk HKB.out 0; have c1 := cell_of_blk HKB.out 1; go_wp2_with fail; clear c0 c1))
          go_ret
          exact ⟨by rw [HE.out]; rfl, HB.out⟩
        · cases en <;> cases ov
          · cases qw <;> cases ch
            · repeat (first
                | (refine (HC1.out _).mono ?_; rintro e w2 ⟨rfl, h2⟩; replace HB := hid (HB.out.trans (h2.mono HB.out.size)); replace HKB := hid ((h2.block R (lt_of_heap HKB.out)).trans HKB.out); clear h2; have c0 := cell_of_blk HKB.out 0; have c1 := cell_of_blk HKB.out 1; go_wp2_with fail; clear c0 c1)
                | (refine (HC2.out _).mono ?_; rintro e w2 ⟨rfl, h2⟩; replace HB := hid (HB.out.trans (h2.mono HB.out.size)); replace HKB := hid ((h2.block R (lt_of_heap HKB.out)).trans HKB.out); clear h2; have c0 := cell_of_blk HKB.out 0; have c1 := cell_of_blk HKB.out 1; go_wp2_with fail; clear c0 c1)
                | (refine (HC3.out _).mono ?_; rintro e w2 ⟨rfl, rfl⟩; have c0 := cell_of_blk HKB.out 0; have c1 := cell_of_blk HKB.out 1; go_wp2_with fail; clear c0 c1)
                | (refine (HC4.out _).mono ?_; rintro e w2 ⟨rfl, rfl⟩; have c0 := cell_of_blk HKB.out 0; have c1 := cell_of_blk HKB.out 1; go_wp2_with fail; clear c0 c1))
              go_roundw
              case rel => exact ⟨k + 1, true, true, false, by omega, by go_num, rfl, rfl, by first | rfl | (show Value.bool (z.k != 1) = _; rw [bne, h4]; rfl), hid HE.out, HB⟩
              case measure => simp [intOf]; omega
            · repeat (first
                | (refine (HC1.out _).mono ?_; rintro e w2 ⟨rfl, h2⟩; replace HB := hid (HB.out.trans (h2.mono HB.out.size)); replace HKB := hid ((h2.block R (lt_of_heap HKB.out)).trans HKB.out); clear h2; have c0 := cell_of_blk HKB.out 0; have c1 := cell_of_blk HKB.out 1; go_wp2_with fail; clear c0 c1)
                | (refine (HC2.out _).mono ?_; rintro e w2 ⟨rfl, h2⟩; replace HB := hid (HB.out.trans (h2.mono HB.out.size)); replace HKB := hid ((h2.block R (lt_of_heap HKB.out)).trans HKB.out); clear h2; have c0 := cell_of_blk HKB.out 0; have c1 := cell_of_blk HKB.out 1; go_wp2_with fail; clear c0 c1)
                | (refine (HC3.out _).mono ?_; rintro e w2 ⟨rfl, rfl⟩; have c0 := cell_of_blk HKB.out 0; have c1 := cell_of_blk HKB.out 1; go_wp2_with fail; clear c0 c1)
                | (refine (HC4.out _).mono ?_; rintro e w2 ⟨rfl, rfl⟩; have c0 := cell_of_blk HKB.out 0; have c1 := cell_of_blk HKB.out 1; go_wp2_with fail; clear c0 c1))
              go_roundw
              case rel => exact ⟨k + 1, true, true, true, by omega, by go_num, rfl, rfl, by first | rfl | (show Value.bool (z.k != 1) = _; rw [bne, h4]; rfl), hid HE.out, HB⟩
              case measure => simp [intOf]; omega
            · repeat (first
                | (refine (HC1.out _).mono ?_; rintro e w2 ⟨rfl, h2⟩; replace HB := hid (HB.out.trans (h2.mono HB.out.size)); replace HKB := hid ((h2.block R (lt_of_heap HKB.out)).trans HKB.out); clear h2; have c0 := cell_of_blk HKB.out 0; have c1 := cell_of_blk HKB.out 1; go_wp2_with fail; clear c0 c1)
                | (refine (HC2.out _).mono ?_; rintro e w2 ⟨rfl, h2⟩; replace HB := hid (HB.out.trans (h2.mono HB.out.size)); replace HKB := hid ((h2.block R (lt_of_heap HKB.out)).trans HKB.out); clear h2; have c0 := cell_of_blk HKB.out 0; have c1 := cell_of_blk HKB.out 1; go_wp2_with fail; clear c0 c1)
                | (refine (HC3.out _).mono ?_; rintro e w2 ⟨rfl, rfl⟩; have c0 := cell_of_blk HKB.out 0; have c1 := cell_of_blk HKB.out 1; go_wp2_with fail; clear c0 c1)
                | (refine (HC4.out _).mono ?_; rintro e w2 ⟨rfl, rfl⟩; have c0 := cell_of_blk HKB.out 0; have c1 := cell_of_blk HKB.out 1; go_wp2_with fail; clear c0 c1))
              go_roundw
              case rel => exact ⟨k + 1, false, false, false, by omega, by go_num, rfl, rfl, by first | rfl | (show Value.bool (z.k != 1) = _; rw [bne, h4]; rfl), hid HE.out, HB⟩
              case measure => simp [intOf]; omega
            · repeat (first
                | (refine (HC1.out _).mono ?_; rintro e w2 ⟨rfl, h2⟩; replace HB := hid (HB.out.trans (h2.mono HB.out.size)); replace HKB := hid ((h2.block R (lt_of_heap HKB.out)).trans HKB.out); clear h2; have c0 := cell_of_blk HKB.out 0; have c1 := cell_of_blk HKB.out 1; go_wp2_with fail; clear c0 c1)
                | (refine (HC2.out _).mono ?_; rintro e w2 ⟨rfl, h2⟩; replace HB := hid (HB.out.trans (h2.mono HB.out.size)); replace HKB := hid ((h2.block R (lt_of_heap HKB.out)).trans HKB.out); clear h2; have c0 := cell_of_blk HKB.out 0; have c1 := cell_of_blk HKB.out 1; go_wp2_with fail; clear c0 c1)
                | (refine (HC3.out _).mono ?_; rintro e w2 ⟨rfl, rfl⟩; have c0 := cell_of_blk HKB.out 0; have c1 := cell_of_blk HKB.out 1; go_wp2_with fail; clear c0 c1)
                | (refine (HC4.out _).mono ?_; rintro e w2 ⟨rfl, rfl⟩; have c0 := cell_of_blk HKB.out 0; have c1 := cell_of_blk HKB.out 1; go_wp2_with fail; clear c0 c1))
              go_roundw
              case rel => exact ⟨k + 1, false, false, true, by omega, by go_num, rfl, rfl, by first | rfl | (show Value.bool (z.k != 1) = _; rw [bne, h4]; rfl), hid HE.out, HB⟩
              case measure => simp [intOf]; omega
          · repeat (first
              | (refine (HC1.out _).mono ?_; rintro e w2 ⟨rfl, h2⟩; replace HB := hid (HB.out.trans (h2.mono HB.out.size)); replace HKB := hid ((h2.block R (lt_of_heap HKB.out)).trans HKB.out); clear h2; have c0 := cell_of_blk HKB.out 0; have c1 := cell_of_blk HKB.out 1; go_wp2_with fail; clear c0 c1)
              | (refine (HC2.out _).mono ?_; rintro e w2 ⟨rfl, h2⟩; replace HB := hid (HB.out.trans (h2.mono HB.out.size)); replace HKB := hid ((h2.block R (lt_of_heap HKB.out)).trans HKB.out); clear h2; have c0 := cell_of_blk HKB.out 0; have c1 := cell_of_blk HKB.out 1; go_wp2_with fail; clear c0 c1)
              | (refine (HC3.out _).mono ?_; rintro e w2 ⟨rfl, rfl⟩; have c0 := cell_of_blk HKB.out 0; have c1 := cell_of_blk HKB.out 1; go_wp2_with fail; clear c0 c1)
              | (refine (HC4.out _).mono ?_; rintro e w2 ⟨rfl, rfl⟩; have c0 := cell_of_blk HKB.out 0; have c1 := cell_of_blk HKB.out 1; go_wp2_with fail; clear c0 c1))
            go_ret
            exact ⟨by rw [HE.out]; rfl, HB.out⟩
          · repeat (first
              | (refine (HC1.out _).mono ?_; rintro e w2 ⟨rfl, h2⟩; replace HB := hid (HB.out.trans (h2.mono HB.out.size)); replace HKB := hid ((h2.block R (lt_of_heap HKB.out)).trans HKB.out); clear h2; have c0 := cell_of_blk HKB.out 0; have c1 := cell_of_blk HKB.out 1; go_wp2_with fail; clear c0 c1)
              | (refine (HC2.out _).mono ?_; rintro e w2 ⟨rfl, h2⟩; replace HB := hid (HB.out.trans (h2.mono HB.out.size)); replace HKB := hid ((h2.block R (lt_of_heap HKB.out)).trans HKB.out); clear h2; have c0 := cell_of_blk HKB.out 0; have c1 := cell_of_blk HKB.out 1; go_wp2_with fail; clear c0 c1)
              | (refine (HC3.out _).mono ?_; rintro e w2 ⟨rfl, rfl⟩; have c0 := cell_of_blk HKB.out 0; have c1 := cell_of_blk HKB.out 1; go_wp2_with fail; clear c0 c1)
              | (refine (HC4.out _).mono ?_; rintro e w2 ⟨rfl, rfl⟩; have c0 := cell_of_blk HKB.out 0; have c1 := cell_of_blk HKB.out 1; go_wp2_with fail; clear c0 c1))
            go_ret
            exact ⟨by rw [HE.out]; rfl, HB.out⟩
          · repeat (first
              | (refine (HC1.out _).mono ?_; rintro e w2 ⟨rfl, h2⟩; replace HB := hid (HB.out.trans (h2.mono HB.out.size)); replace HKB := hid ((h2.block R (lt_of_heap HKB.out)).trans HKB.out); clear h2; have c0 := cell_of_blk HKB.out 0; have c1 := cell_of_blk HKB.out 1; go_wp2_with fail; clear c0 c1)
              | (refine (HC2.out _).mono ?_; rintro e w2 ⟨rfl, h2⟩; replace HB := hid (HB.out.trans (h2.mono HB.out.size)); replace HKB := hid ((h2.block R (lt_of_heap HKB.out)).trans HKB.out); clear h2; have c0 := cell_of_blk HKB.out 0; have c1 := cell_of_blk HKB.out 1; go_wp2_with fail; clear c0 c1)
              | (refine (HC3.out _).mono ?_; rintro e w2 ⟨rfl, rfl⟩; have c0 := cell_of_blk HKB.out 0; have c1 := cell_of_blk HKB.out 1; go_wp2_with fail; clear c0 c1)
              | (refine (HC4.out _).mono ?_; rintro e w2 ⟨rfl, rfl⟩; have c0 := cell_of_blk HKB.out 0; have c1 := cell_of_blk HKB.out 1; go_wp2_with fail; clear c0 c1))
            go_ret
            exact ⟨by rw [HE.out]; rfl, HB.out⟩
      · cases qt
        · clear HC4
          repeat (first
            | (refine (HC1.out _).mono ?_; rintro e w2 ⟨rfl, h2⟩; replace HB := hid (HB.out.trans (h2.mono HB.out.size)); replace HKB := hid ((h2.block R (lt_of_heap HKB.out)).trans HKB.out); clear h2; have c0 := cell_of_blk HKB.out 0; have c1 := cell_of_blk HKB.out 1; go_wp2_with fail; clear c0 c1)
            | (refine (HC2.out _).mono ?_; rintro e w2 ⟨rfl, h2⟩; replace HB := hid (HB.out.trans (h2.mono HB.out.size)); replace HKB := hid ((h2.block R (lt_of_heap HKB.out)).trans HKB.out); clear h2; have c0 := cell_of_blk HKB.out 0; have c1 := cell_of_blk HKB.out 1; go_wp2_with fail; clear c0 c1)
            | (refine (HC3.out _).mono ?_; rintro e w2 ⟨rfl, rfl⟩; have c0 := cell_of_blk HKB.out 0; have c1 := cell_of_blk HKB.out 1; go_wp2_with fail; clear c0 c1)
            | (refine (HC4.out _).mono ?_; rintro e w2 ⟨rfl, rfl⟩; have c0 := cell_of_blk HKB.out 0; have c1 := cell_of_blk HKB.out 1; go_wp2_with fail; clear c0 c1))
          go_ret
          exact ⟨by rw [HE.out]; rfl, HB.out⟩
        · cases en <;> cases ov
          · cases qw <;> cases ch
            · repeat (first
                | (refine (HC1.out _).mono ?_; rintro e w2 ⟨rfl, h2⟩; replace HB := hid (HB.out.trans (h2.mono HB.out.size)); replace HKB := hid ((h2.block R (lt_of_heap HKB.out)).trans HKB.out); clear h2; have c0 := cell_of_blk HKB.out 0; have c1 := cell_of_blk HKB.out 1; go_wp2_with fail; clear c0 c1)
                | (refine (HC2.out _).mono ?_; rintro e w2 ⟨rfl, h2⟩; replace HB := hid (HB.out.trans (h2.mono HB.out.size)); replace HKB := hid ((h2.block R (lt_of_heap HKB.out)).trans HKB.out); clear h2; have c0 := cell_of_blk HKB.out 0; have c1 := cell_of_blk HKB.out 1; go_wp2_with fail; clear c0 c1)
                | (refine (HC3.out _).mono ?_; rintro e w2 ⟨rfl, rfl⟩; have c0 := cell_of_blk HKB.out 0; have c1 := cell_of_blk HKB.out 1; go_wp2_with fail; clear c0 c1)
                | (refine (HC4.out _).mono ?_; rintro e w2 ⟨rfl, rfl⟩; have c0 := cell_of_blk HKB.out 0; have c1 := cell_of_blk HKB.out 1; go_wp2_with fail; clear c0 c1))
              go_roundw
              case rel => exact ⟨k + 1, true, false, true, by omega, by go_num, rfl, rfl, by first | rfl | (show Value.bool (z.k != 1) = _; rw [bne, h4]; rfl), hid HE.out, HB⟩
              case measure => simp [intOf]; omega
            · repeat (first
                | (refine (HC1.out _).mono ?_; rintro e w2 ⟨rfl, h2⟩; replace HB := hid (HB.out.trans (h2.mono HB.out.size)); replace HKB := hid ((h2.block R (lt_of_heap HKB.out)).trans HKB.out); clear h2; have c0 := cell_of_blk HKB.out 0; have c1 := cell_of_blk HKB.out 1; go_wp2_with fail; clear c0 c1)
                | (refine (HC2.out _).mono ?_; rintro e w2 ⟨rfl, h2⟩; replace HB := hid (HB.out.trans (h2.mono HB.out.size)); replace HKB := hid ((h2.block R (lt_of_heap HKB.out)).trans HKB.out); clear h2; have c0 := cell_of_blk HKB.out 0; have c1 := cell_of_blk HKB.out 1; go_wp2_with fail; clear c0 c1)
                | (refine (HC3.out _).mono ?_; rintro e w2 ⟨rfl, rfl⟩; have c0 := cell_of_blk HKB.out 0; have c1 := cell_of_blk HKB.out 1; go_wp2_with fail; clear c0 c1)
                | (refine (HC4.out _).mono ?_; rintro e w2 ⟨rfl, rfl⟩; have c0 := cell_of_blk HKB.out 0; have c1 := cell_of_blk HKB.out 1; go_wp2_with fail; clear c0 c1))
              go_roundw
              case rel => exact ⟨k + 1, true, false, true, by omega, by go_num, rfl, rfl, by first | rfl | (show Value.bool (z.k != 1) = _; rw [bne, h4]; rfl), hid HE.out, HB⟩
              case measure => simp [intOf]; omega
            · repeat (first
                | (refine (HC1.out _).mono ?_; rintro e w2 ⟨rfl, h2⟩; replace HB := hid (HB.out.trans (h2.mono HB.out.size)); replace HKB := hid ((h2.block R (lt_of_heap HKB.out)).trans HKB.out); clear h2; have c0 := cell_of_blk HKB.out 0; have c1 := cell_of_blk HKB.out 1; go_wp2_with fail; clear c0 c1)
                | (refine (HC2.out _).mono ?_; rintro e w2 ⟨rfl, h2⟩; replace HB := hid (HB.out.trans (h2.mono HB.out.size)); replace HKB := hid ((h2.block R (lt_of_heap HKB.out)).trans HKB.out); clear h2; have c0 := cell_of_blk HKB.out 0; have c1 := cell_of_blk HKB.out 1; go_wp2_with fail; clear c0 c1)
                | (refine (HC3.out _).mono ?_; rintro e w2 ⟨rfl, rfl⟩; have c0 := cell_of_blk HKB.out 0; have c1 := cell_of_blk HKB.out 1; go_wp2_with fail; clear c0 c1)
                | (refine (HC4.out _).mono ?_; rintro e w2 ⟨rfl, rfl⟩; have c0 := cell_of_blk HKB.out 0; have c1 := cell_of_blk HKB.out 1; go_wp2_with fail; clear c0 c1))
              go_roundw
              case rel => exact ⟨k + 1, false, false, true, by omega, by go_num, rfl, rfl, by first | rfl | (show Value.bool (z.k != 1) = _; rw [bne, h4]; rfl), hid HE.out, HB⟩
              case measure => simp [intOf]; omega
            · repeat (first
                | (refine (HC1.out _).mono ?_; rintro e w2 ⟨rfl, h2⟩; replace HB := hid (HB.out.trans (h2.mono HB.out.size)); replace HKB := hid ((h2.block R (lt_of_heap HKB.out)).trans HKB.out); clear h2; have c0 := cell_of_blk HKB.out 0; have c1 := cell_of_blk HKB.out 1; go_wp2_with fail; clear c0 c1)
                | (refine (HC2.out _).mono ?_; rintro e w2 ⟨rfl, h2⟩; replace HB := hid (HB.out.trans (h2.mono HB.out.size)); replace HKB := hid ((h2.block R (lt_of_heap HKB.out)).trans HKB.out); clear h2; have c0 := cell_of_blk HKB.out 0; have c1 := cell_of_blk HKB.out 1; go_wp2_with fail; clear c0 c1)
                | (refine (HC3.out _).mono ?_; rintro e w2 ⟨rfl, rfl⟩; have c0 := cell_of_blk HKB.out 0; have c1 := cell_of_blk HKB.out 1; go_wp2_with fail; clear c0 c1)
                | (refine (HC4.out _).mono ?_; rintro e w2 ⟨rfl, rfl⟩; have c0 := cell_of_blk HKB.out 0; have c1 := cell_of_blk HKB.out 1; go_wp2_with fail; clear c0 c1))
              go_roundw
              case rel => exact ⟨k + 1, false, false, true, by omega, by go_num, rfl, rfl, by first | rfl | (show Value.bool (z.k != 1) = _; rw [bne, h4]; rfl), hid HE.out, HB⟩
              case measure => simp [intOf]; omega
          · cases qw <;> cases ch
            · repeat (first
                | (refine (HC1.out _).mono ?_; rintro e w2 ⟨rfl, h2⟩; replace HB := hid (HB.out.trans (h2.mono HB.out.size)); replace HKB := hid ((h2.block R (lt_of_heap HKB.out)).trans HKB.out); clear h2; have c0 := cell_of_blk HKB.out 0; have c1 := cell_of_blk HKB.out 1; go_wp2_with fail; clear c0 c1)
                | (refine (HC2.out _).mono ?_; rintro e w2 ⟨rfl, h2⟩; replace HB := hid (HB.out.trans (h2.mono HB.out.size)); replace HKB := hid ((h2.block R (lt_of_heap HKB.out)).trans HKB.out); clear h2; have c0 := cell_of_blk HKB.out 0; have c1 := cell_of_blk HKB.out 1; go_wp2_with fail; clear c0 c1)
                | (refine (HC3.out _).mono ?_; rintro e w2 ⟨rfl, rfl⟩; have c0 := cell_of_blk HKB.out 0; have c1 := cell_of_blk HKB.out 1; go_wp2_with fail; clear c0 c1)
                | (refine (HC4.out _).mono ?_; rintro e w2 ⟨rfl, rfl⟩; have c0 := cell_of_blk HKB.out 0; have c1 := cell_of_blk HKB.out 1; go_wp2_with fail; clear c0 c1))
              go_roundw
              case rel => exact ⟨k + 1, true, true, true, by omega, by go_num, rfl, rfl, by first | rfl | (show Value.bool (z.k != 1) = _; rw [bne, h4]; rfl), hid HE.out, HB⟩
              case measure => simp [intOf]; omega
            · repeat (first
                | (refine (HC1.out _).mono ?_; rintro e w2 ⟨rfl, h2⟩; replace HB := hid (HB.out.trans (h2.mono HB.out.size)); replace HKB := hid ((h2.block R (lt_of_heap HKB.out)).trans HKB.out); clear h2; have c0 := cell_of_blk HKB.out 0; have c1 := cell_of_blk HKB.out 1; go_wp2_with fail; clear c0 c1)
                | (refine (HC2.out _).mono ?_; rintro e w2 ⟨rfl, h2⟩; replace HB := hid (HB.out.trans (h2.mono HB.out.size)); replace HKB := hid ((h2.block R (lt_of_heap HKB.out)).trans HKB.out); clear h2; have c0 := cell_of_blk HKB.out 0; have c1 := cell_of_blk HKB.out 1; go_wp2_with fail; clear c0 c1)
                | (refine (HC3.out _).mono ?_; rintro e w2 ⟨rfl, rfl⟩; have c0 := cell_of_blk HKB.out 0; have c1 := cell_of_blk HKB.out 1; go_wp2_with fail; clear c0 c1)
                | (refine (HC4.out _).mono ?_; rintro e w2 ⟨rfl, rfl⟩; have c0 := cell_of_blk HKB.out 0; have c1 := cell_of_blk HKB.out 1; go_wp2_with fail; clear c0 c1))
              go_roundw
              case rel => exact ⟨k + 1, true, true, true, by omega, by go_num, rfl, rfl, by first | rfl | (show Value.bool (z.k != 1) = _; rw [bne, h4]; rfl), hid HE.out, HB⟩
              case measure => simp [intOf]; omega
            · repeat (first
                | (refine (HC1.out _).mono ?_; rintro e w2 ⟨rfl, h2⟩; replace HB := hid (HB.out.trans (h2.mono HB.out.size)); replace HKB := hid ((h2.block R (lt_of_heap HKB.out)).trans HKB.out); clear h2; have c0 := cell_of_blk HKB.out 0; have c1 := cell_of_blk HKB.out 1; go_wp2_with fail; clear c0 c1)
                | (refine (HC2.out _).mono ?_; rintro e w2 ⟨rfl, h2⟩; replace HB := hid (HB.out.trans (h2.mono HB.out.size)); replace HKB := hid ((h2.block R (lt_of_heap HKB.out)).trans HKB.out); clear h2; have c0 := cell_of_blk HKB.out 0; have c1 := cell_of_blk HKB.out 1; go_wp2_with fail; clear c0 c1)
                | (refine (HC3.out _).mono ?_; rintro e w2 ⟨rfl, rfl⟩; have c0 := cell_of_blk HKB.out 0; have c1 := cell_of_blk HKB.out 1; go_wp2_with fail; clear c0 c1)
                | (refine (HC4.out _).mono ?_; rintro e w2 ⟨rfl, rfl⟩; have c0 := cell_of_blk HKB.out 0; have c1 := cell_of_blk HKB.out 1; go_wp2_with fail; clear c0 c1))
              go_roundw
              case rel => exact ⟨k + 1, false, true, true, by omega, by go_num, rfl, rfl, by first | rfl | (show Value.bool (z.k != 1) = _; rw [bne, h4]; rfl), hid HE.out, HB⟩
              case measure => simp [intOf]; omega
            · repeat (first
                | (refine (HC1.out _).mono ?_; rintro e w2 ⟨rfl, h2⟩; replace HB := hid (HB.out.trans (h2.mono HB.out.size)); replace HKB := hid ((h2.block R (lt_of_heap HKB.out)).trans HKB.out); clear h2; have c0 := cell_of_blk HKB.out 0; have c1 := cell_of_blk HKB.out 1; go_wp2_with fail; clear c0 c1)
                | (refine (HC2.out _).mono ?_; rintro e w2 ⟨rfl, h2⟩; replace HB := hid (HB.out.trans (h2.mono HB.out.size)); replace HKB := hid ((h2.block R (lt_of_heap HKB.out)).trans HKB.out); clear h2; have c0 := cell_of_blk HKB.out 0; have c1 := cell_of_blk HKB.out 1; go_wp2_with fail; clear c0 c1)
                | (refine (HC3.out _).mono ?_; rintro e w2 ⟨rfl, rfl⟩; have c0 := cell_of_blk HKB.out 0; have c1 := cell_of_blk HKB.out 1; go_wp2_with fail; clear c0 c1)
                | (refine (HC4.out _).mono ?_; rintro e w2 ⟨rfl, rfl⟩; have c0 := cell_of_blk HKB.out 0; have c1 := cell_of_blk HKB.out 1; go_wp2_with fail; clear c0 c1))
              go_roundw
              case rel => exact ⟨k + 1, false, true, true, by omega, by go_num, rfl, rfl, by first | rfl | (show Value.bool (z.k != 1) = _; rw [bne, h4]; rfl), hid HE.out, HB⟩
              case measure => simp [intOf]; omega
          · repeat (first
              | (refine (HC1.out _).mono ?_; rintro e w2 ⟨rfl, h2⟩; replace HB := hid (HB.out.trans (h2.mono HB.out.size)); replace HKB := hid ((h2.block R (lt_of_heap HKB.out)).trans HKB.out); clear h2; have c0 := cell_of_blk HKB.out 0; have c1 := cell_of_blk HKB.out 1; go_wp2_with fail; clear c0 c1)
              | (refine (HC2.out _).mono ?_; rintro e w2 ⟨rfl, h2⟩; replace HB := hid (HB.out.trans (h2.mono HB.out.size)); replace HKB := hid ((h2.block R (lt_of_heap HKB.out)).trans HKB.out); clear h2; have c0 := cell_of_blk HKB.out 0; have c1 := cell_of_blk HKB.out 1; go_wp2_with fail; clear c0 c1)
              | (refine (HC3.out _).mono ?_; rintro e w2 ⟨rfl, rfl⟩; have c0 := cell_of_blk HKB.out 0; have c1 := cell_of_blk HKB.out 1; go_wp2_with fail; clear c0 c1)
              | (refine (HC4.out _).mono ?_; rintro e w2 ⟨rfl, rfl⟩; have c0 := cell_of_blk HKB.out 0; have c1 := cell_of_blk HKB.out 1; go_wp2_with fail; clear c0 c1))
            go_ret
            exact ⟨by rw [HE.out]; rfl, HB.out⟩
          · repeat (first
              | (refine (HC1.out _).mono ?_; rintro e w2 ⟨rfl, h2⟩; replace HB := hid (HB.out.trans (h2.mono HB.out.size)); replace HKB := hid ((h2.block R (lt_of_heap HKB.out)).trans HKB.out); clear h2; have c0 := cell_of_blk HKB.out 0; have c1 := cell_of_blk HKB.out 1; go_wp2_with fail; clear c0 c1)
              | (refine (HC2.out _).mono ?_; rintro e w2 ⟨rfl, h2⟩; replace HB := hid (HB.out.trans (h2.mono HB.out.size)); replace HKB := hid ((h2.block R (lt_of_heap HKB.out)).trans HKB.out); clear h2; have c0 := cell_of_blk HKB.out 0; have c1 := cell_of_blk HKB.out 1; go_wp2_with fail; clear c0 c1)
              | (refine (HC3.out _).mono ?_; rintro e w2 ⟨rfl, rfl⟩; have c0 := cell_of_blk HKB.out 0; have c1 := cell_of_blk HKB.out 1; go_wp2_with fail; clear c0 c1)
              | (refine (HC4.out _).mono ?_; rintro e w2 ⟨rfl, rfl⟩; have c0 := cell_of_blk HKB.out 0; have c1 := cell_of_blk HKB.out 1; go_wp2_with fail; clear c0 c1))
            go_ret
            exact ⟨by rw [HE.out]; rfl, HB.out⟩
      · cases qt
        · clear HC4
          repeat (first
            | (refine (HC1.out _).mono ?_; rintro e w2 ⟨rfl, h2⟩; replace HB := hid (HB.out.trans (h2.mono HB.out.size)); replace HKB := hid ((h2.block R (lt_of_heap HKB.out)).trans HKB.out); clear h2; have c0 := cell_of_blk HKB.out 0; have c1 := cell_of_blk HKB.out 1; go_wp2_with fail; clear c0 c1)
            | (refine (HC2.out _).mono ?_; rintro e w2 ⟨rfl, h2⟩; replace HB := hid (HB.out.trans (h2.mono HB.out.size)); replace HKB := hid ((h2.block R (lt_of_heap HKB.out)).trans HKB.out); clear h2; have c0 := cell_of_blk HKB.out 0; have c1 := cell_of_blk HKB.out 1; go_wp2_with fail; clear c0 c1)
            | (refine (HC3.out _).mono ?_; rintro e w2 ⟨rfl, rfl⟩; have c0 := cell_of_blk HKB.out 0; have c1 := cell_of_blk HKB.out 1; go_wp2_with fail; clear c0 c1)
            | (refine (HC4.out _).mono ?_; rintro e w2 ⟨rfl, rfl⟩; have c0 := cell_of_blk HKB.out 0; have c1 := cell_of_blk HKB.out 1; go_wp2_with fail; clear c0 c1))
          go_ret
          exact ⟨by rw [HE.out]; rfl, HB.out⟩
        · cases en <;> cases ov
          · cases qw <;> cases ch
            · repeat (first
                | (refine (HC1.out _).mono ?_; rintro e w2 ⟨rfl, h2⟩; replace HB := hid (HB.out.trans (h2.mono HB.out.size)); replace HKB := hid ((h2.block R (lt_of_heap HKB.out)).trans HKB.out); clear h2; have c0 := cell_of_blk HKB.out 0; have c1 := cell_of_blk HKB.out 1; go_wp2_with fail; clear c0 c1)
                | (refine (HC2.out _).mono ?_; rintro e w2 ⟨rfl, h2⟩; replace HB := hid (HB.out.trans (h2.mono HB.out.size)); replace HKB := hid ((h2.block R (lt_of_heap HKB.out)).trans HKB.out); clear h2; have c0 := cell_of_blk HKB.out 0; have c1 := cell_of_blk HKB.out 1; go_wp2_with fail; clear c0 c1)
                | (refine (HC3.out _).mono ?_; rintro e w2 ⟨rfl, rfl⟩; have c0 := cell_of_blk HKB.out 0; have c1 := cell_of_blk HKB.out 1; go_wp2_with fail; clear c0 c1)
                | (refine (HC4.out _).mono ?_; rintro e w2 ⟨rfl, rfl⟩; have c0 := cell_of_blk HKB.out 0; have c1 := cell_of_blk HKB.out 1; go_wp2_with fail; clear c0 c1))
              go_roundw
              case rel => exact ⟨k + 1, false, true, true, by omega, by go_num, rfl, rfl, by first | rfl | (show Value.bool (z.k != 1) = _; rw [bne, h4]; rfl), hid HE.out, HB⟩
              case measure => simp [intOf]; omega
            · repeat (first
                | (refine (HC1.out _).mono ?_; rintro e w2 ⟨rfl, h2⟩; replace HB := hid (HB.out.trans (h2.mono HB.out.size)); replace HKB := hid ((h2.block R (lt_of_heap HKB.out)).trans HKB.out); clear h2; have c0 := cell_of_blk HKB.out 0; have c1 := cell_of_blk HKB.out 1; go_wp2_with fail; clear c0 c1)
                | (refine (HC2.out _).mono ?_; rintro e w2 ⟨rfl, h2⟩; replace HB := hid (HB.out.trans (h2.mono HB.out.size)); replace HKB := hid ((h2.block R (lt_of_heap HKB.out)).trans HKB.out); clear h2; have c0 := cell_of_blk HKB.out 0; have c1 := cell_of_blk HKB.out 1; go_wp2_with fail; clear c0 c1)
                | (refine (HC3.out _).mono ?_; rintro e w2 ⟨rfl, rfl⟩; have c0 := cell_of_blk HKB.out 0; have c1 := cell_of_blk HKB.out 1; go_wp2_with fail; clear c0 c1)
                | (refine (HC4.out _).mono ?_; rintro e w2 ⟨rfl, rfl⟩; have c0 := cell_of_blk HKB.out 0; have c1 := cell_of_blk HKB.out 1; go_wp2_with fail; clear c0 c1))
              go_roundw
              case rel => exact ⟨k + 1, false, true, true, by omega, by go_num, rfl, rfl, by first | rfl | (show Value.bool (z.k != 1) = _; rw [bne, h4]; rfl), hid HE.out, HB⟩
              case measure => simp [intOf]; omega
            · repeat (first
                | (refine (HC1.out _).mono ?_; rintro e w2 ⟨rfl, h2⟩; replace HB := hid (HB.out.trans (h2.mono HB.out.size)); replace HKB := hid ((h2.block R (lt_of_heap HKB.out)).trans HKB.out); clear h2; have c0 := cell_of_blk HKB.out 0; have c1 := cell_of_blk HKB.out 1; go_wp2_with fail; clear c0 c1)
                | (refine (HC2.out _).mono ?_; rintro e w2 ⟨rfl, h2⟩; replace HB := hid (HB.out.trans (h2.mono HB.out.size)); replace HKB := hid ((h2.block R (lt_of_heap HKB.out)).trans HKB.out); clear h2; have c0 := cell_of_blk HKB.out 0; have c1 := cell_of_blk HKB.out 1; go_wp2_with fail; clear c0 c1)
                | (refine (HC3.out _).mono ?_; rintro e w2 ⟨rfl, rfl⟩; have c0 := cell_of_blk HKB.out 0; have c1 := cell_of_blk HKB.out 1; go_wp2_with fail; clear c0 c1)
                | (refine (HC4.out _).mono ?_; rintro e w2 ⟨rfl, rfl⟩; have c0 := cell_of_blk HKB.out 0; have c1 := cell_of_blk HKB.out 1; go_wp2_with fail; clear c0 c1))
              go_roundw
              case rel => exact ⟨k + 1, false, false, true, by omega, by go_num, rfl, rfl, by first | rfl | (show Value.bool (z.k != 1) = _; rw [bne, h4]; rfl), hid HE.out, HB⟩
              case measure => simp [intOf]; omega
            · repeat (first
                | (refine (HC1.out _).mono ?_; rintro e w2 ⟨rfl, h2⟩; replace HB := hid (HB.out.trans (h2.mono HB.out.size)); replace HKB := hid ((h2.block R (lt_of_heap HKB.out)).trans HKB.out); clear h2; have c0 := cell_of_blk HKB.out 0; have c1 := cell_of_blk HKB.out 1; go_wp2_with fail; clear c0 c1)
                | (refine (HC2.out _).mono ?_; rintro e w2 ⟨rfl, h2⟩; replace HB := hid (HB.out.trans (h2.mono HB.out.size)); replace HKB := hid ((h2.block R (lt_of_heap HKB.out)).trans HKB.out); clear h2; have c0 := cell_of_blk HKB.out 0; have c1 := cell_of_blk HKB.out 1; go_wp2_with fail; clear c0 c1)
                | (refine (HC3.out _).mono ?_; rintro e w2 ⟨rfl, rfl⟩; have c0 := cell_of_blk HKB.out 0; have c1 := cell_of_blk HKB.out 1; go_wp2_with fail; clear c0 c1)
                | (refine (HC4.out _).mono ?_; rintro e w2 ⟨rfl, rfl⟩; have c0 := cell_of_blk HKB.out 0; have c1 := cell_of_blk HKB.out 1; go_wp2_with fail; clear c0 c1))
              go_roundw
              case rel => exact ⟨k + 1, false, false, true, by omega, by go_num, rfl, rfl, by first | rfl | (show Value.bool (z.k != 1) = _; rw [bne, h4]; rfl), hid HE.out, HB⟩
              case measure => simp [intOf]; omega
          · repeat (first
              | (refine (HC1.out _).mono ?_; rintro e w2 ⟨rfl, h2⟩; replace HB := hid (HB.out.trans (h2.mono HB.out.size)); replace HKB := hid ((h2.block R (lt_of_heap HKB.out)).trans HKB.out); clear h2; have c0 := cell_of_blk HKB.out 0; have c1 := cell_of_blk HKB.out 1; go_wp2_with fail; clear c0 c1)
              | (refine (HC2.out _).mono ?_; rintro e w2 ⟨rfl, h2⟩; replace HB := hid (HB.out.trans (h2.mono HB.out.size)); replace HKB := hid ((h2.block R (lt_of_heap HKB.out)).trans HKB.out); clear h2; have c0 := cell_of_blk HKB.out 0; have c1 := cell_of_blk HKB.out 1; go_wp2_with fail; clear c0 c1)
              | (refine (HC3.out _).mono ?_; rintro e w2 ⟨rfl, rfl⟩; have c0 := cell_of_blk HKB.out 0; have c1 := cell_of_blk HKB.out 1; go_wp2_with fail; clear c0 c1)
              | (refine (HC4.out _).mono ?_; rintro e w2 ⟨rfl, rfl⟩; have c0 := cell_of_blk HKB.out 0; have c1 := cell_of_blk HKB.out 1; go_wp2_with fail; clear c0 c1))
            go_ret
            exact ⟨by rw [HE.out]; rfl, HB.out⟩
          · cases qw <;> cases ch
            · repeat (first
                | (refine (HC1.out _).mono ?_; rintro e w2 ⟨rfl, h2⟩; replace HB := hid (HB.out.trans (h2.mono HB.out.size)); replace HKB := hid ((h2.block R (lt_of_heap HKB.out)).trans HKB.out); clear h2; have c0 := cell_of_blk HKB.out 0; have c1 := cell_of_blk HKB.out 1; go_wp2_with fail; clear c0 c1)
                | (refine (HC2.out _).mono ?_; rintro e w2 ⟨rfl, h2⟩; replace HB := hid (HB.out.trans (h2.mono HB.out.size)); replace HKB := hid ((h2.block R (lt_of_heap HKB.out)).trans HKB.out); clear h2; have c0 := cell_of_blk HKB.out 0; have c1 := cell_of_blk HKB.out 1; go_wp2_with fail; clear c0 c1)
                | (refine (HC3.out _).mono ?_; rintro e w2 ⟨rfl, rfl⟩; have c0 := cell_of_blk HKB.out 0; have c1 := cell_of_blk HKB.out 1; go_wp2_with fail; clear c0 c1)
                | (refine (HC4.out _).mono ?_; rintro e w2 ⟨rfl, rfl⟩; have c0 := cell_of_blk HKB.out 0; have c1 := cell_of_blk HKB.out 1; go_wp2_with fail; clear c0 c1))
              go_roundw
              case rel => exact ⟨k + 1, true, true, true, by omega, by go_num, rfl, rfl, by first | rfl | (show Value.bool (z.k != 1) = _; rw [bne, h4]; rfl), hid HE.out, HB⟩
              case measure => simp [intOf]; omega
            · repeat (first
                | (refine (HC1.out _).mono ?_; rintro e w2 ⟨rfl, h2⟩; replace HB := hid (HB.out.trans (h2.mono HB.out.size)); replace HKB := hid ((h2.block R (lt_of_heap HKB.out)).trans HKB.out); clear h2; have c0 := cell_of_blk HKB.out 0; have c1 := cell_of_blk HKB.out 1; go_wp2_with fail; clear c0 c1)
                | (refine (HC2.out _).mono ?_; rintro e w2 ⟨rfl, h2⟩; replace HB := hid (HB.out.trans (h2.mono HB.out.size)); replace HKB := hid ((h2.block R (lt_of_heap HKB.out)).trans HKB.out); clear h2; have c0 := cell_of_blk HKB.out 0; have c1 := cell_of_blk HKB.out 1; go_wp2_with fail; clear c0 c1)
                | (refine (HC3.out _).mono ?_; rintro e w2 ⟨rfl, rfl⟩; have c0 := cell_of_blk HKB.out 0; have c1 := cell_of_blk HKB.out 1; go_wp2_with fail; clear c0 c1)
                | (refine (HC4.out _).mono ?_; rintro e w2 ⟨rfl, rfl⟩; have c0 := cell_of_blk HKB.out 0; have c1 := cell_of_blk HKB.out 1; go_wp2_with fail; clear c0 c1))
              go_roundw
              case rel => exact ⟨k + 1, true, true, true, by omega, by go_num, rfl, rfl, by first | rfl | (show Value.bool (z.k != 1) = _; rw [bne, h4]; rfl), hid HE.out, HB⟩
              case measure => simp [intOf]; omega
            · repeat (first
                | (refine (HC1.out _).mono ?_; rintro e w2 ⟨rfl, h2⟩; replace HB := hid (HB.out.trans (h2.mono HB.out.size)); replace HKB := hid ((h2.block R (lt_of_heap HKB.out)).trans HKB.out); clear h2; have c0 := cell_of_blk HKB.out 0; have c1 := cell_of_blk HKB.out 1; go_wp2_with fail; clear c0 c1)
                | (refine (HC2.out _).mono ?_; rintro e w2 ⟨rfl, h2⟩; replace HB := hid (HB.out.trans (h2.mono HB.out.size)); replace HKB := hid ((h2.block R (lt_of_heap HKB.out)).trans HKB.out); clear h2; have c0 := cell_of_blk HKB.out 0; have c1 := cell_of_blk HKB.out 1; go_wp2_with fail; clear c0 c1)
                | (refine (HC3.out _).mono ?_; rintro e w2 ⟨rfl, rfl⟩; have c0 := cell_of_blk HKB.out 0; have c1 := cell_of_blk HKB.out 1; go_wp2_with fail; clear c0 c1)
                | (refine (HC4.out _).mono ?_; rintro e w2 ⟨rfl, rfl⟩; have c0 := cell_of_blk HKB.out 0; have c1 := cell_of_blk HKB.out 1; go_wp2_with fail; clear c0 c1))
              go_roundw
              case rel => exact ⟨k + 1, true, false, true, by omega, by go_num, rfl, rfl, by first | rfl | (show Value.bool (z.k != 1) = _; rw [bne, h4]; rfl), hid HE.out, HB⟩
              case measure => simp [intOf]; omega
            · repeat (first
                | (refine (HC1.out _).mono ?_; rintro e w2 ⟨rfl, h2⟩; replace HB := hid (HB.out.trans (h2.mono HB.out.size)); replace HKB := hid ((h2.block R (lt_of_heap HKB.out)).trans HKB.out); clear h2; have c0 := cell_of_blk HKB.out 0; have c1 := cell_of_blk HKB.out 1; go_wp2_with fail; clear c0 c1)
                | (refine (HC2.out _).mono ?_; rintro e w2 ⟨rfl, h2⟩; replace HB := hid (HB.out.trans (h2.mono HB.out.size)); replace HKB := hid ((h2.block R (lt_of_heap HKB.out)).trans HKB.out); clear h2; have c0 := cell_of_blk HKB.out 0; have c1 := cell_of_blk HKB.out 1; go_wp2_with fail; clear c0 c1)
                | (refine (HC3.out _).mono ?_; rintro e w2 ⟨rfl, rfl⟩; have c0 := cell_of_blk HKB.out 0; have c1 := cell_of_blk HKB.out 1; go_wp2_with fail; clear c0 c1)
                | (refine (HC4.out _).mono ?_; rintro e w2 ⟨rfl, rfl⟩; have c0 := cell_of_blk HKB.out 0; have c1 := cell_of_blk HKB.out 1; go_wp2_with fail; clear c0 c1))
              go_roundw
              case rel => exact ⟨k + 1, true, false, true, by omega, by go_num, rfl, rfl, by first | rfl | (show Value.bool (z.k != 1) = _; rw [bne, h4]; rfl), hid HE.out, HB⟩
              case measure => simp [intOf]; omega
          · repeat (first
              | (refine (HC1.out _).mono ?_; rintro e w2 ⟨rfl, h2⟩; replace HB := hid (HB.out.trans (h2.mono HB.out.size)); replace HKB := hid ((h2.block R (lt_of_heap HKB.out)).trans HKB.out); clear h2; have c0 := cell_of_blk HKB.out 0; have c1 := cell_of_blk HKB.out 1; go_wp2_with fail; clear c0 c1)
              | (refine (HC2.out _).mono ?_; rintro e w2 ⟨rfl, h2⟩; replace HB := hid (HB.out.trans (h2.mono HB.out.size)); replace HKB := hid ((h2.block R (lt_of_heap HKB.out)).trans HKB.out); clear h2; have c0 := cell_of_blk HKB.out 0; have c1 := cell_of_blk HKB.out 1; go_wp2_with fail; clear c0 c1)
              | (refine (HC3.out _).mono ?_; rintro e w2 ⟨rfl, rfl⟩; have c0 := cell_of_blk HKB.out 0; have c1 := cell_of_blk HKB.out 1; go_wp2_with fail; clear c0 c1)
              | (refine (HC4.out _).mono ?_; rintro e w2 ⟨rfl, rfl⟩; have c0 := cell_of_blk HKB.out 0; have c1 := cell_of_blk HKB.out 1; go_wp2_with fail; clear c0 c1))
            go_ret
            exact ⟨by rw [HE.out]; rfl, HB.out⟩
      · clear HC3 HC4
        repeat (first
          | (refine (HC1.out _).mono ?_; rintro e w2 ⟨rfl, h2⟩; replace HB := hid (HB.out.trans (h2.mono HB.out.size)); replace HKB := hid ((h2.block R (lt_of_heap HKB.out)).trans HKB.out); clear h2; have c0 := cell_of_blk HKB.out 0; have c1 := cell_of_blk HKB.out 1; go_wp2_with fail; clear c0 c1)
          | (refine (HC2.out _).mono ?_; rintro e w2 ⟨rfl, h2⟩; replace HB := hid (HB.out.trans (h2.mono HB.out.size)); replace HKB := hid ((h2.block R (lt_of_heap HKB.out)).trans HKB.out); clear h2; have c0 := cell_of_blk HKB.out 0; have c1 := cell_of_blk HKB.out 1; go_wp2_with fail; clear c0 c1)
          | (refine (HC3.out _).mono ?_; rintro e w2 ⟨rfl, rfl⟩; have c0 := cell_of_blk HKB.out 0; have c1 := cell_of_blk HKB.out 1; go_wp2_with fail; clear c0 c1)
          | (refine (HC4.out _).mono ?_; rintro e w2 ⟨rfl, rfl⟩; have c0 := cell_of_blk HKB.out 0; have c1 := cell_of_blk HKB.out 1; go_wp2_with fail; clear c0 c1))
        go_ret
        exact ⟨by rw [HE.out]; rfl, HB.out⟩
    · obtain rfl : k = n := by omega
      have HR : Hid (Hu.rowsD l false false false = ch) := hid (by rw [HD.out, List.drop_of_length_le (by have := HN.out; omega)]; rfl)
      go_wp2_with fail
      go_ret
      exact ⟨by rw [HR.out]; rfl, HB.out⟩
end Go.Proofs.YtkolgglllladfaaGreatDoor
/-
  The document's partial.
-/
namespace Go.Proofs.YtkolgglllladfaaGreatDoor
open Go.RowKit
open Hu (Rw Hk)

theorem part_at {l : List Rw} {k : Nat} {z : Rw} (h : l[k]? = some z) (o : Rw → Bool) : Hu.part o (l.drop k) = ((!Hu.whT z.t && o z) || Hu.part o (l.drop (k + 1))) := by
  obtain ⟨hk, rfl⟩ := List.getElem?_eq_some_iff.1 h
  rw [List.drop_eq_getElem_cons hk]
  unfold Hu.part
  rw [List.any_cons]
theorem part_end {l : List Rw} {k : Nat} (h : l.length ≤ k) (o : Rw → Bool) (e : Bool) : (e || Hu.part o (l.drop k)) = e := by
  rw [List.drop_of_length_le h]
  unfold Hu.part
  simp
theorem or_step {p e a b c : Bool} (h : p = (e || a)) (h2 : a = (b || c)) : p = (e || (b || c)) := by rw [h, h2]
end Go.Proofs.YtkolgglllladfaaGreatDoor
/-
  The document's Valid (made by wip/genkd.py).
-/
namespace Go.Proofs.YtkolgglllladfaaGreatDoor
open Go.RowKit
open Hu (Rw Hk)

theorem byte_hit {s : ByteArray} {j : Nat} (hj : j < s.size) (hq : ((s[j].toNat : Int) == 10) = true) : (10 : UInt8) ∈ s.data.toList := by
  have h0 : s[j].toNat = 10 := by have := beq_iff_eq.1 hq; omega
  have h1 : s[j] = 10 := UInt8.toNat_inj.1 h0
  rw [← h1]
  exact Array.mem_toList_iff.2 (Array.getElem_mem hj)
theorem headOk_no {s : ByteArray} (h : ¬ (s.size : Int) ≤ 4096) : Hu.headOk s = false := by unfold Hu.headOk; rw [decide_eq_false (by omega)]; rfl
theorem headOk_hit {s : ByteArray} (h : (10 : UInt8) ∈ s.data.toList) : Hu.headOk s = false := by
  unfold Hu.headOk
  rw [List.contains_iff_mem.2 h]
  simp
theorem headOk_yes {s : ByteArray} (h : (s.size : Int) ≤ 4096) (h2 : (10 : UInt8) ∉ s.data.toList.take s.size) : Hu.headOk s = true := by
  rw [List.take_of_length_le (by rw [Array.length_toList]; exact Nat.le_refl _)] at h2
  unfold Hu.headOk
  rw [decide_eq_true (by omega), List.contains_eq_mem, decide_eq_false h2]
  rfl
set_option maxHeartbeats 8000000 in
set_option maxRecDepth 100000 in
theorem rValid_any {w : World} {h : Hk} {v : Value} (hv : RdW w v h.rows) (hz : SzH h) :
    Calls Tryz.prog 21 #[HkV h v] w fun e w' => e = .returned (.int .i64 (vldN h : Nat)) ∧ Below w.heap.size w w' := by
  obtain ⟨hl, hs, hh⟩ := hz
  have HCT := hid (fun w1 (hb : Below w.heap.size w w1) => rCounts_any (hv.below hb) hl)
  have HRW := hid (fun w1 (hb : Below w.heap.size w w1) => rRows_any (hv.below hb) hl hs)
  have hol : (Hu.olds h.rows).length < 8796093022200 := by have := Hu.olds_len h.rows; omega
  have hfl : (Hu.fres h.rows).length < 8796093022200 := by have := Hu.fres_len h.rows; omega
  have HS1 := hid (fun w1 => rStart_any h.a _ w1 hol)
  have HS2 := hid (fun w1 => rStart_any h.b _ w1 hfl)
  obtain ⟨N, hN⟩ : ∃ N, N = vldN h := ⟨_, rfl⟩
  rw [← hN]
  have HE : Hid (N = if (Hu.rowsD h.rows false false false && (h.n == ((Hu.olds h.rows).length : Int) && (h.m == ((Hu.fres h.rows).length : Int) && (Hu.startD h.a (Hu.olds h.rows).length && (Hu.startD h.b (Hu.fres h.rows).length && Hu.headOk h.head))))) = true then 0 else 100) := hid (by rw [hN]; unfold vldN; rw [← Hu.vld_eq]; rfl)
  clear hN
  have HV := hid hv
  obtain ⟨av, cv, rfl⟩ := hv.shape
  obtain ⟨ha, hn', hb', hm', hh', l⟩ := h
  dsimp only at HV hl HCT HRW hol hfl HS1 HS2 hh HE ⊢
  unfold HkV
  dsimp only
  obtain ⟨n, hn⟩ : ∃ n, n = l.length := ⟨_, rfl⟩
  rw [← hn] at HV HCT HRW hl ⊢
  unfold maxLen at hh
  generalize Hu.rowsD l false false false = q1 at HRW HE
  generalize Hu.startD ha (Hu.olds l).length = q4 at HS1 HE
  generalize Hu.startD hb' (Hu.fres l).length = q5 at HS2 HE
  obtain ⟨q6, hq6⟩ : ∃ q6, q6 = Hu.headOk hh' := ⟨_, rfl⟩
  have HQ6 := hid hq6
  rw [← hq6] at HE
  generalize (Hu.olds l).length = x at HCT HS1 hol HE ⊢
  generalize (Hu.fres l).length = y at HCT HS2 hfl HE ⊢
  generalize h2 : (hn' == (x : Int)) = q2 at HE
  generalize h3 : (hm' == (y : Int)) = q3 at HE
  clear hv hn hs hq6
  have HB0 := hid ((Below.refl w.heap.size w).alloc (Nat.le_refl _) (.cells #[.int .i64 ha, .int .i64 hn', .int .i64 hb', .int .i64 hm', .string hh', .slice av n cv] 37))
  have HK0 := hid (heap_alloc_new w (.cells #[.int .i64 ha, .int .i64 hn', .int .i64 hb', .int .i64 hm', .string hh', .slice av n cv] 37))
  go_enter Tryz.func21, Tryz.ntmps21
  go_wp2_with fail
  generalize w.alloc (.cells #[.int .i64 ha, .int .i64 hn', .int .i64 hb', .int .i64 hm', .string hh', .slice av n cv] 37) = w0 at HB0 HK0 ⊢
  refine (HCT.out w0 HB0.out).mono ?_
  rintro e w1 ⟨rfl, hb1⟩
  have HB1 := hid (HB0.out.trans (hb1.mono HB0.out.size))
  have HK1 := hid ((hb1.block w.heap.size (lt_of_heap HK0.out)).trans HK0.out)
  have c5 : w1.cell? ⟨w.heap.size, 5, none⟩ = some (.slice av n cv) := cell_of_blk HK1.out 5
  clear hb1 HB0 HK0
  go_wp2_with fail
  refine (HRW.out w1 HB1.out).mono ?_
  rintro e w2 ⟨rfl, hb2⟩
  have HB2 : Hid (Below w.heap.size w w2) := hid (HB1.out.trans (hb2.mono HB1.out.size))
  have HK2 := hid ((hb2.block w.heap.size (lt_of_heap HK1.out)).trans HK1.out)
  have d0 : w2.cell? ⟨w.heap.size, 0, none⟩ = some (.int .i64 ha) := cell_of_blk HK2.out 0
  have d1 : w2.cell? ⟨w.heap.size, 1, none⟩ = some (.int .i64 hn') := cell_of_blk HK2.out 1
  have d2 : w2.cell? ⟨w.heap.size, 2, none⟩ = some (.int .i64 hb') := cell_of_blk HK2.out 2
  have d3 : w2.cell? ⟨w.heap.size, 3, none⟩ = some (.int .i64 hm') := cell_of_blk HK2.out 3
  have d4 : w2.cell? ⟨w.heap.size, 4, none⟩ = some (.string hh') := cell_of_blk HK2.out 4
  clear hb2 HB1 HK1 c5 HV HCT HRW
  cases q1 with
  | false =>
    go_wp2_with fail
    go_loopw [5, 6] (fun o ii wr => ∃ j : Nat, j ≤ hh'.size ∧ ii = .int .i64 j ∧ o = .bool false ∧ wr = w2) (fun _ ii _ => hh'.size - (intOf ii).toNat)
    case atStart => exact ⟨0, Nat.zero_le _, rfl, by first | rfl | rw [decide_eq_false (by omega)], rfl⟩
    case round =>
      obtain ⟨j, hj, rfl, rfl, hw⟩ := hrel
      subst hw
      by_cases hjl : j < hh'.size
      · go_wp2_with fail
        go_roundw
        case rel => exact ⟨j + 1, by omega, by go_num, rfl, by trivial⟩
        case measure => simp [intOf]; omega
      · obtain rfl : j = hh'.size := by omega
        go_wp2_with fail
        go_ret
        exact ⟨by rw [HE.out]; rfl, HB2.out⟩
  | true =>
    cases q2 with
    | false =>
      go_wp2_with fail
      go_loopw [5, 6] (fun o ii wr => ∃ j : Nat, j ≤ hh'.size ∧ ii = .int .i64 j ∧ o = .bool false ∧ wr = w2) (fun _ ii _ => hh'.size - (intOf ii).toNat)
      case atStart => exact ⟨0, Nat.zero_le _, rfl, by first | rfl | rw [decide_eq_false (by omega)], rfl⟩
      case round =>
        obtain ⟨j, hj, rfl, rfl, hw⟩ := hrel
        subst hw
        by_cases hjl : j < hh'.size
        · go_wp2_with fail
          go_roundw
          case rel => exact ⟨j + 1, by omega, by go_num, rfl, by trivial⟩
          case measure => simp [intOf]; omega
        · obtain rfl : j = hh'.size := by omega
          go_wp2_with fail
          go_ret
          exact ⟨by rw [HE.out]; rfl, HB2.out⟩
    | true =>
      cases q3 with
      | false =>
        go_wp2_with fail
        go_loopw [5, 6] (fun o ii wr => ∃ j : Nat, j ≤ hh'.size ∧ ii = .int .i64 j ∧ o = .bool false ∧ wr = w2) (fun _ ii _ => hh'.size - (intOf ii).toNat)
        case atStart => exact ⟨0, Nat.zero_le _, rfl, by first | rfl | rw [decide_eq_false (by omega)], rfl⟩
        case round =>
          obtain ⟨j, hj, rfl, rfl, hw⟩ := hrel
          subst hw
          by_cases hjl : j < hh'.size
          · go_wp2_with fail
            go_roundw
            case rel => exact ⟨j + 1, by omega, by go_num, rfl, by trivial⟩
            case measure => simp [intOf]; omega
          · obtain rfl : j = hh'.size := by omega
            go_wp2_with fail
            go_ret
            exact ⟨by rw [HE.out]; rfl, HB2.out⟩
      | true =>
        go_wp2_with fail
        refine (HS1.out _).mono ?_
        rintro e w3 ⟨rfl, h9⟩
        rw [h9]
        clear h9 w3
        cases q4 with
        | false =>
          go_wp2_with fail
          go_loopw [5, 6] (fun o ii wr => ∃ j : Nat, j ≤ hh'.size ∧ ii = .int .i64 j ∧ o = .bool false ∧ wr = w2) (fun _ ii _ => hh'.size - (intOf ii).toNat)
          case atStart => exact ⟨0, Nat.zero_le _, rfl, by first | rfl | rw [decide_eq_false (by omega)], rfl⟩
          case round =>
            obtain ⟨j, hj, rfl, rfl, hw⟩ := hrel
            subst hw
            by_cases hjl : j < hh'.size
            · go_wp2_with fail
              go_roundw
              case rel => exact ⟨j + 1, by omega, by go_num, rfl, by trivial⟩
              case measure => simp [intOf]; omega
            · obtain rfl : j = hh'.size := by omega
              go_wp2_with fail
              go_ret
              exact ⟨by rw [HE.out]; rfl, HB2.out⟩
        | true =>
          go_wp2_with fail
          refine (HS2.out _).mono ?_
          rintro e w3 ⟨rfl, h9⟩
          rw [h9]
          clear h9 w3
          cases q5 with
          | false =>
            go_wp2_with fail
            go_loopw [5, 6] (fun o ii wr => ∃ j : Nat, j ≤ hh'.size ∧ ii = .int .i64 j ∧ o = .bool false ∧ wr = w2) (fun _ ii _ => hh'.size - (intOf ii).toNat)
            case atStart => exact ⟨0, Nat.zero_le _, rfl, by first | rfl | rw [decide_eq_false (by omega)], rfl⟩
            case round =>
              obtain ⟨j, hj, rfl, rfl, hw⟩ := hrel
              subst hw
              by_cases hjl : j < hh'.size
              · go_wp2_with fail
                go_roundw
                case rel => exact ⟨j + 1, by omega, by go_num, rfl, by trivial⟩
                case measure => simp [intOf]; omega
              · obtain rfl : j = hh'.size := by omega
                go_wp2_with fail
                go_ret
                exact ⟨by rw [HE.out]; rfl, HB2.out⟩
          | true =>
            by_cases h6 : (hh'.size : Int) ≤ 4096
            · go_wp2_with fail
              go_loopw [5, 6] (fun o ii wr => ∃ (j : Nat) (ok : Bool), j ≤ hh'.size ∧ ii = .int .i64 j ∧ o = .bool ok ∧ Hid ((ok = true ∧ (10 : UInt8) ∉ hh'.data.toList.take j) ∨ (ok = false ∧ (10 : UInt8) ∈ hh'.data.toList)) ∧ wr = w2) (fun _ ii _ => hh'.size - (intOf ii).toNat)
              case atStart => exact ⟨0, true, Nat.zero_le _, rfl, rfl, hid (.inl ⟨rfl, by simp⟩), rfl⟩
              case round =>
                obtain ⟨j, ok, hj, rfl, rfl, HOK, hw⟩ := hrel
                subst hw
                by_cases hjl : j < hh'.size
                · cases ok
                  · go_wp2_with fail
                    go_roundw
                    case rel => exact ⟨j + 1, false, by omega, by go_num, rfl, hid (HOK.out.elim (fun h => absurd h.1 (by decide)) .inr), by trivial⟩
                    case measure => simp [intOf]; omega
                  · have HNO : Hid ((10 : UInt8) ∉ hh'.data.toList.take j) := hid (HOK.out.elim (fun h => h.2) (fun h => absurd h.1 (by decide)))
                    clear HOK
                    cases hq : ((hh'[j].toNat : Int) == 10) with
                    | true =>
                      have HH := hid (byte_hit hjl hq)
                      go_wp2_with fail
                      go_roundw
                      case rel => exact ⟨j + 1, false, by omega, by go_num, by first | rfl | (show Value.bool (_ != 10) = _; rw [bne, hq]; rfl), hid (.inr ⟨rfl, HH.out⟩), by trivial⟩
                      case measure => simp [intOf]; omega
                    | false =>
                      have HM := hid (Cx.take_miss hh' j hjl hq HNO.out)
                      go_wp2_with fail
                      go_roundw
                      case rel => exact ⟨j + 1, true, by omega, by go_num, by first | rfl | (show Value.bool (_ != 10) = _; rw [bne, hq]; rfl), hid (.inl ⟨rfl, HM.out⟩), by trivial⟩
                      case measure => simp [intOf]; omega
                · obtain rfl : j = hh'.size := by omega
                  cases ok
                  · have HZ : Hid (q6 = false) := hid (HQ6.out.trans (HOK.out.elim (fun h => absurd h.1 (by decide)) (fun h => headOk_hit h.2)))
                    go_wp2_with fail
                    go_ret
                    exact ⟨by rw [HE.out, HZ.out]; rfl, HB2.out⟩
                  · have HZ : Hid (q6 = true) := hid (HQ6.out.trans (HOK.out.elim (fun h => headOk_yes h6 h.2) (fun h => absurd h.1 (by decide))))
                    go_wp2_with fail
                    go_ret
                    exact ⟨by rw [HE.out, HZ.out]; rfl, HB2.out⟩
            · have HZ : Hid (q6 = false) := hid (HQ6.out.trans (headOk_no h6))
              go_wp2_with fail
              go_loopw [5, 6] (fun o ii wr => ∃ j : Nat, j ≤ hh'.size ∧ ii = .int .i64 j ∧ o = .bool false ∧ wr = w2) (fun _ ii _ => hh'.size - (intOf ii).toNat)
              case atStart => exact ⟨0, Nat.zero_le _, rfl, by first | rfl | rw [decide_eq_false (by omega)], rfl⟩
              case round =>
                obtain ⟨j, hj, rfl, rfl, hw⟩ := hrel
                subst hw
                by_cases hjl : j < hh'.size
                · go_wp2_with fail
                  go_roundw
                  case rel => exact ⟨j + 1, by omega, by go_num, rfl, by trivial⟩
                  case measure => simp [intOf]; omega
                · obtain rfl : j = hh'.size := by omega
                  go_wp2_with fail
                  go_ret
                  exact ⟨by rw [HE.out, HZ.out]; rfl, HB2.out⟩
end Go.Proofs.YtkolgglllladfaaGreatDoor
