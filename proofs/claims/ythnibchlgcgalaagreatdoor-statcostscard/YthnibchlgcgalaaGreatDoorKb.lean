/-
  The document's rows (made by wip/genkb.py).
-/
import Derived.Test.YthnibchlgcgalaaGreatDoorGrKa
namespace Go.Proofs.YthnibchlgcgalaaGreatDoor
open Go.RowKit
open Hu (Rw Hk)

theorem rWhole_any2 (s : ByteArray) (w : World) (hs : s.size ≤ maxLen) : Calls Tryz.prog 20 #[.string s] w fun e w' => e = .returned (.bool (Hu.whT s)) ∧ w' = w := Cx.refWhole_any s w hs
theorem rowsD_at {l : List Rw} {k : Nat} {z : Rw} (h : l[k]? = some z) (en ov ch : Bool) : Hu.rowsD (l.drop k) en ov ch = if ((!Hu.isO z && !Hu.isF z) || !Hu.okT z.t || (Hu.isO z && en) || (Hu.isF z && ov)) = true then false else Hu.rowsD (l.drop (k + 1)) (en || (!Hu.whT z.t && Hu.isO z)) (ov || (!Hu.whT z.t && Hu.isF z)) (ch || !(z.k == 1)) := by
  obtain ⟨hk, rfl⟩ := List.getElem?_eq_some_iff.1 h
  rw [List.drop_eq_getElem_cons hk, Hu.rowsD]
set_option maxHeartbeats 8000000 in
set_option maxRecDepth 100000 in
theorem rRows_any {w : World} {v : Value} {l : List Rw} (hv : RdW w v l) (hl : l.length < 5864062014800) (hs : ∀ r ∈ l, r.t.size ≤ maxLen) :
    Calls Tryz.prog 26 #[v] w fun e w' => e = .returned (.bool (Hu.rowsD l false false false)) ∧ Below w.heap.size w w' := by
  obtain ⟨av, cv, rfl⟩ := hv.shape
  have HV := hid hv
  have HSZ := hid hs
  obtain ⟨n, hn⟩ : ∃ n, n = l.length := ⟨_, rfl⟩
  have HN := hid hn
  rw [← hn] at HV hl ⊢
  clear hv hn hs
  go_enter Tryz.func26, Tryz.ntmps26
  go_wp2_with fail
  go_loopw [3, 4, 5, 6] (fun p q c ii wr => ∃ (k : Nat) (en ov ch : Bool), k ≤ n ∧ ii = .int .i64 k ∧ p = .bool en ∧ q = .bool ov ∧ c = .bool ch ∧ Hid (Hu.rowsD l false false false = Hu.rowsD (l.drop k) en ov ch) ∧ Hid (Below w.heap.size w wr)) (fun _ _ _ ii _ => n - (intOf ii).toNat)
  case atStart => exact ⟨0, false, false, false, Nat.zero_le _, rfl, rfl, rfl, rfl, hid rfl, Below.refl _ _⟩
  case round =>
    obtain ⟨k, en, ov, ch, hk, rfl, rfl, rfl, rfl, HD, HB⟩ := hrel
    by_cases hlt : k < n
    · obtain ⟨z, hz⟩ : ∃ z, l[k]? = some z := ⟨_, List.getElem?_eq_getElem (by have := HN.out; omega)⟩
      obtain ⟨b1, o1, e1, hb1, d0, d1⟩ := rdW_at HV.out hz
      subst e1
      replace d0 := (HB.out.cell (p := ⟨b1, _, none⟩) hb1).trans d0
      replace d1 := (HB.out.cell (p := ⟨b1, _, none⟩) hb1).trans d1
      have HE : Hid (Hu.rowsD l false false false = _) := hid (HD.out.trans (rowsD_at hz en ov ch))
      have HC1 := hid (fun w1 => rOld_any z w1)
      have HC2 := hid (fun w1 => rFresh_any z w1)
      have HC3 := hid (fun w1 => rLine_any z.t w1 (HSZ.out z (List.mem_of_getElem? hz)))
      have HC4 := hid (fun w1 => rWhole_any2 z.t w1 (HSZ.out z (List.mem_of_getElem? hz)))
      unfold RwV at HC1 HC2
      have HK := hid (Hu.kinds z)
      have i1 : (0 : Int) ≤ (k : Int) := by omega
      have i2 : (k : Int) < (n : Int) := by omega
      have s3 : IntKind.i64.wrap ((k : Int) + 1) = (k : Int) + 1 := wrapOk (by omega) (by omega)
      generalize Hu.okT z.t = qt at HC3 HE
      generalize Hu.whT z.t = qw at HC4 HE
      clear hz hb1 HD
      replace HK := HK.out
      have HB1 := hid (HB.out.alloc HB.out.size (.cells #[.int .i64 z.k, .string z.t] 50))
      have HKB := hid (heap_alloc_new wr (.cells #[.int .i64 z.k, .string z.t] 50))
      clear HB
      go_wp2_with fail
      generalize wr.alloc (.cells #[.int .i64 z.k, .string z.t] 50) = w1 at HB1 HKB ⊢
      generalize wr.heap.size = R at HKB ⊢
      clear d0 d1
      have HB := HB1
      clear HB1
      rcases HK with ⟨h1, h2, _, h4⟩ | ⟨h1, h2, _, h4⟩ | ⟨h1, h2, _, h4⟩ | ⟨h1, h2, _, h4⟩ <;> rw [h1] at HC1 HE <;> rw [h2] at HC2 HE <;> rw [h4] at HE <;> clear h1 h2
      · cases qt
        · clear HC4
          repeat (first
            | (refine (HC1.out _).mono ?_; rintro e w2 ⟨rfl, h2⟩; replace HB := hid (HB.out.trans (h2.mono HB.out.size)); replace HKB := hid ((h2.block R (lt_of_heap HKB.out)).trans HKB.out); clear h2; have c0 := cell_of_blk HKB.out 0; have c1 := cell_of_blk HKB.out 1; go_wp2_with fail; clear c0 c1)
            | (refine (HC2.out _).mono ?_; rintro e w2 ⟨rfl, h2⟩; replace HB := hid (HB.out.trans (h2.mono HB.out.size)); replace HKB := hid ((h2.block R (lt_of_heap HKB.out)).trans HKB.out); clear h2; have c0 := cell_of_blk HKB.out 0; have c1 := cell_of_blk HKB.out 1; go_wp2_with fail; clear c0 c1)
            | (refine (HC3.out _).mono ?_; rintro e w2 ⟨rfl, rfl⟩; have c0 := cell_of_blk HKB.out 0; have c1 := cell_of_blk HKB.out 1; go_wp2_with fail; clear c0 c1)
            | (refine (HC4.out _).mono ?_; rintro e w2 ⟨rfl, rfl⟩; have c0 := cell_of_blk HKB.out 0; have c1 := cell_of_blk HKB.out 1; go_wp2_with fail; clear c0 c1))
          go_ret
          exact ⟨by rw [HE.out]; rfl, HB.out⟩
        · cases en <;> cases ov
          · cases qw <;> cases ch
            · repeat (first
                | (refine (HC1.out _).mono ?_; rintro e w2 ⟨rfl, h2⟩; replace HB := hid (HB.out.trans (h2.mono HB.out.size)); replace HKB := hid ((h2.block R (lt_of_heap HKB.out)).trans HKB.out); clear h2; have c0 := cell_of_blk HKB.out 0; have c1 := cell_of_blk HKB.out 1; go_wp2_with fail; clear c0 c1)
                | (refine (HC2.out _).mono ?_; rintro e w2 ⟨rfl, h2⟩; replace HB := hid (HB.out.trans (h2.mono HB.out.size)); replace HKB := hid ((h2.block R (lt_of_heap HKB.out)).trans HKB.out); clear h2; have c0 := cell_of_blk HKB.out 0; have c1 := cell_of_blk HKB.out 1; go_wp2_with fail; clear c0 c1)
                | (refine (HC3.out _).mono ?_; rintro e w2 ⟨rfl, rfl⟩; have c0 := cell_of_blk HKB.out 0; have c1 := cell_of_blk HKB.out 1; go_wp2_with fail; clear c0 c1)
                | (refine (HC4.out _).mono ?_; rintro e w2 ⟨rfl, rfl⟩; have c0 := cell_of_blk HKB.out 0; have c1 := cell_of_blk HKB.out 1; go_wp2_with fail; clear c0 c1))
              go_roundw
              case rel => exact ⟨k + 1, true, true, false, by omega, by go_num, rfl, rfl, by first | rfl | (show Value.bool (z.k != 1) = _; rw [bne, h4]; rfl), hid HE.out, HB⟩
              case measure => simp [intOf]; omega
            · repeat (first
                | (refine (HC1.out _).mono ?_; rintro e w2 ⟨rfl, h2⟩; replace HB := hid (HB.out.trans (h2.mono HB.out.size)); replace HKB := hid ((h2.block R (lt_of_heap HKB.out)).trans HKB.out); clear h2; have c0 := cell_of_blk HKB.out 0; have c1 := cell_of_blk HKB.out 1; go_wp2_with fail; clear c0 c1)
                | (refine (HC2.out _).mono ?_; rintro e w2 ⟨rfl, h2⟩; replace HB := hid (HB.out.trans (h2.mono HB.out.size)); replace HKB := hid ((h2.block R (lt_of_heap HKB.out)).trans HKB.out); clear h2; have c0 := cell_of_blk HKB.out 0; have c1 := cell_of_blk HKB.out 1; go_wp2_with fail; clear c0 c1)
                | (refine (HC3.out _).mono ?_; rintro e w2 ⟨rfl, rfl⟩; have c0 := cell_of_blk HKB.out 0; have c1 := cell_of_blk HKB.out 1; go_wp2_with fail; clear c0 c1)
                | (refine (HC4.out _).mono ?_; rintro e w2 ⟨rfl, rfl⟩; have c0 := cell_of_blk HKB.out 0; have c1 := cell_of_blk HKB.out 1; go_wp2_with fail; clear c0 c1))
              go_roundw
              case rel => exact ⟨k + 1, true, true, true, by omega, by go_num, rfl, rfl, by first | rfl | (show Value.bool (z.k != 1) = _; rw [bne, h4]; rfl), hid HE.out, HB⟩
              case measure => simp [intOf]; omega
            · repeat (first
                | (refine (HC1.out _).mono ?_; rintro e w2 ⟨rfl, h2⟩; replace HB := hid (HB.out.trans (h2.mono HB.out.size)); replace HKB := hid ((h2.block R (lt_of_heap HKB.out)).trans HKB.out); clear h2; have c0 := cell_of_blk HKB.out 0; have c1 := cell_of_blk HKB.out 1; go_wp2_with fail; clear c0 c1)
                | (refine (HC2.out _).mono ?_; rintro e w2 ⟨rfl, h2⟩; replace HB := hid (HB.out.trans (h2.mono HB.out.size)); replace HKB := hid ((h2.block R (lt_of_heap HKB.out)).trans HKB.out); clear h2; have c0 := cell_of_blk HKB.out 0; have c1 := cell_of_blk HKB.out 1; go_wp2_with fail; clear c0 c1)
                | (refine (HC3.out _).mono ?_; rintro e w2 ⟨rfl, rfl⟩; have c0 := cell_of_blk HKB.out 0; have c1 := cell_of_blk HKB.out 1; go_wp2_with fail; clear c0 c1)
                | (refine (HC4.out _).mono ?_; rintro e w2 ⟨rfl, rfl⟩; have c0 := cell_of_blk HKB.out 0; have c1 := cell_of_blk HKB.out 1; go_wp2_with fail; clear c0 c1))
              go_roundw
              case rel => exact ⟨k + 1, false, false, false, by omega, by go_num, rfl, rfl, by first | rfl | (show Value.bool (z.k != 1) = _; rw [bne, h4]; rfl), hid HE.out, HB⟩
              case measure => simp [intOf]; omega
            · repeat (first
                | (refine (HC1.out _).mono ?_; rintro e w2 ⟨rfl, h2⟩; replace HB := hid (HB.out.trans (h2.mono HB.out.size)); replace HKB := hid ((h2.block R (lt_of_heap HKB.out)).trans HKB.out); clear h2; have c0 := cell_of_blk HKB.out 0; have c1 := cell_of_blk HKB.out 1; go_wp2_with fail; clear c0 c1)
                | (refine (HC2.out _).mono ?_; rintro e w2 ⟨rfl, h2⟩; replace HB := hid (HB.out.trans (h2.mono HB.out.size)); replace HKB := hid ((h2.block R (lt_of_heap HKB.out)).trans HKB.out); clear h2; have c0 := cell_of_blk HKB.out 0; have c1 := cell_of_blk HKB.out 1; go_wp2_with fail; clear c0 c1)
                | (refine (HC3.out _).mono ?_; rintro e w2 ⟨rfl, rfl⟩; have c0 := cell_of_blk HKB.out 0; have c1 := cell_of_blk HKB.out 1; go_wp2_with fail; clear c0 c1)
                | (refine (HC4.out _).mono ?_; rintro e w2 ⟨rfl, rfl⟩; have c0 := cell_of_blk HKB.out 0; have c1 := cell_of_blk HKB.out 1; go_wp2_with fail; clear c0 c1))
              go_roundw
              case rel => exact ⟨k + 1, false, false, true, by omega, by go_num, rfl, rfl, by first | rfl | (show Value.bool (z.k != 1) = _; rw [bne, h4]; rfl), hid HE.out, HB⟩
              case measure => simp [intOf]; omega
          · repeat (first
              | (refine (HC1.out _).mono ?_; rintro e w2 ⟨rfl, h2⟩; replace HB := hid (HB.out.trans (h2.mono HB.out.size)); replace HKB := hid ((h2.block R (lt_of_heap HKB.out)).trans HKB.out); clear h2; have c0 := cell_of_blk HKB.out 0; have c1 := cell_of_blk HKB.out 1; go_wp2_with fail; clear c0 c1)
              | (refine (HC2.out _).mono ?_; rintro e w2 ⟨rfl, h2⟩; replace HB := hid (HB.out.trans (h2.mono HB.out.size)); replace HKB := hid ((h2.block R (lt_of_heap HKB.out)).trans HKB.out); clear h2; have c0 := cell_of_blk HKB.out 0; have c1 := cell_of_blk HKB.out 1; go_wp2_with fail; clear c0 c1)
              | (refine (HC3.out _).mono ?_; rintro e w2 ⟨rfl, rfl⟩; have c0 := cell_of_blk HKB.out 0; have c1 := cell_of_blk HKB.out 1; go_wp2_with fail; clear c0 c1)
              | (refine (HC4.out _).mono ?_; rintro e w2 ⟨rfl, rfl⟩; have c0 := cell_of_blk HKB.out 0; have c1 := cell_of_blk HKB.out 1; go_wp2_with fail; clear c0 c1))
            go_ret
            exact ⟨by rw [HE.out]; rfl, HB.out⟩
          · repeat (first
              | (refine (HC1.out _).mono ?_; rintro e w2 ⟨rfl, h2⟩; replace HB := hid (HB.out.trans (h2.mono HB.out.size)); replace HKB := hid ((h2.block R (lt_of_heap HKB.out)).trans HKB.out); clear h2; have c0 := cell_of_blk HKB.out 0; have c1 := cell_of_blk HKB.out 1; go_wp2_with fail; clear c0 c1)
              | (refine (HC2.out _).mono ?_; rintro e w2 ⟨rfl, h2⟩; replace HB := hid (HB.out.trans (h2.mono HB.out.size)); replace HKB := hid ((h2.block R (lt_of_heap HKB.out)).trans HKB.out); clear h2; have c0 := cell_of_blk HKB.out 0; have c1 := cell_of_blk HKB.out 1; go_wp2_with fail; clear c0 c1)
              | (refine (HC3.out _).mono ?_; rintro e w2 ⟨rfl, rfl⟩; have c0 := cell_of_blk HKB.out 0; have c1 := cell_of_blk HKB.out 1; go_wp2_with fail; clear c0 c1)
              | (refine (HC4.out _).mono ?_; rintro e w2 ⟨rfl, rfl⟩; have c0 := cell_of_blk HKB.out 0; have c1 := cell_of_blk HKB.out 1; go_wp2_with fail; clear c0 c1))
            go_ret
            exact ⟨by rw [HE.out]; rfl, HB.out⟩
          · repeat (first
              | (refine (HC1.out _).mono ?_; rintro e w2 ⟨rfl, h2⟩; replace HB := hid (HB.out.trans (h2.mono HB.out.size)); replace HKB := hid ((h2.block R (lt_of_heap HKB.out)).trans HKB.out); clear h2; have c0 := cell_of_blk HKB.out 0; have c1 := cell_of_blk HKB.out 1; go_wp2_with fail; clear c0 c1)
              | (refine (HC2.out _).mono ?_; rintro e w2 ⟨rfl, h2⟩; replace HB := hid (HB.out.trans (h2.mono HB.out.size)); replace HKB := hid ((h2.block R (lt_of_heap HKB.out)).trans HKB.out); clear h2; have c0 := cell_of_blk HKB.out 0; have c1 := cell_of_blk HKB.out 1; go_wp2_with fail; clear c0 c1)
              | (refine (HC3.out _).mono ?_; rintro e w2 ⟨rfl, rfl⟩; have c0 := cell_of_blk HKB.out 0; have c1 := cell_of_blk HKB.out 1; go_wp2_with fail; clear c0 c1)
              | (refine (HC4.out _).mono ?_; rintro e w2 ⟨rfl, rfl⟩; have c0 := cell_of_blk HKB.out 0; have c1 := cell_of_blk HKB.out 1; go_wp2_with fail; clear c0 c1))
            go_ret
            exact ⟨by rw [HE.out]; rfl, HB.out⟩
      · cases qt
        · clear HC4
          repeat (first
            | (refine (HC1.out _).mono ?_; rintro e w2 ⟨rfl, h2⟩; replace HB := hid (HB.out.trans (h2.mono HB.out.size)); replace HKB := hid ((h2.block R (lt_of_heap HKB.out)).trans HKB.out); clear h2; have c0 := cell_of_blk HKB.out 0; have c1 := cell_of_blk HKB.out 1; go_wp2_with fail; clear c0 c1)
            | (refine (HC2.out _).mono ?_; rintro e w2 ⟨rfl, h2⟩; replace HB := hid (HB.out.trans (h2.mono HB.out.size)); replace HKB := hid ((h2.block R (lt_of_heap HKB.out)).trans HKB.out); clear h2; have c0 := cell_of_blk HKB.out 0; have c1 := cell_of_blk HKB.out 1; go_wp2_with fail; clear c0 c1)
            | (refine (HC3.out _).mono ?_; rintro e w2 ⟨rfl, rfl⟩; have c0 := cell_of_blk HKB.out 0; have c1 := cell_of_blk HKB.out 1; go_wp2_with fail; clear c0 c1)
            | (refine (HC4.out _).mono ?_; rintro e w2 ⟨rfl, rfl⟩; have c0 := cell_of_blk HKB.out 0; have c1 := cell_of_blk HKB.out 1; go_wp2_with fail; clear c0 c1))
          go_ret
          exact ⟨by rw [HE.out]; rfl, HB.out⟩
        · cases en <;> cases ov
          · cases qw <;> cases ch
            · repeat (first
                | (refine (HC1.out _).mono ?_; rintro e w2 ⟨rfl, h2⟩; replace HB := hid (HB.out.trans (h2.mono HB.out.size)); replace HKB := hid ((h2.block R (lt_of_heap HKB.out)).trans HKB.out); clear h2; have c0 := cell_of_blk HKB.out 0; have c1 := cell_of_blk HKB.out 1; go_wp2_with fail; clear c0 c1)
                | (refine (HC2.out _).mono ?_; rintro e w2 ⟨rfl, h2⟩; replace HB := hid (HB.out.trans (h2.mono HB.out.size)); replace HKB := hid ((h2.block R (lt_of_heap HKB.out)).trans HKB.out); clear h2; have c0 := cell_of_blk HKB.out 0; have c1 := cell_of_blk HKB.out 1; go_wp2_with fail; clear c0 c1)
                | (refine (HC3.out _).mono ?_; rintro e w2 ⟨rfl, rfl⟩; have c0 := cell_of_blk HKB.out 0; have c1 := cell_of_blk HKB.out 1; go_wp2_with fail; clear c0 c1)
                | (refine (HC4.out _).mono ?_; rintro e w2 ⟨rfl, rfl⟩; have c0 := cell_of_blk HKB.out 0; have c1 := cell_of_blk HKB.out 1; go_wp2_with fail; clear c0 c1))
              go_roundw
              case rel => exact ⟨k + 1, true, false, true, by omega, by go_num, rfl, rfl, by first | rfl | (show Value.bool (z.k != 1) = _; rw [bne, h4]; rfl), hid HE.out, HB⟩
              case measure => simp [intOf]; omega
            · repeat (first
                | (refine (HC1.out _).mono ?_; rintro e w2 ⟨rfl, h2⟩; replace HB := hid (HB.out.trans (h2.mono HB.out.size)); replace HKB := hid ((h2.block R (lt_of_heap HKB.out)).trans HKB.out); clear h2; have c0 := cell_of_blk HKB.out 0; have c1 := cell_of_blk HKB.out 1; go_wp2_with fail; clear c0 c1)
                | (refine (HC2.out _).mono ?_; rintro e w2 ⟨rfl, h2⟩; replace HB := hid (HB.out.trans (h2.mono HB.out.size)); replace HKB := hid ((h2.block R (lt_of_heap HKB.out)).trans HKB.out); clear h2; have c0 := cell_of_blk HKB.out 0; have c1 := cell_of_blk HKB.out 1; go_wp2_with fail; clear c0 c1)
                | (refine (HC3.out _).mono ?_; rintro e w2 ⟨rfl, rfl⟩; have c0 := cell_of_blk HKB.out 0; have c1 := cell_of_blk HKB.out 1; go_wp2_with fail; clear c0 c1)
                | (refine (HC4.out _).mono ?_; rintro e w2 ⟨rfl, rfl⟩; have c0 := cell_of_blk HKB.out 0; have c1 := cell_of_blk HKB.out 1; go_wp2_with fail; clear c0 c1))
              go_roundw
              case rel => exact ⟨k + 1, true, false, true, by omega, by go_num, rfl, rfl, by first | rfl | (show Value.bool (z.k != 1) = _; rw [bne, h4]; rfl), hid HE.out, HB⟩
              case measure => simp [intOf]; omega
            · repeat (first
                | (refine (HC1.out _).mono ?_; rintro e w2 ⟨rfl, h2⟩; replace HB := hid (HB.out.trans (h2.mono HB.out.size)); replace HKB := hid ((h2.block R (lt_of_heap HKB.out)).trans HKB.out); clear h2; have c0 := cell_of_blk HKB.out 0; have c1 := cell_of_blk HKB.out 1; go_wp2_with fail; clear c0 c1)
                | (refine (HC2.out _).mono ?_; rintro e w2 ⟨rfl, h2⟩; replace HB := hid (HB.out.trans (h2.mono HB.out.size)); replace HKB := hid ((h2.block R (lt_of_heap HKB.out)).trans HKB.out); clear h2; have c0 := cell_of_blk HKB.out 0; have c1 := cell_of_blk HKB.out 1; go_wp2_with fail; clear c0 c1)
                | (refine (HC3.out _).mono ?_; rintro e w2 ⟨rfl, rfl⟩; have c0 := cell_of_blk HKB.out 0; have c1 := cell_of_blk HKB.out 1; go_wp2_with fail; clear c0 c1)
                | (refine (HC4.out _).mono ?_; rintro e w2 ⟨rfl, rfl⟩; have c0 := cell_of_blk HKB.out 0; have c1 := cell_of_blk HKB.out 1; go_wp2_with fail; clear c0 c1))
              go_roundw
              case rel => exact ⟨k + 1, false, false, true, by omega, by go_num, rfl, rfl, by first | rfl | (show Value.bool (z.k != 1) = _; rw [bne, h4]; rfl), hid HE.out, HB⟩
              case measure => simp [intOf]; omega
            · repeat (first
                | (refine (HC1.out _).mono ?_; rintro e w2 ⟨rfl, h2⟩; replace HB := hid (HB.out.trans (h2.mono HB.out.size)); replace HKB := hid ((h2.block R (lt_of_heap HKB.out)).trans HKB.out); clear h2; have c0 := cell_of_blk HKB.out 0; have c1 := cell_of_blk HKB.out 1; go_wp2_with fail; clear c0 c1)
                | (refine (HC2.out _).mono ?_; rintro e w2 ⟨rfl, h2⟩; replace HB := hid (HB.out.trans (h2.mono HB.out.size)); replace HKB := hid ((h2.block R (lt_of_heap HKB.out)).trans HKB.out); clear h2; have c0 := cell_of_blk HKB.out 0; have c1 := cell_of_blk HKB.out 1; go_wp2_with fail; clear c0 c1)
                | (refine (HC3.out _).mono ?_; rintro e w2 ⟨rfl, rfl⟩; have c0 := cell_of_blk HKB.out 0; have c1 := cell_of_blk HKB.out 1; go_wp2_with fail; clear c0 c1)
                | (refine (HC4.out _).mono ?_; rintro e w2 ⟨rfl, rfl⟩; have c0 := cell_of_blk HKB.out 0; have c1 := cell_of_blk HKB.out 1; go_wp2_with fail; clear c0 c1))
              go_roundw
              case rel => exact ⟨k + 1, false, false, true, by omega, by go_num, rfl, rfl, by first | rfl | (show Value.bool (z.k != 1) = _; rw [bne, h4]; rfl), hid HE.out, HB⟩
              case measure => simp [intOf]; omega
          · cases qw <;> cases ch
            · repeat (first
                | (refine (HC1.out _).mono ?_; rintro e w2 ⟨rfl, h2⟩; replace HB := hid (HB.out.trans (h2.mono HB.out.size)); replace HKB := hid ((h2.block R (lt_of_heap HKB.out)).trans HKB.out); clear h2; have c0 := cell_of_blk HKB.out 0; have c1 := cell_of_blk HKB.out 1; go_wp2_with fail; clear c0 c1)
                | (refine (HC2.out _).mono ?_; rintro e w2 ⟨rfl, h2⟩; replace HB := hid (HB.out.trans (h2.mono HB.out.size)); replace HKB := hid ((h2.block R (lt_of_heap HKB.out)).trans HKB.out); clear h2; have c0 := cell_of_blk HKB.out 0; have c1 := cell_of_blk HKB.out 1; go_wp2_with fail; clear c0 c1)
                | (refine (HC3.out _).mono ?_; rintro e w2 ⟨rfl, rfl⟩; have c0 := cell_of_blk HKB.out 0; have c1 := cell_of_blk HKB.out 1; go_wp2_with fail; clear c0 c1)
                | (refine (HC4.out _).mono ?_; rintro e w2 ⟨rfl, rfl⟩; have c0 := cell_of_blk HKB.out 0; have c1 := cell_of_blk HKB.out 1; go_wp2_with fail; clear c0 c1))
              go_roundw
              case rel => exact ⟨k + 1, true, true, true, by omega, by go_num, rfl, rfl, by first | rfl | (show Value.bool (z.k != 1) = _; rw [bne, h4]; rfl), hid HE.out, HB⟩
              case measure => simp [intOf]; omega
            · repeat (first
                | (refine (HC1.out _).mono ?_; rintro e w2 ⟨rfl, h2⟩; replace HB := hid (HB.out.trans (h2.mono HB.out.size)); replace HKB := hid ((h2.block R (lt_of_heap HKB.out)).trans HKB.out); clear h2; have c0 := cell_of_blk HKB.out 0; have c1 := cell_of_blk HKB.out 1; go_wp2_with fail; clear c0 c1)
                | (refine (HC2.out _).mono ?_; rintro e w2 ⟨rfl, h2⟩; replace HB := hid (HB.out.trans (h2.mono HB.out.size)); replace HKB := hid ((h2.block R (lt_of_heap HKB.out)).trans HKB.out); clear h2; have c0 := cell_of_blk HKB.out 0; have c1 := cell_of_blk HKB.out 1; go_wp2_with fail; clear c0 c1)
                | (refine (HC3.out _).mono ?_; rintro e w2 ⟨rfl, rfl⟩; have c0 := cell_of_blk HKB.out 0; have c1 := cell_of_blk HKB.out 1; go_wp2_with fail; clear c0 c1)
                | (refine (HC4.out _).mono ?_; rintro e w2 ⟨rfl, rfl⟩; have c0 := cell_of_blk HKB.out 0; have c1 := cell_of_blk HKB.out 1; go_wp2_with fail; clear c0 c1))
              go_roundw
              case rel => exact ⟨k + 1, true, true, true, by omega, by go_num, rfl, rfl, by first | rfl | (show Value.bool (z.k != 1) = _; rw [bne, h4]; rfl), hid HE.out, HB⟩
              case measure => simp [intOf]; omega
            · repeat (first
                | (refine (HC1.out _).mono ?_; rintro e w2 ⟨rfl, h2⟩; replace HB := hid (HB.out.trans (h2.mono HB.out.size)); replace HKB := hid ((h2.block R (lt_of_heap HKB.out)).trans HKB.out); clear h2; have c0 := cell_of_blk HKB.out 0; have c1 := cell_of_blk HKB.out 1; go_wp2_with fail; clear c0 c1)
                | (refine (HC2.out _).mono ?_; rintro e w2 ⟨rfl, h2⟩; replace HB := hid (HB.out.trans (h2.mono HB.out.size)); replace HKB := hid ((h2.block R (lt_of_heap HKB.out)).trans HKB.out); clear h2; have c0 := cell_of_blk HKB.out 0; have c1 := cell_of_blk HKB.out 1; go_wp2_with fail; clear c0 c1)
                | (refine (HC3.out _).mono ?_; rintro e w2 ⟨rfl, rfl⟩; have c0 := cell_of_blk HKB.out 0; have c1 := cell_of_blk HKB.out 1; go_wp2_with fail; clear c0 c1)
                | (refine (HC4.out _).mono ?_; rintro e w2 ⟨rfl, rfl⟩; have c0 := cell_of_blk HKB.out 0; have c1 := cell_of_blk HKB.out 1; go_wp2_with fail; clear c0 c1))
              go_roundw
              case rel => exact ⟨k + 1, false, true, true, by omega, by go_num, rfl, rfl, by first | rfl | (show Value.bool (z.k != 1) = _; rw [bne, h4]; rfl), hid HE.out, HB⟩
              case measure => simp [intOf]; omega
            · repeat (first
                | (refine (HC1.out _).mono ?_; rintro e w2 ⟨rfl, h2⟩; replace HB := hid (HB.out.trans (h2.mono HB.out.size)); replace HKB := hid ((h2.block R (lt_of_heap HKB.out)).trans HKB.out); clear h2; have c0 := cell_of_blk HKB.out 0; have c1 := cell_of_blk HKB.out 1; go_wp2_with fail; clear c0 c1)
                | (refine (HC2.out _).mono ?_; rintro e w2 ⟨rfl, h2⟩; replace HB := hid (HB.out.trans (h2.mono HB.out.size)); replace HKB := hid ((h2.block R (lt_of_heap HKB.out)).trans HKB.out); clear h2; have c0 := cell_of_blk HKB.out 0; have c1 := cell_of_blk HKB.out 1; go_wp2_with fail; clear c0 c1)
                | (refine (HC3.out _).mono ?_; rintro e w2 ⟨rfl, rfl⟩; have c0 := cell_of_blk HKB.out 0; have c1 := cell_of_blk HKB.out 1; go_wp2_with fail; clear c0 c1)
                | (refine (HC4.out _).mono ?_; rintro e w2 ⟨rfl, rfl⟩; have c0 := cell_of_blk HKB.out 0; have c1 := cell_of_blk HKB.out 1; go_wp2_with fail; clear c0 c1))
              go_roundw
              case rel => exact ⟨k + 1, false, true, true, by omega, by go_num, rfl, rfl, by first | rfl | (show Value.bool (z.k != 1) = _; rw [bne, h4]; rfl), hid HE.out, HB⟩
              case measure => simp [intOf]; omega
          · repeat (first
              | (refine (HC1.out _).mono ?_; rintro e w2 ⟨rfl, h2⟩; replace HB := hid (HB.out.trans (h2.mono HB.out.size)); replace HKB := hid ((h2.block R (lt_of_heap HKB.out)).trans HKB.out); clear h2; have c0 := cell_of_blk HKB.out 0; have c1 := cell_of_blk HKB.out 1; go_wp2_with fail; clear c0 c1)
              | (refine (HC2.out _).mono ?_; rintro e w2 ⟨rfl, h2⟩; replace HB := hid (HB.out.trans (h2.mono HB.out.size)); replace HKB := hid ((h2.block R (lt_of_heap HKB.out)).trans HKB.out); clear h2; have c0 := cell_of_blk HKB.out 0; have c1 := cell_of_blk HKB.out 1; go_wp2_with fail; clear c0 c1)
              | (refine (HC3.out _).mono ?_; rintro e w2 ⟨rfl, rfl⟩; have c0 := cell_of_blk HKB.out 0; have c1 := cell_of_blk HKB.out 1; go_wp2_with fail; clear c0 c1)
              | (refine (HC4.out _).mono ?_; rintro e w2 ⟨rfl, rfl⟩; have c0 := cell_of_blk HKB.out 0; have c1 := cell_of_blk HKB.out 1; go_wp2_with fail; clear c0 c1))
            go_ret
            exact ⟨by rw [HE.out]; rfl, HB.out⟩
          · repeat (first
              | (refine (HC1.out _).mono ?_; rintro e w2 ⟨rfl, h2⟩; replace HB := hid (HB.out.trans (h2.mono HB.out.size)); replace HKB := hid ((h2.block R (lt_of_heap HKB.out)).trans HKB.out); clear h2; have c0 := cell_of_blk HKB.out 0; have c1 := cell_of_blk HKB.out 1; go_wp2_with fail; clear c0 c1)
              | (refine (HC2.out _).mono ?_; rintro e w2 ⟨rfl, h2⟩; replace HB := hid (HB.out.trans (h2.mono HB.out.size)); replace HKB := hid ((h2.block R (lt_of_heap HKB.out)).trans HKB.out); clear h2; have c0 := cell_of_blk HKB.out 0; have c1 := cell_of_blk HKB.out 1; go_wp2_with fail; clear c0 c1)
              | (refine (HC3.out _).mono ?_; rintro e w2 ⟨rfl, rfl⟩; have c0 := cell_of_blk HKB.out 0; have c1 := cell_of_blk HKB.out 1; go_wp2_with fail; clear c0 c1)
              | (refine (HC4.out _).mono ?_; rintro e w2 ⟨rfl, rfl⟩; have c0 := cell_of_blk HKB.out 0; have c1 := cell_of_blk HKB.out 1; go_wp2_with fail; clear c0 c1))
            go_ret
            exact ⟨by rw [HE.out]; rfl, HB.out⟩
      · cases qt
        · clear HC4
          repeat (first
            | (refine (HC1.out _).mono ?_; rintro e w2 ⟨rfl, h2⟩; replace HB := hid (HB.out.trans (h2.mono HB.out.size)); replace HKB := hid ((h2.block R (lt_of_heap HKB.out)).trans HKB.out); clear h2; have c0 := cell_of_blk HKB.out 0; have c1 := cell_of_blk HKB.out 1; go_wp2_with fail; clear c0 c1)
            | (refine (HC2.out _).mono ?_; rintro e w2 ⟨rfl, h2⟩; replace HB := hid (HB.out.trans (h2.mono HB.out.size)); replace HKB := hid ((h2.block R (lt_of_heap HKB.out)).trans HKB.out); clear h2; have c0 := cell_of_blk HKB.out 0; have c1 := cell_of_blk HKB.out 1; go_wp2_with fail; clear c0 c1)
            | (refine (HC3.out _).mono ?_; rintro e w2 ⟨rfl, rfl⟩; have c0 := cell_of_blk HKB.out 0; have c1 := cell_of_blk HKB.out 1; go_wp2_with fail; clear c0 c1)
            | (refine (HC4.out _).mono ?_; rintro e w2 ⟨rfl, rfl⟩; have c0 := cell_of_blk HKB.out 0; have c1 := cell_of_blk HKB.out 1; go_wp2_with fail; clear c0 c1))
          go_ret
          exact ⟨by rw [HE.out]; rfl, HB.out⟩
        · cases en <;> cases ov
          · cases qw <;> cases ch
            · repeat (first
                | (refine (HC1.out _).mono ?_; rintro e w2 ⟨rfl, h2⟩; replace HB := hid (HB.out.trans (h2.mono HB.out.size)); replace HKB := hid ((h2.block R (lt_of_heap HKB.out)).trans HKB.out); clear h2; have c0 := cell_of_blk HKB.out 0; have c1 := cell_of_blk HKB.out 1; go_wp2_with fail; clear c0 c1)
                | (refine (HC2.out _).mono ?_; rintro e w2 ⟨rfl, h2⟩; replace HB := hid (HB.out.trans (h2.mono HB.out.size)); replace HKB := hid ((h2.block R (lt_of_heap HKB.out)).trans HKB.out); clear h2; have c0 := cell_of_blk HKB.out 0; have c1 := cell_of_blk HKB.out 1; go_wp2_with fail; clear c0 c1)
                | (refine (HC3.out _).mono ?_; rintro e w2 ⟨rfl, rfl⟩; have c0 := cell_of_blk HKB.out 0; have c1 := cell_of_blk HKB.out 1; go_wp2_with fail; clear c0 c1)
                | (refine (HC4.out _).mono ?_; rintro e w2 ⟨rfl, rfl⟩; have c0 := cell_of_blk HKB.out 0; have c1 := cell_of_blk HKB.out 1; go_wp2_with fail; clear c0 c1))
              go_roundw
              case rel => exact ⟨k + 1, false, true, true, by omega, by go_num, rfl, rfl, by first | rfl | (show Value.bool (z.k != 1) = _; rw [bne, h4]; rfl), hid HE.out, HB⟩
              case measure => simp [intOf]; omega
            · repeat (first
                | (refine (HC1.out _).mono ?_; rintro e w2 ⟨rfl, h2⟩; replace HB := hid (HB.out.trans (h2.mono HB.out.size)); replace HKB := hid ((h2.block R (lt_of_heap HKB.out)).trans HKB.out); clear h2; have c0 := cell_of_blk HKB.out 0; have c1 := cell_of_blk HKB.out 1; go_wp2_with fail; clear c0 c1)
                | (refine (HC2.out _).mono ?_; rintro e w2 ⟨rfl, h2⟩; replace HB := hid (HB.out.trans (h2.mono HB.out.size)); replace HKB := hid ((h2.block R (lt_of_heap HKB.out)).trans HKB.out); clear h2; have c0 := cell_of_blk HKB.out 0; have c1 := cell_of_blk HKB.out 1; go_wp2_with fail; clear c0 c1)
                | (refine (HC3.out _).mono ?_; rintro e w2 ⟨rfl, rfl⟩; have c0 := cell_of_blk HKB.out 0; have c1 := cell_of_blk HKB.out 1; go_wp2_with fail; clear c0 c1)
                | (refine (HC4.out _).mono ?_; rintro e w2 ⟨rfl, rfl⟩; have c0 := cell_of_blk HKB.out 0; have c1 := cell_of_blk HKB.out 1; go_wp2_with fail; clear c0 c1))
              go_roundw
              case rel => exact ⟨k + 1, false, true, true, by omega, by go_num, rfl, rfl, by first | rfl | (show Value.bool (z.k != 1) = _; rw [bne, h4]; rfl), hid HE.out, HB⟩
              case measure => simp [intOf]; omega
            · repeat (first
                | (refine (HC1.out _).mono ?_; rintro e w2 ⟨rfl, h2⟩; replace HB := hid (HB.out.trans (h2.mono HB.out.size)); replace HKB := hid ((h2.block R (lt_of_heap HKB.out)).trans HKB.out); clear h2; have c0 := cell_of_blk HKB.out 0; have c1 := cell_of_blk HKB.out 1; go_wp2_with fail; clear c0 c1)
                | (refine (HC2.out _).mono ?_; rintro e w2 ⟨rfl, h2⟩; replace HB := hid (HB.out.trans (h2.mono HB.out.size)); replace HKB := hid ((h2.block R (lt_of_heap HKB.out)).trans HKB.out); clear h2; have c0 := cell_of_blk HKB.out 0; have c1 := cell_of_blk HKB.out 1; go_wp2_with fail; clear c0 c1)
                | (refine (HC3.out _).mono ?_; rintro e w2 ⟨rfl, rfl⟩; have c0 := cell_of_blk HKB.out 0; have c1 := cell_of_blk HKB.out 1; go_wp2_with fail; clear c0 c1)
                | (refine (HC4.out _).mono ?_; rintro e w2 ⟨rfl, rfl⟩; have c0 := cell_of_blk HKB.out 0; have c1 := cell_of_blk HKB.out 1; go_wp2_with fail; clear c0 c1))
              go_roundw
              case rel => exact ⟨k + 1, false, false, true, by omega, by go_num, rfl, rfl, by first | rfl | (show Value.bool (z.k != 1) = _; rw [bne, h4]; rfl), hid HE.out, HB⟩
              case measure => simp [intOf]; omega
            · repeat (first
                | (refine (HC1.out _).mono ?_; rintro e w2 ⟨rfl, h2⟩; replace HB := hid (HB.out.trans (h2.mono HB.out.size)); replace HKB := hid ((h2.block R (lt_of_heap HKB.out)).trans HKB.out); clear h2; have c0 := cell_of_blk HKB.out 0; have c1 := cell_of_blk HKB.out 1; go_wp2_with fail; clear c0 c1)
                | (refine (HC2.out _).mono ?_; rintro e w2 ⟨rfl, h2⟩; replace HB := hid (HB.out.trans (h2.mono HB.out.size)); replace HKB := hid ((h2.block R (lt_of_heap HKB.out)).trans HKB.out); clear h2; have c0 := cell_of_blk HKB.out 0; have c1 := cell_of_blk HKB.out 1; go_wp2_with fail; clear c0 c1)
                | (refine (HC3.out _).mono ?_; rintro e w2 ⟨rfl, rfl⟩; have c0 := cell_of_blk HKB.out 0; have c1 := cell_of_blk HKB.out 1; go_wp2_with fail; clear c0 c1)
                | (refine (HC4.out _).mono ?_; rintro e w2 ⟨rfl, rfl⟩; have c0 := cell_of_blk HKB.out 0; have c1 := cell_of_blk HKB.out 1; go_wp2_with fail; clear c0 c1))
              go_roundw
              case rel => exact ⟨k + 1, false, false, true, by omega, by go_num, rfl, rfl, by first | rfl | (show Value.bool (z.k != 1) = _; rw [bne, h4]; rfl), hid HE.out, HB⟩
              case measure => simp [intOf]; omega
          · repeat (first
              | (refine (HC1.out _).mono ?_; rintro e w2 ⟨rfl, h2⟩; replace HB := hid (HB.out.trans (h2.mono HB.out.size)); replace HKB := hid ((h2.block R (lt_of_heap HKB.out)).trans HKB.out); clear h2; have c0 := cell_of_blk HKB.out 0; have c1 := cell_of_blk HKB.out 1; go_wp2_with fail; clear c0 c1)
              | (refine (HC2.out _).mono ?_; rintro e w2 ⟨rfl, h2⟩; replace HB := hid (HB.out.trans (h2.mono HB.out.size)); replace HKB := hid ((h2.block R (lt_of_heap HKB.out)).trans HKB.out); clear h2; have c0 := cell_of_blk HKB.out 0; have c1 := cell_of_blk HKB.out 1; go_wp2_with fail; clear c0 c1)
              | (refine (HC3.out _).mono ?_; rintro e w2 ⟨rfl, rfl⟩; have c0 := cell_of_blk HKB.out 0; have c1 := cell_of_blk HKB.out 1; go_wp2_with fail; clear c0 c1)
              | (refine (HC4.out _).mono ?_; rintro e w2 ⟨rfl, rfl⟩; have c0 := cell_of_blk HKB.out 0; have c1 := cell_of_blk HKB.out 1; go_wp2_with fail; clear c0 c1))
            go_ret
            exact ⟨by rw [HE.out]; rfl, HB.out⟩
          · cases qw <;> cases ch
            · repeat (first
                | (refine (HC1.out _).mono ?_; rintro e w2 ⟨rfl, h2⟩; replace HB := hid (HB.out.trans (h2.mono HB.out.size)); replace HKB := hid ((h2.block R (lt_of_heap HKB.out)).trans HKB.out); clear h2; have c0 := cell_of_blk HKB.out 0; have c1 := cell_of_blk HKB.out 1; go_wp2_with fail; clear c0 c1)
                | (refine (HC2.out _).mono ?_; rintro e w2 ⟨rfl, h2⟩; replace HB := hid (HB.out.trans (h2.mono HB.out.size)); replace HKB := hid ((h2.block R (lt_of_heap HKB.out)).trans HKB.out); clear h2; have c0 := cell_of_blk HKB.out 0; have c1 := cell_of_blk HKB.out 1; go_wp2_with fail; clear c0 c1)
                | (refine (HC3.out _).mono ?_; rintro e w2 ⟨rfl, rfl⟩; have c0 := cell_of_blk HKB.out 0; have c1 := cell_of_blk HKB.out 1; go_wp2_with fail; clear c0 c1)
                | (refine (HC4.out _).mono ?_; rintro e w2 ⟨rfl, rfl⟩; have c0 := cell_of_blk HKB.out 0; have c1 := cell_of_blk HKB.out 1; go_wp2_with fail; clear c0 c1))
              go_roundw
              case rel => exact ⟨k + 1, true, true, true, by omega, by go_num, rfl, rfl, by first | rfl | (show Value.bool (z.k != 1) = _; rw [bne, h4]; rfl), hid HE.out, HB⟩
              case measure => simp [intOf]; omega
            · repeat (first
                | (refine (HC1.out _).mono ?_; rintro e w2 ⟨rfl, h2⟩; replace HB := hid (HB.out.trans (h2.mono HB.out.size)); replace HKB := hid ((h2.block R (lt_of_heap HKB.out)).trans HKB.out); clear h2; have c0 := cell_of_blk HKB.out 0; have c1 := cell_of_blk HKB.out 1; go_wp2_with fail; clear c0 c1)
                | (refine (HC2.out _).mono ?_; rintro e w2 ⟨rfl, h2⟩; replace HB := hid (HB.out.trans (h2.mono HB.out.size)); replace HKB := hid ((h2.block R (lt_of_heap HKB.out)).trans HKB.out); clear h2; have c0 := cell_of_blk HKB.out 0; have c1 := cell_of_blk HKB.out 1; go_wp2_with fail; clear c0 c1)
                | (refine (HC3.out _).mono ?_; rintro e w2 ⟨rfl, rfl⟩; have c0 := cell_of_blk HKB.out 0; have c1 := cell_of_blk HKB.out 1; go_wp2_with fail; clear c0 c1)
                | (refine (HC4.out _).mono ?_; rintro e w2 ⟨rfl, rfl⟩; have c0 := cell_of_blk HKB.out 0; have c1 := cell_of_blk HKB.out 1; go_wp2_with fail; clear c0 c1))
              go_roundw
              case rel => exact ⟨k + 1, true, true, true, by omega, by go_num, rfl, rfl, by first | rfl | (show Value.bool (z.k != 1) = _; rw [bne, h4]; rfl), hid HE.out, HB⟩
              case measure => simp [intOf]; omega
            · repeat (first
                | (refine (HC1.out _).mono ?_; rintro e w2 ⟨rfl, h2⟩; replace HB := hid (HB.out.trans (h2.mono HB.out.size)); replace HKB := hid ((h2.block R (lt_of_heap HKB.out)).trans HKB.out); clear h2; have c0 := cell_of_blk HKB.out 0; have c1 := cell_of_blk HKB.out 1; go_wp2_with fail; clear c0 c1)
                | (refine (HC2.out _).mono ?_; rintro e w2 ⟨rfl, h2⟩; replace HB := hid (HB.out.trans (h2.mono HB.out.size)); replace HKB := hid ((h2.block R (lt_of_heap HKB.out)).trans HKB.out); clear h2; have c0 := cell_of_blk HKB.out 0; have c1 := cell_of_blk HKB.out 1; go_wp2_with fail; clear c0 c1)
                | (refine (HC3.out _).mono ?_; rintro e w2 ⟨rfl, rfl⟩; have c0 := cell_of_blk HKB.out 0; have c1 := cell_of_blk HKB.out 1; go_wp2_with fail; clear c0 c1)
                | (refine (HC4.out _).mono ?_; rintro e w2 ⟨rfl, rfl⟩; have c0 := cell_of_blk HKB.out 0; have c1 := cell_of_blk HKB.out 1; go_wp2_with fail; clear c0 c1))
              go_roundw
              case rel => exact ⟨k + 1, true, false, true, by omega, by go_num, rfl, rfl, by first | rfl | (show Value.bool (z.k != 1) = _; rw [bne, h4]; rfl), hid HE.out, HB⟩
              case measure => simp [intOf]; omega
            · repeat (first
                | (refine (HC1.out _).mono ?_; rintro e w2 ⟨rfl, h2⟩; replace HB := hid (HB.out.trans (h2.mono HB.out.size)); replace HKB := hid ((h2.block R (lt_of_heap HKB.out)).trans HKB.out); clear h2; have c0 := cell_of_blk HKB.out 0; have c1 := cell_of_blk HKB.out 1; go_wp2_with fail; clear c0 c1)
                | (refine (HC2.out _).mono ?_; rintro e w2 ⟨rfl, h2⟩; replace HB := hid (HB.out.trans (h2.mono HB.out.size)); replace HKB := hid ((h2.block R (lt_of_heap HKB.out)).trans HKB.out); clear h2; have c0 := cell_of_blk HKB.out 0; have c1 := cell_of_blk HKB.out 1; go_wp2_with fail; clear c0 c1)
                | (refine (HC3.out _).mono ?_; rintro e w2 ⟨rfl, rfl⟩; have c0 := cell_of_blk HKB.out 0; have c1 := cell_of_blk HKB.out 1; go_wp2_with fail; clear c0 c1)
                | (refine (HC4.out _).mono ?_; rintro e w2 ⟨rfl, rfl⟩; have c0 := cell_of_blk HKB.out 0; have c1 := cell_of_blk HKB.out 1; go_wp2_with fail; clear c0 c1))
              go_roundw
              case rel => exact ⟨k + 1, true, false, true, by omega, by go_num, rfl, rfl, by first | rfl | (show Value.bool (z.k != 1) = _; rw [bne, h4]; rfl), hid HE.out, HB⟩
              case measure => simp [intOf]; omega
          · repeat (first
              | (refine (HC1.out _).mono ?_; rintro e w2 ⟨rfl, h2⟩; replace HB := hid (HB.out.trans (h2.mono HB.out.size)); replace HKB := hid ((h2.block R (lt_of_heap HKB.out)).trans HKB.out); clear h2; have c0 := cell_of_blk HKB.out 0; have c1 := cell_of_blk HKB.out 1; go_wp2_with fail; clear c0 c1)
              | (refine (HC2.out _).mono ?_; rintro e w2 ⟨rfl, h2⟩; replace HB := hid (HB.out.trans (h2.mono HB.out.size)); replace HKB := hid ((h2.block R (lt_of_heap HKB.out)).trans HKB.out); clear h2; have c0 := cell_of_blk HKB.out 0; have c1 := cell_of_blk HKB.out 1; go_wp2_with fail; clear c0 c1)
              | (refine (HC3.out _).mono ?_; rintro e w2 ⟨rfl, rfl⟩; have c0 := cell_of_blk HKB.out 0; have c1 := cell_of_blk HKB.out 1; go_wp2_with fail; clear c0 c1)
              | (refine (HC4.out _).mono ?_; rintro e w2 ⟨rfl, rfl⟩; have c0 := cell_of_blk HKB.out 0; have c1 := cell_of_blk HKB.out 1; go_wp2_with fail; clear c0 c1))
            go_ret
            exact ⟨by rw [HE.out]; rfl, HB.out⟩
      · clear HC3 HC4
        repeat (first
          | (refine (HC1.out _).mono ?_; rintro e w2 ⟨rfl, h2⟩; replace HB := hid (HB.out.trans (h2.mono HB.out.size)); replace HKB := hid ((h2.block R (lt_of_heap HKB.out)).trans HKB.out); clear h2; have c0 := cell_of_blk HKB.out 0; have c1 := cell_of_blk HKB.out 1; go_wp2_with fail; clear c0 c1)
          | (refine (HC2.out _).mono ?_; rintro e w2 ⟨rfl, h2⟩; replace HB := hid (HB.out.trans (h2.mono HB.out.size)); replace HKB := hid ((h2.block R (lt_of_heap HKB.out)).trans HKB.out); clear h2; have c0 := cell_of_blk HKB.out 0; have c1 := cell_of_blk HKB.out 1; go_wp2_with fail; clear c0 c1)
          | (refine (HC3.out _).mono ?_; rintro e w2 ⟨rfl, rfl⟩; have c0 := cell_of_blk HKB.out 0; have c1 := cell_of_blk HKB.out 1; go_wp2_with fail; clear c0 c1)
          | (refine (HC4.out _).mono ?_; rintro e w2 ⟨rfl, rfl⟩; have c0 := cell_of_blk HKB.out 0; have c1 := cell_of_blk HKB.out 1; go_wp2_with fail; clear c0 c1))
        go_ret
        exact ⟨by rw [HE.out]; rfl, HB.out⟩
    · obtain rfl : k = n := by omega
      have HR : Hid (Hu.rowsD l false false false = ch) := hid (by rw [HD.out, List.drop_of_length_le (by have := HN.out; omega)]; rfl)
      go_wp2_with fail
      go_ret
      exact ⟨by rw [HR.out]; rfl, HB.out⟩
end Go.Proofs.YthnibchlgcgalaaGreatDoor
