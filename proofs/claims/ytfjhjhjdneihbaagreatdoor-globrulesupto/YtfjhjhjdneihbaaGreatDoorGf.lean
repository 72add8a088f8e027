/-
  The walks of what reads an item, a set and a part.
-/
import Derived.Test.YtfjhjhjdneihbaaGreatDoorGe
namespace Go.Proofs.YtfjhjhjdneihbaaGreatDoor
open Go.RowKit

theorem cls_pre (t : List UInt8) : Lib.hasPrefix t [91, 58] = Pg.isCls t := rfl
theorem item_cls {f : UInt8 → Bool} {t : List UInt8} (h : Pg.isCls t = true) : Pg.item f t = rcT f (Pg.rc t) := by unfold Pg.item; rw [if_pos h]; rfl
theorem item_none {f : UInt8 → Bool} {t : List UInt8} (h : Pg.isCls t = false) (hb : Pg.rb t = none) : Pg.item f t = none := by unfold Pg.item; rw [if_neg (by rw [h]; simp), hb]
theorem item_lone {f : UInt8 → Bool} {t r : List UInt8} {lo : UInt8} (h : Pg.isCls t = false) (hb : Pg.rb t = some (lo, r)) (hr : Pg.rng r = false) : Pg.item f t = some (Pg.addR f lo lo, r) := by
  unfold Pg.item; rw [if_neg (by rw [h]; simp), hb]; simp only; rw [if_neg (by rw [hr]; simp)]
theorem item_rng {f : UInt8 → Bool} {t r : List UInt8} {lo : UInt8} (h : Pg.isCls t = false) (hb : Pg.rb t = some (lo, r)) (hr : Pg.rng r = true) :
    Pg.item f t = match Pg.rb (r.drop 1) with | none => none | some (hi, r') => some (Pg.addR f lo hi, r') := by
  unfold Pg.item; rw [if_neg (by rw [h]; simp), hb]; simp only; rw [if_pos hr]
  cases Pg.rb (r.drop 1) <;> rfl
theorem rng_pos {r : List UInt8} (h : Pg.rng r = true) : 1 ≤ r.length := by
  cases r with
  | nil => cases h
  | cons _ _ => simp

set_option maxHeartbeats 4000000 in
set_option maxRecDepth 100000 in
theorem readItem_any (f : UInt8 → Bool) (s : ByteArray) (w : World) :
    Calls Tryz.prog 93 #[flV f, .string s] w fun e w' => e = .returned (itT (Pg.item f s.data.toList)) ∧ Below w.heap.size w w' := by
  have HB : Hid (((w.alloc (.cells (flC f) 102)).alloc (.cells #[.int .u64 0, .int .u64 0, .int .u64 0, .int .u64 0] 102)).heap[w.heap.size]? = some (.cells (flC f) 102 (0, 0))) := hid (heap_b0 _ _ _)
  have HC : Hid (((w.alloc (.cells (flC f) 102)).alloc (.cells #[.int .u64 0, .int .u64 0, .int .u64 0, .int .u64 0] 102)).heap[w.heap.size + 1]? = some (.cells (flC Pg.no) 102 (0, 0))) := hid ((heap_b1 _ _ _).trans (by rw [no_cells]))
  have hb0 : Below w.heap.size w ((w.alloc (.cells (flC f) 102)).alloc (.cells #[.int .u64 0, .int .u64 0, .int .u64 0, .int .u64 0] 102)) := ((Below.refl _ _).alloc (Nat.le_refl _) _).alloc (by simp) _
  cases hc : Pg.isCls s.data.toList with
  | true =>
    have HI := hid (item_cls (f := f) hc)
    have HP := hid ((cls_pre s.data.toList).trans hc)
    clear hc
    go_enter Tryz.func93, Tryz.ntmps93
    go_wp2_with fail
    generalize (w.alloc (.cells (flC f) 102)).alloc (.cells #[.int .u64 0, .int .u64 0, .int .u64 0, .int .u64 0] 102) = W at *
    refine (Tryz.strings_HasPrefix s ⟨#[91, 58]⟩ _).mono ?_
    rintro e w1 ⟨rfl, rfl⟩
    rw [show (ByteArray.mk #[91, 58]).data.toList = [91, 58] from rfl, HP.out]
    obtain ⟨d0, d1, d2, d3⟩ := cells4 HB.out
    go_wp2_with fail
    refine (readClass_any f s w1).mono ?_
    rintro e w3 ⟨rfl, hb4⟩
    have HC3 := hid ((hb4.block _ (lt_of_heap HC.out)).trans HC.out)
    have hB4 := hb0.trans (hb4.mono hb0.size)
    rw [← HI.out]
    clear d0 d1 d2 d3 hb0 hb4 HB HC HI
    obtain ⟨d0, d1, d2, d3⟩ := cells4 HC3.out
    have f0 := free_of_blk HC3.out 0
    have f1 := free_of_blk HC3.out 1
    have f2 := free_of_blk HC3.out 2
    have f3 := free_of_blk HC3.out 3
    cases hi : Pg.item f s.data.toList with
    | none =>
      have HI := hid hi
      clear hi
      simp only [itT]
      rw [flV_eq Pg.no]
      go_wp2
      refine bodyPost_ret (v := .tuple #[flV Pg.no, .string ⟨#[]⟩, globErr]) (by simp [results, Tryz.results93, go_sem, flC, d0, d1, d2, d3]) rfl ⟨by rw [HI.out]; rfl, ?_⟩
      exact (((hB4.setCell (by simp) _).setCell (by simp) _).setCell (by simp) _).setCell (by simp) _
    | some x =>
      obtain ⟨g, r⟩ := x
      have HI := hid hi
      clear hi
      simp only [itT]
      rw [flV_eq g]
      go_wp2
      refine bodyPost_ret (v := .tuple #[flV g, .string ⟨r.toArray⟩, .nilIface]) (by simp [results, Tryz.results93, go_sem, flC, d0, d1, d2, d3]) rfl ⟨by rw [HI.out]; rfl, ?_⟩
      exact (((hB4.setCell (by simp) _).setCell (by simp) _).setCell (by simp) _).setCell (by simp) _
  | false =>
    have HP := hid ((cls_pre s.data.toList).trans hc)
    have HCl := hid hc
    clear hc
    go_enter Tryz.func93, Tryz.ntmps93
    go_wp2_with fail
    generalize (w.alloc (.cells (flC f) 102)).alloc (.cells #[.int .u64 0, .int .u64 0, .int .u64 0, .int .u64 0] 102) = W at *
    refine (Tryz.strings_HasPrefix s ⟨#[91, 58]⟩ _).mono ?_
    rintro e w1 ⟨rfl, rfl⟩
    rw [show (ByteArray.mk #[91, 58]).data.toList = [91, 58] from rfl, HP.out]
    go_wp2_with fail
    refine (readByte_any s w1).mono ?_
    rintro e w2 ⟨rfl, hb2⟩
    have HB2 := hid ((hb2.block _ (lt_of_heap HB.out)).trans HB.out)
    have HC2 := hid ((hb2.block _ (lt_of_heap HC.out)).trans HC.out)
    have hB2 := hb0.trans (hb2.mono hb0.size)
    clear hb0 hb2 HB HC HP
    cases hr : Pg.rb s.data.toList with
    | none =>
      have HI := hid (item_none (f := f) HCl.out hr)
      clear hr
      simp only [rbT]
      obtain ⟨d0, d1, d2, d3⟩ := cells4 HC2.out
      have f0 := free_of_blk HC2.out 0
      have f1 := free_of_blk HC2.out 1
      have f2 := free_of_blk HC2.out 2
      have f3 := free_of_blk HC2.out 3
      go_wp2
      refine bodyPost_ret (v := .tuple #[flV Pg.no, .string ⟨#[]⟩, globErr]) (by simp [results, Tryz.results93, go_sem, flC, d0, d1, d2, d3, wd_no]) rfl ⟨by rw [HI.out]; rfl, ?_⟩
      exact (((hB2.setCell (by simp) _).setCell (by simp) _).setCell (by simp) _).setCell (by simp) _
    | some x =>
      obtain ⟨lo, r⟩ := x
      have HRb := hid hr
      clear hr
      simp only [rbT]
      obtain ⟨X, hX⟩ : ∃ X : ByteArray, X = ⟨r.toArray⟩ := ⟨_, rfl⟩
      have hXd : X.data.toList = r := by rw [hX]
      rw [← hX]
      subst hXd
      clear hX
      cases hg : Pg.rng X.data.toList with
      | false =>
        have HI := hid (item_lone (f := f) HCl.out HRb.out hg)
        have HG := hid hg
        clear hg
        go_wp2_with fail
        refine (beginsRange_any X _).mono ?_
        rintro e w3 ⟨rfl, rfl⟩
        rw [HG.out]
        obtain ⟨d0, d1, d2, d3⟩ := cells4 HB2.out
        go_wp2_with fail
        refine (with_any f lo lo w3).mono ?_
        rintro e w4 ⟨rfl, hb4⟩
        have HC3 := hid ((hb4.block _ (lt_of_heap HC2.out)).trans HC2.out)
        have hB4 := hB2.trans (hb4.mono hB2.size)
        clear d0 d1 d2 d3 hB2 hb4 HB2 HC2
        obtain ⟨d0, d1, d2, d3⟩ := cells4 HC3.out
        have f0 := free_of_blk HC3.out 0
        have f1 := free_of_blk HC3.out 1
        have f2 := free_of_blk HC3.out 2
        have f3 := free_of_blk HC3.out 3
        rw [flV_eq (Pg.addR f lo lo)]
        go_wp2
        refine bodyPost_ret (v := .tuple #[flV (Pg.addR f lo lo), .string X, .nilIface]) (by simp [results, Tryz.results93, go_sem, flC, d0, d1, d2, d3]) rfl ⟨by rw [HI.out]; exact ret3 rfl (congrArg Value.string (bytes_eta X).symm) rfl, ?_⟩
        exact (((hB4.setCell (by simp) _).setCell (by simp) _).setCell (by simp) _).setCell (by simp) _
      | true =>
        have HI := hid (item_rng (f := f) HCl.out HRb.out hg)
        have hpos := rng_pos hg
        rw [size_data] at hpos
        have hpos' : (1 : Int) ≤ (X.size : Int) := by omega
        have HG := hid hg
        clear hg
        have HE : Hid ((X.extract 1 X.size).data.toList = X.data.toList.drop 1) := hid (by rw [ext_drop X 1])
        go_wp2_with fail
        refine (beginsRange_any X _).mono ?_
        rintro e w3 ⟨rfl, rfl⟩
        rw [HG.out]
        go_wp2_with fail
        refine (readByte_any (X.extract 1 X.size) w3).mono ?_
        rintro e w4 ⟨rfl, hb4⟩
        rw [HE.out]
        have HB3 := hid ((hb4.block _ (lt_of_heap HB2.out)).trans HB2.out)
        have HC3 := hid ((hb4.block _ (lt_of_heap HC2.out)).trans HC2.out)
        have hB4 := hB2.trans (hb4.mono hB2.size)
        clear hB2 hb4 HB2 HC2
        cases hr : Pg.rb (X.data.toList.drop 1) with
        | none =>
          rw [hr] at HI
          clear hr
          simp only [rbT]
          obtain ⟨d0, d1, d2, d3⟩ := cells4 HC3.out
          have f0 := free_of_blk HC3.out 0
          have f1 := free_of_blk HC3.out 1
          have f2 := free_of_blk HC3.out 2
          have f3 := free_of_blk HC3.out 3
          go_wp2
          refine bodyPost_ret (v := .tuple #[flV Pg.no, .string ⟨#[]⟩, globErr]) (by simp [results, Tryz.results93, go_sem, flC, d0, d1, d2, d3, wd_no]) rfl ⟨by rw [HI.out]; rfl, ?_⟩
          exact (((hB4.setCell (by simp) _).setCell (by simp) _).setCell (by simp) _).setCell (by simp) _
        | some y =>
          obtain ⟨hi, r'⟩ := y
          rw [hr] at HI
          clear hr
          simp only [rbT]
          obtain ⟨d0, d1, d2, d3⟩ := cells4 HB3.out
          go_wp2_with fail
          refine (with_any f lo hi w4).mono ?_
          rintro e w5 ⟨rfl, hb5⟩
          have HC4 := hid ((hb5.block _ (lt_of_heap HC3.out)).trans HC3.out)
          have hB5 := hB4.trans (hb5.mono hB4.size)
          clear d0 d1 d2 d3 hB4 hb5 HB3 HC3
          obtain ⟨d0, d1, d2, d3⟩ := cells4 HC4.out
          have f0 := free_of_blk HC4.out 0
          have f1 := free_of_blk HC4.out 1
          have f2 := free_of_blk HC4.out 2
          have f3 := free_of_blk HC4.out 3
          rw [flV_eq (Pg.addR f lo hi)]
          go_wp2
          refine bodyPost_ret (v := .tuple #[flV (Pg.addR f lo hi), .string ⟨r'.toArray⟩, .nilIface]) (by simp [results, Tryz.results93, go_sem, flC, d0, d1, d2, d3]) rfl ⟨by rw [HI.out]; rfl, ?_⟩
          exact (((hB5.setCell (by simp) _).setCell (by simp) _).setCell (by simp) _).setCell (by simp) _
end Go.Proofs.YtfjhjhjdneihbaaGreatDoor
