/-
  The walks of what reads a class and an item of a set.
-/
import Derived.Test.YtfjhjhjdneihbaaGreatDoorGd
namespace Go.Proofs.YtfjhjhjdneihbaaGreatDoor
open Go.RowKit

/-- a set and what stands behind it, or the error -/
def itT : Option ((UInt8 → Bool) × List UInt8) → Value
  | none => .tuple #[flV Pg.no, .string ⟨#[]⟩, globErr]
  | some (f, r) => .tuple #[flV f, .string ⟨r.toArray⟩, .nilIface]
theorem heap_b0 (w : World) (a b : Obj) : ((w.alloc a).alloc b).heap[w.heap.size]? = some a := by
  rw [Below.heap_alloc _ _ _ (by simp)]
  exact heap_alloc_new _ _
theorem heap_b1 (w : World) (a b : Obj) : ((w.alloc a).alloc b).heap[w.heap.size + 1]? = some b := by
  have e : w.heap.size + 1 = (w.alloc a).heap.size := by simp
  rw [e]
  exact heap_alloc_new _ _
theorem no_cells : (#[.int .u64 0, .int .u64 0, .int .u64 0, .int .u64 0] : Array Value) = flC Pg.no := by simp [flC, wd_no]

theorem rc_step {t : List UInt8} {k : Nat} {nm : List UInt8} {p : UInt8 → Bool} (hk : Pg.rows[k]? = some (nm, p)) : Pg.rcIn t (Pg.rows.drop k) = if Lib.hasPrefix t (Pg.full nm) then some (p, Lib.trimPrefix t (Pg.full nm)) else Pg.rcIn t (Pg.rows.drop (k + 1)) := by
  obtain ⟨hl, e⟩ := List.getElem?_eq_some_iff.1 hk
  rw [List.drop_eq_getElem_cons hl, e, Pg.rcIn]
  unfold Lib.trimPrefix Lib.hasPrefix
  split
  · rfl
  · rfl
def rcT (f : UInt8 → Bool) (x : Option ((UInt8 → Bool) × List UInt8)) : Option ((UInt8 → Bool) × List UInt8) := x.map fun x => (Pg.or2 f x.1, x.2)

set_option maxHeartbeats 4000000 in
set_option maxRecDepth 100000 in
theorem readClass_any (f : UInt8 → Bool) (s : ByteArray) (w : World) :
    Calls Tryz.prog 100 #[flV f, .string s] w fun e w' => e = .returned (itT (rcT f (Pg.rc s.data.toList))) ∧ Below w.heap.size w w' := by
  go_enter Tryz.func100, Tryz.ntmps100
  go_wp2_with fail
  refine (classes_any _).mono ?_
  rintro e w1 ⟨v, rfl, hR, hb1⟩
  have HB : Hid (w1.heap[w.heap.size]? = some (.cells (flC f) 102 (0, 0))) := hid ((hb1.block _ (by simp; omega)).trans (heap_b0 _ _ _))
  have HC : Hid (w1.heap[w.heap.size + 1]? = some (.cells (flC Pg.no) 102 (0, 0))) := hid ((hb1.block _ (by simp)).trans ((heap_b1 _ _ _).trans (by rw [no_cells])))
  have hb : Below w.heap.size w w1 := (((Below.refl _ _).alloc (Nat.le_refl _) _).alloc (by simp) _).trans (hb1.mono (by simp; omega))
  have HR := hid hR
  obtain ⟨b, rfl, _⟩ := hR
  clear hb1
  go_wp2
  go_loopw [13] (fun i wr => ∃ k : Nat, k ≤ 12 ∧ i = .int .i64 k ∧ Below w.heap.size w wr ∧ wr.heap[w.heap.size]? = some (.cells (flC f) 102 (0, 0)) ∧ wr.heap[w.heap.size + 1]? = some (.cells (flC Pg.no) 102 (0, 0)) ∧ RowsAt wr (.slice (some ⟨b, 0, none⟩) 12 12) ∧ Hid (Pg.rc s.data.toList = Pg.rcIn s.data.toList (Pg.rows.drop k))) (fun i _ => 12 - (intOf i).toNat)
  case atStart => exact ⟨0, by omega, rfl, hb, HB.out, HC.out, HR.out, (rfl : Pg.rc s.data.toList = _)⟩
  case round =>
    obtain ⟨k, hk, rfl, hb', hB, hC, hR, HQ⟩ := hrel
    have HB := hid hB
    have HC := hid hC
    have HR := hid hR
    clear hB hC
    by_cases hlt : k < 12
    · obtain ⟨⟨nm, p⟩, hrow⟩ : ∃ x, Pg.rows[k]? = some x := ⟨_, List.getElem?_eq_getElem (show k < Pg.rows.length from hlt)⟩
      obtain ⟨b', e, hbl, hrows⟩ := hR
      obtain rfl : b = b' := by injection e with e; injection e with e; injection e
      obtain ⟨h1, x, h2, ht⟩ := hrows k nm p hrow
      have HS := hid (rc_step (t := s.data.toList) hrow)
      rw [← HQ.out] at HS
      have HT := hid ht
      obtain ⟨g, lb, rfl, _⟩ := ht
      rw [Nat.mul_comm] at h1 h2
      obtain ⟨F, hF⟩ : ∃ F : ByteArray, F = ⟨(Pg.full nm).toArray⟩ := ⟨_, rfl⟩
      have hFd : F.data.toList = Pg.full nm := by rw [hF]
      rw [← hF] at h1
      rw [← hFd] at HS
      clear hrows hrow hF hFd HQ e
      have hb2 : Below w.heap.size w (wr.alloc (.cells #[.string F, .func (.func g) #[] lb] 185)) := hb'.alloc hb'.size _
      have hb3 : Below wr.heap.size wr (wr.alloc (.cells #[.string F, .func (.func g) #[] lb] 185)) := (Below.refl _ _).alloc (Nat.le_refl _) _
      go_wp2_with fail
      refine (Tryz.strings_CutPrefix s F _).mono ?_
      rintro e w2 ⟨rfl, hw2⟩
      have lt0 := lt_of_heap HB.out
      have lt1 := lt_of_heap HC.out
      rw [hw2]
      clear hw2 w2
      cases hp : Lib.hasPrefix s.data.toList F.data.toList with
      | true =>
        have HF : Hid (Pg.rc s.data.toList = some (p, Lib.trimPrefix s.data.toList F.data.toList)) := hid (by rw [HS.out, hp]; rfl)
        have HB2 := hid ((hb3.block _ lt0).trans HB.out)
        have HC2 := hid ((hb3.block _ lt1).trans HC.out)
        have HT2 := hid (HT.out.later hb3)
        have c0 : (wr.alloc (.cells #[.string F, .func (.func g) #[] lb] 185)).cell? ⟨wr.heap.size, 0, none⟩ = some (.string F) := by simp
        have c1 : (wr.alloc (.cells #[.string F, .func (.func g) #[] lb] 185)).cell? ⟨wr.heap.size, 1, none⟩ = some (.func (.func g) #[] lb) := by simp
        have hn : ¬ w.heap.size = wr.heap.size := by omega
        clear hp HS hb' HB HC HR HT h1 h2 hbl hb3
        generalize wr.alloc (.cells #[.string F, .func (.func g) #[] lb] 185) = W at *
        obtain ⟨d0, d1, d2, d3⟩ := cells4 HB2.out
        go_wp2_with fail
        refine (withClass_any f p F _ W HT2.out).mono ?_
        rintro e w3 ⟨rfl, hb4⟩
        have HC3 := hid ((hb4.block _ (lt_of_heap HC2.out)).trans HC2.out)
        have hB4 := hb2.trans (hb4.mono hb2.size)
        clear d0 d1 d2 d3 hb2 hb4 HB2 HC2 HT2
        obtain ⟨d0, d1, d2, d3⟩ := cells4 HC3.out
        have f0 := free_of_blk HC3.out 0
        have f1 := free_of_blk HC3.out 1
        have f2 := free_of_blk HC3.out 2
        have f3 := free_of_blk HC3.out 3
        rw [flV_eq (Pg.or2 f p)]
        go_wp2
        refine bodyPost_ret (v := .tuple #[flV (Pg.or2 f p), .string ⟨(Lib.trimPrefix s.data.toList F.data.toList).toArray⟩, .nilIface]) (by simp [results, Tryz.results100, go_sem, flC, d0, d1, d2, d3]) rfl ⟨by rw [HF.out]; rfl, ?_⟩
        exact (((hB4.setCell (by simp) _).setCell (by simp) _).setCell (by simp) _).setCell (by simp) _
      | false =>
        have HF : Hid (Pg.rc s.data.toList = Pg.rcIn s.data.toList (Pg.rows.drop (k + 1))) := hid (by rw [HS.out, hp]; rfl)
        have HB2 := hid ((hb3.block _ lt0).trans HB.out)
        have HC2 := hid ((hb3.block _ lt1).trans HC.out)
        have HR2 := hid (HR.out.later hb3)
        clear hp HS hb' HB HC HR HT h1 h2 hbl hb3
        generalize wr.alloc (.cells #[.string F, .func (.func g) #[] lb] 185) = W at *
        go_wp2
        go_roundw
        case rel => exact ⟨k + 1, by omega, by go_num, hb2, HB2.out, HC2.out, HR2.out, HF⟩
        case measure => simp [intOf]; omega
    · obtain rfl : k = 12 := by omega
      have HF : Hid (Pg.rc s.data.toList = none) := hid (by rw [HQ.out]; rfl)
      clear hR
      obtain ⟨d0, d1, d2, d3⟩ := cells4 HC.out
      have f0 := free_of_blk HC.out 0
      have f1 := free_of_blk HC.out 1
      have f2 := free_of_blk HC.out 2
      have f3 := free_of_blk HC.out 3
      go_wp2
      refine bodyPost_ret (v := .tuple #[flV Pg.no, .string ⟨#[]⟩, globErr]) (by simp [results, Tryz.results100, go_sem, flC, d0, d1, d2, d3, wd_no]) rfl ⟨by rw [HF.out]; rfl, ?_⟩
      exact (((hb'.setCell (by simp) _).setCell (by simp) _).setCell (by simp) _).setCell (by simp) _
end Go.Proofs.YtfjhjhjdneihbaaGreatDoor
