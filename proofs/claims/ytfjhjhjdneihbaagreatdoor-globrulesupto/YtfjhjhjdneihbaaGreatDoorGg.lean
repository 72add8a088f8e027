/-
  The walk of what reads a set.
-/
import Derived.Test.YtfjhjhjdneihbaaGreatDoorGf
namespace Go.Proofs.YtfjhjhjdneihbaaGreatDoor
open Go.RowKit

def lenOf : Value → Nat
  | .string x => x.size
  | _ => 0
theorem rset_cut (t : List UInt8) : Pg.rset t = (Pg.loop true Pg.no (cutT t)).map fun x => (Pg.turn (Pg.isNot t) x.1, x.2) := rfl
theorem turn_false (g : UInt8 → Bool) : Pg.turn false g = g := by funext c; simp [Pg.turn]
theorem loop_end {g : UInt8 → Bool} {t : List UInt8} (h : t.head? = some 93) : Pg.loop false g t = some (g, t.drop 1) := by rw [Pg.loop_eq, if_pos ⟨rfl, h⟩]
theorem loop_go {fr : Bool} {g : UInt8 → Bool} {t : List UInt8} (h : fr = true ∨ ¬ t.head? = some 93) : Pg.loop fr g t = match Pg.item g t with | none => none | some (s', t') => Pg.loop false s' t' := by
  have hn : ¬ (fr = false ∧ t.head? = some 93) := by
    rintro ⟨h1, h2⟩
    rcases h with h | h
    · rw [h1] at h; cases h
    · exact h h2
  rw [Pg.loop_eq, if_neg hn]
  cases Pg.item g t <;> rfl
theorem loop_bad {fr : Bool} {g : UInt8 → Bool} {t : List UInt8} (h : fr = true ∨ ¬ t.head? = some 93) (hi : Pg.item g t = none) : Pg.loop fr g t = none := by rw [loop_go h, hi]
theorem loop_on {fr : Bool} {g g' : UInt8 → Bool} {t r : List UInt8} (h : fr = true ∨ ¬ t.head? = some 93) (hi : Pg.item g t = some (g', r)) : Pg.loop fr g t = Pg.loop false g' r := by rw [loop_go h, hi]

def GoOn (fr : Bool) (t : List UInt8) : Prop := fr = true ∨ ¬ t.head? = some 93
/-- what the walk of readSet keeps -/
def SetInv (s : ByteArray) (w wr : World) (fr : Bool) (X : ByteArray) (g : UInt8 → Bool) : Prop :=
  Below w.heap.size w wr ∧ wr.heap[w.heap.size]? = some (.cells (flC Pg.no) 102 (0, 0)) ∧ wr.heap[w.heap.size + 1]? = some (.cells (flC g) 102 (0, 0)) ∧ Pg.loop fr g X.data.toList = Pg.loop true Pg.no (cutT s.data.toList)

set_option maxHeartbeats 4000000 in
set_option maxRecDepth 100000 in
theorem readSet_any (s : ByteArray) (w : World) :
    Calls Tryz.prog 73 #[.string s] w fun e w' => e = .returned (itT (Pg.rset s.data.toList)) ∧ Below w.heap.size w w' := by
  have HS := hid (rset_cut s.data.toList)
  obtain ⟨X0, hX0⟩ : ∃ X : ByteArray, X = ⟨(cutT s.data.toList).toArray⟩ := ⟨_, rfl⟩
  have hX0d : X0.data.toList = cutT s.data.toList := by rw [hX0]
  obtain ⟨nt, hnt⟩ : ∃ nt, nt = Pg.isNot s.data.toList := ⟨_, rfl⟩
  have HN := hid hnt
  have H0 : Hid (SetInv s w ((w.alloc (.cells #[.int .u64 0, .int .u64 0, .int .u64 0, .int .u64 0] 102)).alloc (.cells #[.int .u64 0, .int .u64 0, .int .u64 0, .int .u64 0] 102)) true X0 Pg.no) := hid
    ⟨((Below.refl _ _).alloc (Nat.le_refl _) _).alloc (by simp) _, (heap_b0 _ _ _).trans (by rw [no_cells]), (heap_b1 _ _ _).trans (by rw [no_cells]), by rw [hX0d]⟩
  have HX0 := hid hX0
  clear hX0 hX0d hnt
  go_enter Tryz.func73, Tryz.ntmps73
  go_wp2_with fail
  refine (cutNot_any s _).mono ?_
  rintro e w1 ⟨rfl, hw1⟩
  rw [hw1, ← HX0.out, ← HN.out]
  clear hw1 w1
  go_wp2
  go_loopw [0, 7] (fun t b wr => ∃ (X : ByteArray) (fr : Bool) (g : UInt8 → Bool), t = .string X ∧ b = .bool fr ∧ SetInv s w wr fr X g) (fun t _ _ => lenOf t)
  case atStart => exact ⟨X0, true, Pg.no, rfl, rfl, H0.out⟩
  case round =>
    obtain ⟨X, fr, g, rfl, rfl, hb, hB, hC, hL⟩ := hrel
    have HB := hid hB
    have HC := hid hC
    have HL := hid hL
    clear hB hC hL H0
    by_cases hend : fr = false ∧ X.data.toList.head? = some 93
    rotate_left
    · cases fr with
      | true =>
        have hgo : GoOn true X.data.toList := .inl rfl
        clear hend
        obtain ⟨d0, d1, d2, d3⟩ := cells4 HC.out
        go_wp2_with fail
        refine (readItem_any g X wr).mono ?_
        rintro e w2 ⟨rfl, hb2⟩
        have HB2 := hid ((hb2.block _ (lt_of_heap HB.out)).trans HB.out)
        have HC2 := hid ((hb2.block _ (lt_of_heap HC.out)).trans HC.out)
        have hB2 := hb.trans (hb2.mono hb.size)
        clear d0 d1 d2 d3 hb hb2 HB HC
        cases hi : Pg.item g X.data.toList with
        | none =>
          have HR : Hid (Pg.rset s.data.toList = none) := hid (by rw [HS.out, ← HL.out, loop_bad hgo hi]; rfl)
          clear hi hgo
          simp only [itT]
          rw [flV_eq Pg.no]
          obtain ⟨d0, d1, d2, d3⟩ := cells4 HC2.out
          have f0 := free_of_blk HC2.out 0
          have f1 := free_of_blk HC2.out 1
          have f2 := free_of_blk HC2.out 2
          have f3 := free_of_blk HC2.out 3
          obtain ⟨e0, e1, e2, e3⟩ := cells4 HB2.out
          have g0 := free_of_blk HB2.out 0
          have g1 := free_of_blk HB2.out 1
          have g2 := free_of_blk HB2.out 2
          have g3 := free_of_blk HB2.out 3
          go_wp2
          refine bodyPost_ret (v := .tuple #[flV Pg.no, .string ⟨#[]⟩, globErr]) (by simp [results, Tryz.results73, go_sem, flC, e0, e1, e2, e3, wd_no]) rfl ⟨by rw [HR.out]; rfl, ?_⟩
          exact (((((((hB2.setCell (by simp) _).setCell (by simp) _).setCell (by simp) _).setCell (by simp) _).setCell (by simp) _).setCell (by simp) _).setCell (by simp) _).setCell (by simp) _
        | some x =>
          obtain ⟨g', r⟩ := x
          have HL2 := hid ((loop_on hgo hi).symm.trans HL.out)
          have hlen := Pg.item_len hi
          rw [size_data] at hlen
          obtain ⟨Y, hY⟩ : ∃ Y : ByteArray, Y = ⟨r.toArray⟩ := ⟨_, rfl⟩
          have hYd : Y.data.toList = r := by rw [hY]
          have hYs : Y.size = r.length := by rw [hY]; exact size_mk r
          simp only [itT]
          rw [← hY]
          rw [← hYd] at HL2
          clear hi hgo hY HL hYd
          rw [flV_eq g']
          obtain ⟨d0, d1, d2, d3⟩ := cells4 HC2.out
          have f0 := free_of_blk HC2.out 0
          have f1 := free_of_blk HC2.out 1
          have f2 := free_of_blk HC2.out 2
          have f3 := free_of_blk HC2.out 3
          go_wp2
          go_roundw
          case rel => exact ⟨Y, false, g', rfl, rfl, (((hB2.setCell (by simp) _).setCell (by simp) _).setCell (by simp) _).setCell (by simp) _, (heap_set4_other _ (by simp)).trans HB2.out, heap_set4 _ HC2.out, HL2.out⟩
          case measure => simp [lenOf]; omega
      | false =>
        have hh : ¬ X.data.toList.head? = some 93 := fun h => hend ⟨rfl, h⟩
        have hgo : GoOn false X.data.toList := .inr hh
        have HP : Hid (Lib.hasPrefix X.data.toList [93] = false) := hid (by rw [pre1]; exact decide_eq_false hh)
        clear hend hh
        obtain ⟨d0, d1, d2, d3⟩ := cells4 HC.out
        go_wp2_with fail
        refine (Tryz.strings_HasPrefix X ⟨#[93]⟩ _).mono ?_
        rintro e w0 ⟨rfl, rfl⟩
        rw [show (ByteArray.mk #[93]).data.toList = [93] from rfl, HP.out]
        go_wp2_with fail
        refine (readItem_any g X w0).mono ?_
        rintro e w2 ⟨rfl, hb2⟩
        have HB2 := hid ((hb2.block _ (lt_of_heap HB.out)).trans HB.out)
        have HC2 := hid ((hb2.block _ (lt_of_heap HC.out)).trans HC.out)
        have hB2 := hb.trans (hb2.mono hb.size)
        clear d0 d1 d2 d3 hb hb2 HB HC
        cases hi : Pg.item g X.data.toList with
        | none =>
          have HR : Hid (Pg.rset s.data.toList = none) := hid (by rw [HS.out, ← HL.out, loop_bad hgo hi]; rfl)
          clear hi hgo
          simp only [itT]
          rw [flV_eq Pg.no]
          obtain ⟨d0, d1, d2, d3⟩ := cells4 HC2.out
          have f0 := free_of_blk HC2.out 0
          have f1 := free_of_blk HC2.out 1
          have f2 := free_of_blk HC2.out 2
          have f3 := free_of_blk HC2.out 3
          obtain ⟨e0, e1, e2, e3⟩ := cells4 HB2.out
          have g0 := free_of_blk HB2.out 0
          have g1 := free_of_blk HB2.out 1
          have g2 := free_of_blk HB2.out 2
          have g3 := free_of_blk HB2.out 3
          go_wp2
          refine bodyPost_ret (v := .tuple #[flV Pg.no, .string ⟨#[]⟩, globErr]) (by simp [results, Tryz.results73, go_sem, flC, e0, e1, e2, e3, wd_no]) rfl ⟨by rw [HR.out]; rfl, ?_⟩
          exact (((((((hB2.setCell (by simp) _).setCell (by simp) _).setCell (by simp) _).setCell (by simp) _).setCell (by simp) _).setCell (by simp) _).setCell (by simp) _).setCell (by simp) _
        | some x =>
          obtain ⟨g', r⟩ := x
          have HL2 := hid ((loop_on hgo hi).symm.trans HL.out)
          have hlen := Pg.item_len hi
          rw [size_data] at hlen
          obtain ⟨Y, hY⟩ : ∃ Y : ByteArray, Y = ⟨r.toArray⟩ := ⟨_, rfl⟩
          have hYd : Y.data.toList = r := by rw [hY]
          have hYs : Y.size = r.length := by rw [hY]; exact size_mk r
          simp only [itT]
          rw [← hY]
          rw [← hYd] at HL2
          clear hi hgo hY HL hYd
          rw [flV_eq g']
          obtain ⟨d0, d1, d2, d3⟩ := cells4 HC2.out
          have f0 := free_of_blk HC2.out 0
          have f1 := free_of_blk HC2.out 1
          have f2 := free_of_blk HC2.out 2
          have f3 := free_of_blk HC2.out 3
          go_wp2
          go_roundw
          case rel => exact ⟨Y, false, g', rfl, rfl, (((hB2.setCell (by simp) _).setCell (by simp) _).setCell (by simp) _).setCell (by simp) _, (heap_set4_other _ (by simp)).trans HB2.out, heap_set4 _ HC2.out, HL2.out⟩
          case measure => simp [lenOf]; omega
    · obtain ⟨rfl, hend⟩ := hend
      have hpos : 1 ≤ X.size := by
        rw [← size_data]
        cases hl : X.data.toList with
        | nil => rw [hl] at hend; cases hend
        | cons _ _ => simp
      have hpos' : (1 : Int) ≤ (X.size : Int) := by omega
      have HE := hid (ext_drop X 1)
      have HF := hid (loop_end (g := g) hend)
      rw [HL.out] at HF
      have HP : Hid (Lib.hasPrefix X.data.toList [93] = true) := hid (by rw [pre1]; exact decide_eq_true hend)
      clear hend HL
      obtain ⟨d0, d1, d2, d3⟩ := cells4 HC.out
      go_wp2_with fail
      refine (Tryz.strings_HasPrefix X ⟨#[93]⟩ _).mono ?_
      rintro e w1 ⟨rfl, rfl⟩
      rw [show (ByteArray.mk #[93]).data.toList = [93] from rfl, HP.out]
      cases nt with
      | false =>
        have HR : Hid (Pg.rset s.data.toList = some (g, X.data.toList.drop 1)) := hid (by rw [HS.out, HF.out, ← HN.out]; simp [turn_false])
        obtain ⟨e0, e1, e2, e3⟩ := cells4 HB.out
        have f0 := free_of_blk HB.out 0
        have f1 := free_of_blk HB.out 1
        have f2 := free_of_blk HB.out 2
        have f3 := free_of_blk HB.out 3
        go_wp2
        go_region
        all_goals go_wp2
        refine bodyPost_ret (v := .tuple #[flV g, .string (X.extract 1 X.size), .nilIface]) (by simp [results, Tryz.results73, go_sem, flC, e0, e1, e2, e3]) rfl ⟨by rw [HR.out]; exact ret3 rfl (congrArg Value.string HE.out) rfl, ?_⟩
        exact ((((hb.setCell (by simp) _).setCell (by simp) _).setCell (by simp) _).setCell (by simp) _).drew
      | true =>
        have HR : Hid (Pg.rset s.data.toList = some (Pg.turn true g, X.data.toList.drop 1)) := hid (by rw [HS.out, HF.out, ← HN.out]; rfl)
        go_wp2_with fail
        refine (others_any g w1).mono ?_
        rintro e w2 ⟨rfl, hb2⟩
        have HB2 := hid ((hb2.block _ (lt_of_heap HB.out)).trans HB.out)
        have HC2 := hid ((hb2.block _ (lt_of_heap HC.out)).trans HC.out)
        have hB2 := hb.trans (hb2.mono hb.size)
        clear d0 d1 d2 d3 hb hb2 HB HC
        obtain ⟨d0, d1, d2, d3⟩ := cells4 HC2.out
        have f0 := free_of_blk HC2.out 0
        have f1 := free_of_blk HC2.out 1
        have f2 := free_of_blk HC2.out 2
        have f3 := free_of_blk HC2.out 3
        obtain ⟨e0, e1, e2, e3⟩ := cells4 HB2.out
        have g0 := free_of_blk HB2.out 0
        have g1 := free_of_blk HB2.out 1
        have g2 := free_of_blk HB2.out 2
        have g3 := free_of_blk HB2.out 3
        rw [flV_eq (Pg.turn true g)]
        go_wp2
        go_region
        all_goals go_wp2
        refine bodyPost_ret (v := .tuple #[flV (Pg.turn true g), .string (X.extract 1 X.size), .nilIface]) (by simp [results, Tryz.results73, go_sem, flC, e0, e1, e2, e3]) rfl ⟨by rw [HR.out]; exact ret3 rfl (congrArg Value.string HE.out) rfl, ?_⟩
        exact ((((((((hB2.setCell (by simp) _).setCell (by simp) _).setCell (by simp) _).setCell (by simp) _).setCell (by simp) _).setCell (by simp) _).setCell (by simp) _).setCell (by simp) _).drew
end Go.Proofs.YtfjhjhjdneihbaaGreatDoor
