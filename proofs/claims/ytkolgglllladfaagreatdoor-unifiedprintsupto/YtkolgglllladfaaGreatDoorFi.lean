/-
  Unified diffs: the program's Reader: NewReader, Left, Next, Pass.
-/
import Derived.Test.YtkolgglllladfaaGreatDoorFh
import Derived.Test.YtkolgglllladfaaGreatDoorGrX
import Derived.Test.YtkolgglllladfaaGreatDoorGrJ3
namespace Go.Proofs.YtkolgglllladfaaGreatDoor
open Go.RowKit

/-- a reader: the number of its next line, and what is not read yet -/
def RdrAt (w : World) (R c : Nat) (x : ByteArray) : Prop := w.heap[R]? = some (.cells #[.int .i64 c, .string x] 104)
def nxB (x : ByteArray) : ByteArray := ⟨(Un.nx x.data.toList).toArray⟩
def advB (x : ByteArray) : ByteArray := ⟨(Un.adv x.data.toList).toArray⟩
theorem nxB_data (x : ByteArray) : (nxB x).data.toList = Un.nx x.data.toList := rfl
theorem advB_data (x : ByteArray) : (advB x).data.toList = Un.adv x.data.toList := rfl
theorem dsize (x : ByteArray) : x.data.toList.length = x.size := by rw [Array.length_toList]; rfl
theorem ba_ext {x y : ByteArray} (h : x.data.toList = y.data.toList) : x = y := by
  cases x; cases y
  simp at h
  rw [h]
theorem nxB_size (x : ByteArray) : (nxB x).size ≤ x.size + 1 := by
  have := Un.nx_size x.data.toList
  rw [← nxB_data, dsize, dsize] at this
  exact this
theorem advB_size (x : ByteArray) : (advB x).size ≤ x.size := by
  have := Un.adv_len x.data.toList
  rw [← advB_data, dsize, dsize] at this
  exact this
theorem RdrAt.lt {w : World} {R c : Nat} {x : ByteArray} (h : RdrAt w R c x) : R < w.heap.size := lt_of_heap h
theorem RdrAt.below {w w' : World} {R c : Nat} {x : ByteArray} (h : RdrAt w R c x) (hb : Below w.heap.size w w') : RdrAt w' R c x := (hb.block R h.lt).trans h
theorem RdrAt.drewN {w : World} {R c : Nat} {x : ByteArray} (h : RdrAt w R c x) (n : Nat) : RdrAt (w.drewN n) R c x := h
/-- all but the reader is as it was -/
def KeptR (R : Nat) (w w' : World) : Prop := Kept (fun g => g = R) w w'
theorem KeptR.refl (R : Nat) (w : World) : KeptR R w w := ⟨rfl, rfl, rfl, Nat.le_refl _, fun _ _ _ => rfl⟩
theorem KeptR.trans {R : Nat} {a b c : World} (h : KeptR R a b) (k : KeptR R b c) : KeptR R a c :=
  ⟨k.os.trans h.os, k.tape.trans h.tape, k.output.trans h.output, Nat.le_trans h.size k.size, fun g hg hx => (k.block g (Nat.lt_of_lt_of_le hg h.size) hx).trans (h.block g hg hx)⟩
theorem KeptR.of {R : Nat} {w w' : World} (h : Below w.heap.size w w') : KeptR R w w' := ⟨h.os, h.tape, h.output, h.size, fun g hg _ => h.block g hg⟩
theorem KeptR.below {R B : Nat} {w w' : World} (h : KeptR R w w') (hR : B ≤ R) (hB : B ≤ w.heap.size) : Below B w w' := Kept.below h (fun g hg => by rw [hg]; exact hR) hB
theorem KeptR.set {R : Nat} {w w' : World} (h : KeptR R w w') (k : Nat) (u : Value) : KeptR R w (w'.setCell ⟨R, k, none⟩ u) :=
  ⟨h.os, h.tape, h.output, by simp only [World.setCell, Array.size_modify]; exact h.size, fun g hg hx => by
    rw [← h.block g hg hx]
    have hne : R ≠ g := fun e => hx e.symm
    simp [World.setCell, Array.getElem?_modify, hne]⟩
theorem KeptR.drewN {R : Nat} {w w' : World} (h : KeptR R w w') (n : Nat) : KeptR R w (w'.drewN n) := ⟨h.os, h.tape, h.output, h.size, h.block⟩
theorem ext0 (x : ByteArray) (k : Nat) : (x.extract 0 k).data.toList = x.data.toList.take k := by
  rw [Lib.extract_data]
  simp
theorem ext1 (x : ByteArray) (k : Nat) : (x.extract k x.size).data.toList = x.data.toList.drop k := by
  rw [Lib.extract_data]
  rw [List.take_of_length_le (by rw [List.length_drop, dsize]; exact Nat.le_refl _)]
theorem nx_hit {x : ByteArray} {k : Nat} (h : Lib.indexByte x.data.toList 10 = (k : Int)) : x.extract 0 (k + 1) = nxB x ∧ k + 1 ≤ x.size := by
  have hfl : Pl.fl x.data.toList = k + 1 := by unfold Pl.fl; rw [h, if_neg (by omega)]; simp
  have hle := Pl.fl_le x.data.toList
  rw [dsize, hfl] at hle
  refine ⟨ba_ext ?_, hle⟩
  rw [ext0, nxB_data]
  unfold Un.nx
  by_cases hm : (10 : UInt8) ∈ x.data.toList ∨ x.data.toList = []
  · rw [if_pos hm, hfl]
  · exfalso
    have h1 := Pl.fl_miss x.data.toList (fun e => hm (.inl e))
    have := Pl.index_miss x.data.toList 10 (fun e => hm (.inl e))
    omega
theorem nx_miss {x : ByteArray} (h : Lib.indexByte x.data.toList 10 < 0) (h0 : x.size ≠ 0) : x ++ (⟨#[10]⟩ : ByteArray) = nxB x := by
  apply ba_ext
  rw [nxB_data]
  unfold Un.nx
  have hm : (10 : UInt8) ∉ x.data.toList := fun e => by
    rcases Pl.parts x.data.toList 10 with hm | ⟨p, q, e1, hp⟩
    · exact hm e
    · rw [e1, Pl.index_hit p q 10 hp] at h
      omega
  rw [if_neg]
  · simp
  · rintro (e | e)
    · exact hm e
    · exact h0 (by rw [← dsize, e]; rfl)
theorem nx_zero {x : ByteArray} (h0 : x.size = 0) : ByteArray.empty = nxB x := by
  apply ba_ext
  have : x.data.toList = [] := List.length_eq_zero_iff.1 (by rw [dsize]; exact h0)
  rw [nxB_data, this]
  rfl
theorem adv_cut (x : ByteArray) : x.extract (min (nxB x).size x.size) x.size = advB x := by
  apply ba_ext
  rw [ext1, advB_data]
  have := Un.nx_len x.data.toList
  rw [← nxB_data, dsize, dsize] at this
  rw [this]
  rfl
set_option maxHeartbeats 1000000 in
set_option maxRecDepth 100000 in
theorem next_any {w : World} {R c : Nat} {x : ByteArray} (h : RdrAt w R c x) (hs : x.size ≤ 4194304) :
    Calls Tryz.prog 57 #[.pointer (some ⟨R, 0, none⟩)] w fun e w' => e = .returned (.string (nxB x)) ∧ w' = w := by
  have hc : w.cell? ⟨R, 1, none⟩ = some (.string x) := cell_of_blk h 1
  have hge := Lib.indexByte_ge x.data.toList 10
  by_cases hi : Lib.indexByte x.data.toList 10 < 0
  · by_cases h0 : x.size = 0
    · have he := Cx.empty_yes x h0
      have HX := hid (nx_zero h0)
      have e1 : Lib.indexByte x.data.toList 10 = -1 := by omega
      rw [← HX.out]
      clear h h0 hge HX
      go_enter Tryz.func57, Tryz.ntmps57
      go_wp2_with (go_at_call 90; refine (Tryz.strings_IndexByte _ _ _).mono ?_; rintro e w' ⟨rfl, rfl⟩; rw [show ((10 : Int).toNat.toUInt8) = 10 from rfl, e1])
      all_goals go_ret
      all_goals exact ⟨rfl, rfl⟩
    · have he := Cx.empty_no x h0
      have HX := hid (nx_miss hi h0)
      rw [← HX.out]
      clear h h0 hge HX
      go_enter Tryz.func57, Tryz.ntmps57
      go_wp2_with (go_at_call 90; refine (Tryz.strings_IndexByte _ _ _).mono ?_; rintro e w' ⟨rfl, rfl⟩; rw [show ((10 : Int).toNat.toUInt8) = 10 from rfl])
      all_goals go_ret
      all_goals exact ⟨rfl, rfl⟩
  · obtain ⟨k, hk⟩ : ∃ k : Nat, Lib.indexByte x.data.toList 10 = (k : Int) := ⟨(Lib.indexByte x.data.toList 10).toNat, by omega⟩
    obtain ⟨e1, e2⟩ := nx_hit hk
    have HX := hid e1
    have e3 : (k : Int) + 1 ≤ (x.size : Int) := by omega
    have e4 : ¬ ((k : Int) < 0) := by omega
    rw [← HX.out]
    clear h hge HX e1 hi
    go_enter Tryz.func57, Tryz.ntmps57
    go_wp2_with (go_at_call 90; refine (Tryz.strings_IndexByte _ _ _).mono ?_; rintro e w' ⟨rfl, rfl⟩; rw [show ((10 : Int).toNat.toUInt8) = 10 from rfl, hk])
    all_goals go_ret
    all_goals exact ⟨by first | rfl | (congr 2), rfl⟩
theorem run_minR (t : TypeId) (x y : Nat) (w : World) : (Builtin.min_ #[3, 3] t #[.int .i64 x, .int .i64 y]).run Tryz.prog w = .ok (.int .i64 ((min x y : Nat) : Int)) w := by
  by_cases h : (y : Int) < x
  · simp [Builtin.min_, Builtin.min2, go_sem, h]; omega
  · simp [Builtin.min_, Builtin.min2, go_sem, h]; omega
theorem setR (w : World) (g k : Nat) (cs : Array Value) (t : TypeId) (u : Value) (h : w.heap[g]? = some (.cells cs t)) : (w.setCell ⟨g, k, none⟩ u).heap[g]? = some (.cells (cs.setIfInBounds k u) t) := by
  have hl := lt_of_heap h
  have he : w.heap[g] = .cells cs t := by rw [Array.getElem?_eq_getElem hl] at h; exact Option.some.inj h
  simp [World.setCell, hl, Array.getElem_modify, he]
theorem frozR {w : World} {g : Nat} {cs : Array Value} {t : TypeId} (h : w.heap[g]? = some (.cells cs t)) (j : Nat) : w.frozen? ⟨g, j, none⟩ = false := by simp [World.frozen?, h]
set_option maxHeartbeats 1000000 in
set_option maxRecDepth 100000 in
theorem pass_any {w : World} {R c : Nat} {x : ByteArray} (h : RdrAt w R c x) (_hs : x.size ≤ 4194304) (hc9 : c ≤ 9000000) :
    Calls Tryz.prog 60 #[.pointer (some ⟨R, 0, none⟩), .string (nxB x)] w fun e w' => e = .returned (.tuple #[]) ∧ RdrAt w' R (c + 1) (advB x) ∧ KeptR R w w' := by
  have h1 : w.cell? ⟨R, 1, none⟩ = some (.string x) := cell_of_blk h 1
  have HX := hid (adv_cut x)
  have hn := nxB_size x
  have hmn : min (nxB x).size x.size ≤ x.size := Nat.min_le_right _ _
  have hmin : ∀ X : World, (Builtin.min_ #[3, 3] 3 #[.int .i64 (nxB x).size, .int .i64 x.size]).run Tryz.prog X = .ok (.int .i64 ((min (nxB x).size x.size : Nat) : Int)) X := fun X => run_minR _ _ _ X
  have HK := hid (KeptR.refl R w)
  have HR := hid h
  generalize nxB x = y at HX hn hmn hmin ⊢
  generalize min y.size x.size = M at HX hmn hmin
  have m1 : (M : Int) ≤ (x.size : Int) := by omega
  have m2 : IntKind.i64.wrap ((c : Int) + 1) = (c : Int) + 1 := wrapOk (by omega) (by omega)
  clear h hmn
  go_enter Tryz.func60, Tryz.ntmps60
  go_wp2_with fail
  refine wp_region_qtail 16 (by kernel_rfl) (by kernel_rfl) ?_
  simp only [List.take_succ_cons, List.take_zero, List.drop_succ_cons, List.drop_zero]
  repeat go_big_quiet_step (fail)
  refine wpQuiet_nil ?_
  have HR1 := hid (HR.out.drewN 1)
  have HK1 := hid (HK.out.drewN 1)
  rw [HX.out]
  generalize w.drewN 1 = w1 at HR1 HK1 ⊢
  clear h1 HX hmin hn m1 HR HK
  have f1 : w1.frozen? ⟨R, 1, none⟩ = false := frozR HR1.out 1
  have c1 : w1.cell? ⟨R, 1, none⟩ = some (.string x) := cell_of_blk HR1.out 1
  have hk2 := setR w1 R 1 _ _ (.string (advB x)) HR1.out
  have HK2 := hid (HK1.out.set 1 (.string (advB x)))
  have f2 : (w1.setCell ⟨R, 1, none⟩ (.string (advB x))).frozen? ⟨R, 0, none⟩ = false := frozR hk2 0
  have c2 : (w1.setCell ⟨R, 1, none⟩ (.string (advB x))).cell? ⟨R, 0, none⟩ = some (.int .i64 c) := cell_of_blk hk2 0
  have HR2 := hid hk2
  clear HR1 HK1 hk2
  go_wp2_with fail
  have HR3 := hid (setR _ R 0 _ _ (.int .i64 ((c : Int) + 1)) HR2.out)
  have HK3 := hid (HK2.out.set 0 (.int .i64 ((c : Int) + 1)))
  exact bodyPost_end (v := .tuple #[]) (by simp [results, Tryz.results60, go_sem]) rfl ⟨rfl, by unfold RdrAt; push_cast; exact HR3.out, HK3.out⟩
set_option maxHeartbeats 1000000 in
theorem newReader_any (x : ByteArray) (w : World) :
    Calls Tryz.prog 78 #[.string x] w fun e w' => e = .returned (.pointer (some ⟨w.heap.size, 0, none⟩)) ∧ RdrAt w' w.heap.size 1 x ∧ Below w.heap.size w w' := by
  have HB := hid ((Below.refl w.heap.size w).alloc (Nat.le_refl _) (.cells #[.int .i64 1, .string x] 104))
  have HK := hid (heap_alloc_new w (.cells #[.int .i64 1, .string x] 104))
  go_enter Tryz.func78, Tryz.ntmps78
  go_wp2_with fail
  go_ret
  exact ⟨rfl, HK.out, HB.out⟩
set_option maxHeartbeats 1000000 in
theorem left_any {w : World} {R c : Nat} {x : ByteArray} (h : RdrAt w R c x) :
    Calls Tryz.prog 81 #[.pointer (some ⟨R, 0, none⟩)] w fun e w' => e = .returned (.string x) ∧ w' = w := by
  have hc : w.cell? ⟨R, 1, none⟩ = some (.string x) := cell_of_blk h 1
  clear h
  go_enter Tryz.func81, Tryz.ntmps81
  go_wp2_with fail
  go_ret
  exact ⟨rfl, rfl⟩
end Go.Proofs.YtkolgglllladfaaGreatDoor
