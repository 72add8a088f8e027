/-
  The walk of readRule.
-/
import Derived.Test.YtfjhjhjdneihbaaGreatDoorGy
namespace Go.Proofs.YtfjhjhjdneihbaaGreatDoor
open Go.RowKit

/-- a line that is a rule -/
def ru2 (l : List UInt8) : List UInt8 := Lib.trimSuffix (Lib.trimPrefix l [33]) [47]
def ruP (l : List UInt8) : Option Ru := if ru2 l = [] then none else (pctP (ru2 l)).map fun ps => ⟨ps, Lib.hasSuffix (Lib.trimPrefix l [33]) [47], Lib.hasPrefix l [33]⟩
def ruN (l : List UInt8) : Nat := if ru2 l = [] then 40 else pctN (ru2 l)
def RuP (B : Nat) (l : List UInt8) (e : Ending) (w' : World) : Prop :=
  (ruP l = none ∧ (ruN l = 2 ∨ ruN l = 40) ∧ ∃ a n c x y, e = .returned (.tuple #[.agg #[.slice a n c, .bool x, .bool y], .iface 36 (.int .i64 (ruN l))])) ∨
  ∃ r b c, ruP l = some r ∧ e = .returned (.tuple #[.agg #[.slice (some ⟨b, 0, none⟩) r.ps.length c, .bool r.dirs, .bool r.back], .nilIface]) ∧ b < w'.heap.size ∧ PcB w' B b r.ps
theorem three_set {w1 : World} {g : Nat} {x y z u v t : Value} {ty : TypeId} (h : w1.heap[g]? = some (.cells #[x, y, z] ty (0, 0))) : (((w1.setCell ⟨g, 0, none⟩ u).setCell ⟨g, 1, none⟩ v).setCell ⟨g, 2, none⟩ t).heap[g]? = some (.cells #[u, v, t] ty (0, 0)) := by
  have h1 := heap_setCell_same w1 g 0 #[x, y, z] ty u h
  have h2 := heap_setCell_same (w1.setCell ⟨g, 0, none⟩ u) g 1 _ ty v h1
  have h3 := heap_setCell_same ((w1.setCell ⟨g, 0, none⟩ u).setCell ⟨g, 1, none⟩ v) g 2 _ ty t h2
  simpa using h3
theorem readPieces_any (s : ByteArray) (w : World) (hs : s.size ≤ 4194304) (hm : MaxVar w) :
    Calls Tryz.prog 34 #[.string s] w fun e w' => PctP w.heap.size s.data.toList e w' ∧ Below w.heap.size w w' := by
  by_cases h : (47 : UInt8) ∈ s.data.toList
  · exact readPieces_many s w hs hm h
  · exact readPieces_one s w h

set_option maxHeartbeats 2000000 in
theorem readRule_any (s : ByteArray) (w : World) (hs : s.size ≤ 4194304) (hm : MaxVar w) :
    Calls Tryz.prog 13 #[.string s] w fun e w' => RuP w.heap.size s.data.toList e w' ∧ Below w.heap.size w w' := by
  obtain ⟨L1, hL1⟩ : ∃ L : ByteArray, L = ⟨(Lib.trimPrefix s.data.toList [33]).toArray⟩ := ⟨_, rfl⟩
  have hd1 : L1.data.toList = Lib.trimPrefix s.data.toList [33] := by rw [hL1]
  obtain ⟨L2, hL2⟩ : ∃ L : ByteArray, L = ⟨(Lib.trimSuffix L1.data.toList [47]).toArray⟩ := ⟨_, rfl⟩
  have hd2 : L2.data.toList = ru2 s.data.toList := by rw [hL2]; unfold ru2; rw [← hd1]
  have hs1 : L1.size ≤ s.size := by
    rw [← size_data, hd1, ← size_data s]
    unfold Lib.trimPrefix
    split
    · rw [List.length_drop]; omega
    · exact Nat.le_refl _
  have hs2 : L2.size ≤ s.size := by
    have h : L2.data.toList.length ≤ L1.data.toList.length := by
      rw [hL2]
      unfold Lib.trimSuffix
      split
      · rw [List.length_take]; omega
      · exact Nat.le_refl _
    rw [size_data, size_data] at h
    omega
  have HL1 := hid hL1
  have HL2 := hid hL2
  have HR : Hid (ruP s.data.toList = (if L2.data.toList = [] then none else (pctP L2.data.toList).map fun ps => (⟨ps, Lib.hasSuffix L1.data.toList [47], Lib.hasPrefix s.data.toList [33]⟩ : Ru)) ∧ ruN s.data.toList = if L2.data.toList = [] then 40 else pctN L2.data.toList) := hid (by
    unfold ruP ruN
    rw [← hd2, ← hd1]
    exact ⟨rfl, rfl⟩)
  generalize hbk : Lib.hasPrefix s.data.toList [33] = bk at HR
  generalize hds : Lib.hasSuffix L1.data.toList [47] = ds at HR
  have HBK := hid hbk
  have HDS := hid hds
  clear hL1 hL2 hd1 hd2 hbk hds
  obtain ⟨W0, hW0⟩ : ∃ W0, W0 = w.alloc (.cells #[.slice none 0 0, .bool false, .bool false] 46) := ⟨_, rfl⟩
  have hb0 : Below w.heap.size w W0 := by rw [hW0]; exact (Below.refl _ _).alloc (Nat.le_refl _) _
  have hX0 : W0.heap[w.heap.size]? = some (.cells #[.slice none 0 0, .bool false, .bool false] 46 (0, 0)) := by rw [hW0]; exact heap_alloc_new _ _
  have hz0 : w.heap.size + 1 = W0.heap.size := by rw [hW0]; simp
  have HW0 := hid hW0
  have HX0 := hid hX0
  have hm0 := hm.below hb0
  clear hW0 hX0 hm
  by_cases he : L2.size = 0
  · have hemp := empty_yes L2 he
    have HE : Hid (ruP s.data.toList = none ∧ ruN s.data.toList = 40) := hid (by
      have h2 : L2.data.toList = [] := nil_data L2 he
      rw [HR.out.1, HR.out.2, if_pos h2, if_pos h2]
      exact ⟨rfl, rfl⟩)
    clear he
    go_enter Tryz.func13, Tryz.ntmps13
    go_wp2_with fail
    refine (Tryz.strings_CutPrefix s ⟨#[33]⟩ _).mono ?_
    rintro e wa ⟨rfl, ha⟩
    subst ha
    rw [show (ByteArray.mk #[33]).data.toList = [33] from rfl, ← HL1.out, HBK.out]
    go_wp2_with fail
    refine (Tryz.strings_CutSuffix L1 ⟨#[47]⟩ _ (by omega)).mono ?_
    rintro e wa ⟨rfl, ha⟩
    subst ha
    rw [show (ByteArray.mk #[47]).data.toList = [47] from rfl, ← HL2.out, HDS.out]
    go_wp2
    refine bodyPost_ret (v := .tuple #[.agg #[.slice none 0 0, .bool false, .bool false], .iface 36 (.int .i64 40)]) (by simp [results, Tryz.results13, go_sem]) rfl ⟨.inl ⟨HE.out.1, .inr HE.out.2, none, 0, 0, false, false, by rw [HE.out.2]; rfl⟩, ?_⟩
    exact (Below.refl _ _).alloc (Nat.le_refl _) _
  · have hemp := empty_no L2 he
    have hne : L2.data.toList ≠ [] := fun e => he (data_nil L2 e)
    have HR2 : Hid (ruP s.data.toList = ((pctP L2.data.toList).map fun ps => (⟨ps, ds, bk⟩ : Ru)) ∧ ruN s.data.toList = pctN L2.data.toList) := hid (by rw [HR.out.1, HR.out.2, if_neg hne, if_neg hne]; exact ⟨rfl, rfl⟩)
    clear he hne
    go_enter Tryz.func13, Tryz.ntmps13
    go_wp2_with fail
    refine (Tryz.strings_CutPrefix s ⟨#[33]⟩ _).mono ?_
    rintro e wa ⟨rfl, ha⟩
    subst ha
    rw [show (ByteArray.mk #[33]).data.toList = [33] from rfl, ← HL1.out, HBK.out]
    go_wp2_with fail
    refine (Tryz.strings_CutSuffix L1 ⟨#[47]⟩ _ (by omega)).mono ?_
    rintro e wa ⟨rfl, ha⟩
    subst ha
    rw [show (ByteArray.mk #[47]).data.toList = [47] from rfl, ← HL2.out, HDS.out]
    go_wp2_with fail
    rw [← HW0.out]
    refine (readPieces_any L2 W0 (by omega) hm0).mono ?_
    rintro e w1 ⟨hpc, hb1⟩
    have hX1 := (hb1.block w.heap.size (by omega)).trans HX0.out
    have k0 := cell_of_blk hX1 0
    have k1 := cell_of_blk hX1 1
    have k2 := cell_of_blk hX1 2
    have f0 := free_of_blk hX1 0
    have f1 := free_of_blk hX1 1
    have f2 := free_of_blk hX1 2
    have hB1 : Below w.heap.size w w1 := hb0.trans (hb1.mono (by omega))
    rcases hpc with ⟨h1, h2, a, n, c, rfl⟩ | ⟨ps, b, c, h1, rfl, h3, h4⟩
    · have HE : Hid (ruP s.data.toList = none ∧ (ruN s.data.toList = 2 ∨ ruN s.data.toList = 40)) := hid ⟨by rw [HR2.out.1, h1]; rfl, by rw [HR2.out.2]; exact h2⟩
      rw [← HR2.out.2]
      have hs3 := three_set (u := .slice a n c) (v := .bool ds) (t := .bool bk) hX1
      have q0 := cell_of_blk hs3 0
      have q1 := cell_of_blk hs3 1
      have q2 := cell_of_blk hs3 2
      have HB : Hid (Below w.heap.size w (((w1.setCell ⟨w.heap.size, 0, none⟩ (.slice a n c)).setCell ⟨w.heap.size, 1, none⟩ (.bool ds)).setCell ⟨w.heap.size, 2, none⟩ (.bool bk))) := hid (((hB1.setCell (Nat.le_refl _) _).setCell (Nat.le_refl _) _).setCell (Nat.le_refl _) _)
      clear h1 h2 hs3 hX1
      go_wp2
      refine bodyPost_ret (v := .tuple #[.agg #[.slice a n c, .bool ds, .bool bk], .iface 36 (.int .i64 (ruN s.data.toList))]) (by simp [results, Tryz.results13, go_sem, q0, q1, q2]) rfl ⟨.inl ⟨HE.out.1, HE.out.2, _, _, _, _, _, rfl⟩, HB.out⟩
    · have HE : Hid (ruP s.data.toList = some ⟨ps, ds, bk⟩) := hid (by rw [HR2.out.1, h1]; rfl)
      have hs3 := three_set (u := .slice (some ⟨b, 0, none⟩) ps.length c) (v := .bool ds) (t := .bool bk) hX1
      have q0 := cell_of_blk hs3 0
      have q1 := cell_of_blk hs3 1
      have q2 := cell_of_blk hs3 2
      have hzz := lt_of_heap hs3
      have HB : Hid (Below w.heap.size w (((w1.setCell ⟨w.heap.size, 0, none⟩ (.slice (some ⟨b, 0, none⟩) ps.length c)).setCell ⟨w.heap.size, 1, none⟩ (.bool ds)).setCell ⟨w.heap.size, 2, none⟩ (.bool bk))) := hid (((hB1.setCell (Nat.le_refl _) _).setCell (Nat.le_refl _) _).setCell (Nat.le_refl _) _)
      have HP : Hid (PcB (((w1.setCell ⟨w.heap.size, 0, none⟩ (.slice (some ⟨b, 0, none⟩) ps.length c)).setCell ⟨w.heap.size, 1, none⟩ (.bool ds)).setCell ⟨w.heap.size, 2, none⟩ (.bool bk)) w.heap.size b ps) := hid ((((h4.set (by omega)).set (by omega)).set (by omega)).mono (by omega))
      have HLt : Hid (b < (((w1.setCell ⟨w.heap.size, 0, none⟩ (.slice (some ⟨b, 0, none⟩) ps.length c)).setCell ⟨w.heap.size, 1, none⟩ (.bool ds)).setCell ⟨w.heap.size, 2, none⟩ (.bool bk)).heap.size) := hid (by simpa [World.setCell] using h3)
      clear h1 h3 h4 hs3 hX1 hzz
      go_wp2
      refine bodyPost_ret (v := .tuple #[.agg #[.slice (some ⟨b, 0, none⟩) ps.length c, .bool ds, .bool bk], .nilIface]) (by simp [results, Tryz.results13, go_sem, q0, q1, q2]) rfl ⟨.inr ⟨⟨ps, ds, bk⟩, b, c, HE.out, rfl, HLt.out, HP.out⟩, HB.out⟩
end Go.Proofs.YtfjhjhjdneihbaaGreatDoor
