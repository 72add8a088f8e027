/-
  The walks of trimBlanks and readPiece.
-/
import Derived.Test.YtfjhjhjdneihbaaGreatDoorGt
import Derived.Lib.TrimByte
namespace Go.Proofs.YtfjhjhjdneihbaaGreatDoor
open Go.RowKit

/-- a line without the blanks at its end, but for one that a backslash keeps -/
def trm (l : List UInt8) : List UInt8 := if Lib.hasSuffix (Lib.trimRightB l 32) [92] = true ∧ (Lib.trimRightB l 32).length < l.length then l.take ((Lib.trimRightB l 32).length + 1) else Lib.trimRightB l 32
set_option maxHeartbeats 1000000 in
theorem trimBlanks_any (s : ByteArray) (w : World) (hs : s.size ≤ 4194304) :
    Calls Tryz.prog 11 #[.string s] w fun e w' => e = .returned (.string ⟨(trm s.data.toList).toArray⟩) ∧ w' = w := by
  obtain ⟨T, hT⟩ : ∃ T : ByteArray, T = ⟨(Lib.trimRightB s.data.toList 32).toArray⟩ := ⟨_, rfl⟩
  have hTd : T.data.toList = Lib.trimRightB s.data.toList 32 := by rw [hT]
  have HT := hid hT
  have HD : Hid (trm s.data.toList = if Lib.hasSuffix T.data.toList [92] = true ∧ T.size < s.size then s.data.toList.take (T.size + 1) else T.data.toList) := hid (by
    unfold trm
    rw [← hTd, size_data, size_data])
  have hTs : T.size ≤ 9223372036854775807 := by
    have h : (Lib.trimRightB s.data.toList 32).length ≤ s.data.toList.length := by
      unfold Lib.trimRightB
      rw [List.length_reverse]
      exact Nat.le_trans (List.dropWhile_sublist _).length_le (Nat.le_of_eq (List.length_reverse ..))
    rw [← hTd, size_data, size_data] at h
    omega
  clear hT hTd
  cases h1 : Lib.hasSuffix T.data.toList [92] with
  | false =>
    have HE : Hid (T = ⟨(trm s.data.toList).toArray⟩) := hid (by rw [HD.out, h1, if_neg (by simp)])
    have H1 := hid h1
    clear h1
    go_enter Tryz.func11, Tryz.ntmps11
    go_wp2_with fail
    refine (Tryz.strings_TrimRight_one s 32 (by decide) _ (by omega)).mono ?_
    rintro e w1 ⟨rfl, rfl⟩
    rw [← HT.out]
    go_wp2_with fail
    refine (Tryz.strings_HasSuffix T ⟨#[92]⟩ _ hTs).mono ?_
    rintro e w2 ⟨rfl, rfl⟩
    rw [show (ByteArray.mk #[92]).data.toList = [92] from rfl, H1.out]
    go_wp2
    go_ret
    exact ⟨by rw [← HE.out]; rfl, rfl⟩
  | true =>
    by_cases h2 : T.size < s.size
    · have HE : Hid (s.extract 0 (T.size + 1) = ⟨(trm s.data.toList).toArray⟩) := hid (bytes_ext (by rw [HD.out, h1, if_pos ⟨rfl, h2⟩]; simp [ByteArray.data_extract]))
      have H1 := hid h1
      clear h1
      go_enter Tryz.func11, Tryz.ntmps11
      go_wp2_with fail
      refine (Tryz.strings_TrimRight_one s 32 (by decide) _ (by omega)).mono ?_
      rintro e w1 ⟨rfl, rfl⟩
      rw [← HT.out]
      go_wp2_with fail
      refine (Tryz.strings_HasSuffix T ⟨#[92]⟩ _ hTs).mono ?_
      rintro e w2 ⟨rfl, rfl⟩
      rw [show (ByteArray.mk #[92]).data.toList = [92] from rfl, H1.out]
      go_wp2
      go_ret
      exact ⟨by rw [← HE.out]; rfl, rfl⟩
    · have HE : Hid (T = ⟨(trm s.data.toList).toArray⟩) := hid (by rw [HD.out, if_neg (fun h => h2 h.2)])
      have H1 := hid h1
      clear h1
      go_enter Tryz.func11, Tryz.ntmps11
      go_wp2_with fail
      refine (Tryz.strings_TrimRight_one s 32 (by decide) _ (by omega)).mono ?_
      rintro e w1 ⟨rfl, rfl⟩
      rw [← HT.out]
      go_wp2_with fail
      refine (Tryz.strings_HasSuffix T ⟨#[92]⟩ _ hTs).mono ?_
      rintro e w2 ⟨rfl, rfl⟩
      rw [show (ByteArray.mk #[92]).data.toList = [92] from rfl, H1.out]
      go_wp2
      go_ret
      exact ⟨by rw [← HE.out]; rfl, rfl⟩

theorem two_set {w1 : World} {g : Nat} {x y u v : Value} {t : TypeId} (h : w1.heap[g]? = some (.cells #[x, y] t (0, 0))) : ((w1.setCell ⟨g, 0, none⟩ u).setCell ⟨g, 1, none⟩ v).heap[g]? = some (.cells #[u, v] t (0, 0)) := by
  have h1 := heap_setCell_same w1 g 0 #[x, y] t u h
  have h2 := heap_setCell_same (w1.setCell ⟨g, 0, none⟩ u) g 1 _ t v h1
  simpa using h2

theorem cell_far {w : World} {g k b o : Nat} {u : Value} (h : b ≠ g) : (w.setCell ⟨g, k, none⟩ u).cell? ⟨b, o, none⟩ = w.cell? ⟨b, o, none⟩ :=
  World.cell?_of_block (w := w) (a := ⟨b, o, none⟩) (Below.heap_setCell w ⟨g, k, none⟩ u b h)
theorem GlobB.set {w : World} {B bg g k : Nat} {P : List Pg.Pt} {u : Value} (h : GlobB w B bg P) (hg : g < B) : GlobB (w.setCell ⟨g, k, none⟩ u) B bg P := by
  obtain ⟨⟨a, c, h1, h2, h3⟩, h4, h5⟩ := h
  have hne : bg ≠ g := by omega
  refine ⟨⟨a, c, (cell_far hne).trans h1, h2, ?_⟩, h4, fun a' n' c' hc => h5 a' n' c' (by rw [cell_far hne] at hc; exact hc)⟩
  rcases h3 with h3 | ⟨b, ha, hl, h3⟩
  · exact .inl h3
  · have hb : b ≠ g := by
      have := h5 ⟨b, 0, none⟩ _ _ (by rw [h1, ha])
      simp only at this
      omega
    exact .inr ⟨b, ha, by simpa [World.setCell] using hl, fun j p hj => ⟨fun i hi => (cell_far hb).trans ((h3 j p hj).1 i hi), (cell_far hb).trans (h3 j p hj).2⟩⟩
theorem GlobAt.set {w : World} {bg g k : Nat} {P : List Pg.Pt} {u : Value} {q : Option Addr} (h : GlobAt w bg P) (hc : w.cell? ⟨g, 0, none⟩ = some (.pointer q)) : GlobAt (w.setCell ⟨g, k, none⟩ u) bg P := by
  obtain ⟨a, c, h1, h2, h3⟩ := h
  have hne : bg ≠ g := fun e => by rw [e, hc] at h1; cases h1
  refine ⟨a, c, (cell_far hne).trans h1, h2, ?_⟩
  rcases h3 with h3 | ⟨b, ha, hl, h3⟩
  · exact .inl h3
  · by_cases hP : P = []
    · exact .inl hP
    · obtain ⟨p0, hp0⟩ : ∃ p, P[0]? = some p := ⟨_, List.getElem?_eq_getElem (List.length_pos_iff.2 hP)⟩
      have hb : b ≠ g := fun e => by
        have := (h3 0 p0 hp0).1 0 (by omega)
        rw [e] at this
        simp only [Nat.zero_mul, Nat.add_zero] at this
        rw [hc] at this
        cases this
      exact .inr ⟨b, ha, by simpa [World.setCell] using hl, fun j p hj => ⟨fun i hi => (cell_far hb).trans ((h3 j p hj).1 i hi), (cell_far hb).trans (h3 j p hj).2⟩⟩

/-! ### a piece -/
/-- a piece's value -/
def PieceV (w : World) (B : Nat) (v : Value) (q : Pg.Pi) : Prop := (q = none ∧ v = .agg #[.pointer none, .bool true]) ∨ ∃ P bg, q = some P ∧ v = .agg #[.pointer (some ⟨bg, 0, none⟩), .bool false] ∧ GlobB w B bg P
/-- a rooted rule's piece; its error's number -/
def pceN (l : List UInt8) : Nat := if l = [42, 42] then 0 else cmpN l
def pce (l : List UInt8) : Option Pg.Pi := if l = [42, 42] then some none else (cmp l).map some
def PceP (B : Nat) (l : List UInt8) (e : Ending) (w' : World) : Prop :=
  (pce l = none ∧ (pceN l = 2 ∨ pceN l = 40) ∧ e = .returned (.tuple #[.agg #[.pointer none, .bool false], .iface 36 (.int .i64 (pceN l))])) ∨ ∃ q v, pce l = some q ∧ pceN l = 0 ∧ e = .returned (.tuple #[v, .nilIface]) ∧ PieceV w' B v q
set_option maxHeartbeats 2000000 in
theorem readPiece_any (s : ByteArray) (w : World) :
    Calls Tryz.prog 63 #[.string s] w fun e w' => PceP w.heap.size s.data.toList e w' ∧ Below w.heap.size w w' := by
  by_cases h : s.data.toList = [42, 42]
  · have hq : (s.toList == [42, 42]) = true := by rw [ByteArray.toList_eq, h]; rfl
    have HP : Hid (pce s.data.toList = some none ∧ pceN s.data.toList = 0) := hid ⟨by unfold pce; rw [if_pos h], by unfold pceN; rw [if_pos h]⟩
    clear h
    go_enter Tryz.func63, Tryz.ntmps63
    go_wp2
    refine bodyPost_ret (v := .tuple #[.agg #[.pointer none, .bool true], .nilIface]) (by simp [results, Tryz.results63, go_sem]) rfl ⟨.inr ⟨none, _, HP.out.1, HP.out.2, rfl, .inl ⟨rfl, rfl⟩⟩, ?_⟩
    exact (Below.refl _ _).alloc (Nat.le_refl _) _
  · have hq : (s.toList == [42, 42]) = false := by rw [ByteArray.toList_eq]; exact beq_eq_false_iff_ne.2 h
    have HP : Hid (pce s.data.toList = (cmp s.data.toList).map some ∧ pceN s.data.toList = cmpN s.data.toList) := hid ⟨by unfold pce; rw [if_neg h], by unfold pceN; rw [if_neg h]⟩
    clear h
    go_enter Tryz.func63, Tryz.ntmps63
    go_wp2_with fail
    refine (compile_allF s _).mono ?_
    rintro e w1 ⟨hc, hb⟩
    rcases hc with ⟨h1, h2, rfl⟩ | ⟨P, bg, h1, h2, rfl, h3⟩
    · have HC : Hid (pce s.data.toList = none ∧ (pceN s.data.toList = 2 ∨ pceN s.data.toList = 40)) := hid ⟨by rw [HP.out.1, h1]; rfl, by rw [HP.out.2]; exact h2⟩
      rw [← HP.out.2]
      have hc0 := (hb.block w.heap.size (by simp)).trans (heap_alloc_new w (.cells #[.pointer none, .bool false] 126))
      have k0 := cell_of_blk hc0 0
      have k1 := cell_of_blk hc0 1
      have f0 := free_of_blk hc0 0
      have f1 := free_of_blk hc0 1
      have hs2 := two_set (u := .pointer none) (v := .bool false) hc0
      have q0 := cell_of_blk hs2 0
      have q1 := cell_of_blk hs2 1
      have hB : Below w.heap.size w ((w1.setCell ⟨w.heap.size, 0, none⟩ (.pointer none)).setCell ⟨w.heap.size, 1, none⟩ (.bool false)) := ((((Below.refl _ _).alloc (Nat.le_refl _) _).trans (hb.mono (by simp))).setCell (Nat.le_refl _) _).setCell (Nat.le_refl _) _
      have HB := hid hB
      clear h1 h2 hs2 hB
      go_wp2
      refine bodyPost_ret (v := .tuple #[.agg #[.pointer none, .bool false], .iface 36 (.int .i64 (pceN s.data.toList))]) (by simp [results, Tryz.results63, go_sem, q0, q1]) rfl ⟨.inl ⟨HC.out.1, HC.out.2, rfl⟩, HB.out⟩
    · have HC : Hid (pce s.data.toList = some (some P) ∧ pceN s.data.toList = 0) := hid ⟨by rw [HP.out.1, h1]; rfl, by rw [HP.out.2]; exact h2⟩
      have hc0 := (hb.block w.heap.size (by simp)).trans (heap_alloc_new w (.cells #[.pointer none, .bool false] 126))
      have k0 := cell_of_blk hc0 0
      have k1 := cell_of_blk hc0 1
      have f0 := free_of_blk hc0 0
      have f1 := free_of_blk hc0 1
      have hs2 := two_set (u := .pointer (some ⟨bg, 0, none⟩)) (v := .bool false) hc0
      have q0 := cell_of_blk hs2 0
      have q1 := cell_of_blk hs2 1
      have hB : Below w.heap.size w ((w1.setCell ⟨w.heap.size, 0, none⟩ (.pointer (some ⟨bg, 0, none⟩))).setCell ⟨w.heap.size, 1, none⟩ (.bool false)) := ((((Below.refl _ _).alloc (Nat.le_refl _) _).trans (hb.mono (by simp))).setCell (Nat.le_refl _) _).setCell (Nat.le_refl _) _
      have HB := hid hB
      have HG : Hid (GlobB ((w1.setCell ⟨w.heap.size, 0, none⟩ (.pointer (some ⟨bg, 0, none⟩))).setCell ⟨w.heap.size, 1, none⟩ (.bool false)) w.heap.size bg P) := hid (((h3.set (by simp)).set (by simp)).mono (by simp))
      clear h1 h2 h3 hs2 hB
      go_wp2
      refine bodyPost_ret (v := .tuple #[.agg #[.pointer (some ⟨bg, 0, none⟩), .bool false], .nilIface]) (by simp [results, Tryz.results63, go_sem, q0, q1]) rfl ⟨.inr ⟨some P, _, HC.out.1, HC.out.2, rfl, .inr ⟨P, bg, rfl, rfl, HG.out⟩⟩, HB.out⟩
end Go.Proofs.YtfjhjhjdneihbaaGreatDoor
