/-
  The walk of the program's Words.
-/
import Derived.Test.YtgpgpopefmkpoaaDoorS2
namespace Go.Proofs.YtgpgpopefmkpoaaDoor
open Go.RowKit

theorem emptyB (s : ByteArray) : s.toList.isEmpty = decide (s.size = 0) := by
  rw [ByteArray.toList_eq, Bool.eq_iff_iff, List.isEmpty_iff, ← List.length_eq_zero_iff, dsize]
  simp
theorem empty_yes (s : ByteArray) (h : s.size = 0) : s.toList.isEmpty = true := by rw [emptyB]; exact decide_eq_true h
theorem empty_no (s : ByteArray) (h : s.size ≠ 0) : s.toList.isEmpty = false := by rw [emptyB]; exact decide_eq_false h
theorem eqnil_yes (s : ByteArray) (h : s.size = 0) : (s.toList == []) = true := by
  rw [beq_iff_eq, ByteArray.toList_eq, ← List.length_eq_zero_iff, dsize]; exact h
theorem eqnil_no (s : ByteArray) (h : s.size ≠ 0) : (s.toList == []) = false := by
  rw [beq_eq_false_iff_ne, ne_eq, ByteArray.toList_eq, ← List.length_eq_zero_iff, dsize]; exact h
def strLen : Value → Nat
  | .string s => s.size
  | _ => 0
/-- the pieces of a text as strings -/
def wdB (s : ByteArray) : List ByteArray := (Sd.wds s.data.toList).map bB
theorem wdB_nil {s : ByteArray} (h : s.size = 0) : wdB s = [] := by
  have : s.data.toList = [] := List.length_eq_zero_iff.1 (by rw [dsize]; exact h)
  unfold wdB
  rw [this, Sd.wds_nil]; rfl
theorem wdB_cons {s : ByteArray} (h : s.size ≠ 0) : wdB s = s.extract 0 (Sd.fl s.data.toList) :: wdB (s.extract (Sd.fl s.data.toList) s.size) := by
  have hne : s.data.toList ≠ [] := fun e => h (by rw [← dsize, e]; rfl)
  unfold wdB
  rw [Sd.wds_cons hne, List.map_cons]
  congr 1
  · rw [ext_bB]; simp
  · congr 2
    rw [ext_bB, bB_data, List.take_of_length_le (by rw [List.length_drop, dsize]; omega)]
theorem wdB_len (s : ByteArray) : (wdB s).length ≤ s.size := by
  unfold wdB
  rw [List.length_map, ← dsize]
  exact Sd.wds_len _

set_option maxHeartbeats 2000000 in
theorem words_any (s : ByteArray) (w : World) (hs : s.size ≤ 1099511627776) :
    Calls Tryd.prog 47 #[.string s] w fun e w' => ∃ v, e = .returned v ∧ OwnT w' w.heap.size v (wdB s) ∧ Below w.heap.size w w' := by
  go_enter Tryd.func47, Tryd.ntmps47
  go_wp2
  go_loopw [0, 3] (fun sv v wr => ∃ (t : ByteArray) (P : List ByteArray), sv = .string t ∧ P.length + t.size ≤ s.size ∧ Hid (OwnT wr w.heap.size v P) ∧ Hid (wdB s = P ++ wdB t) ∧ Hid (Below w.heap.size w wr)) (fun sv _ _ => strLen sv)
  case atStart => exact ⟨s, [], rfl, by simp, hid (World.ownsRow_nil _ _ _ _), hid rfl, hid (Below.refl _ _)⟩
  case round =>
    obtain ⟨t, P, rfl, hl, HO, HW, HB⟩ := hrel
    by_cases h0 : t.size = 0
    · have e1 := empty_yes t h0
      have e2 := eqnil_yes t h0
      have HE : Hid (wdB s = P) := hid (by rw [HW.out, wdB_nil h0, List.append_nil])
      go_wp2
      go_ret
      exact ⟨_, rfl, by rw [HE.out]; exact HO.out, HB.out⟩
    · have e1 := empty_no t h0
      have e2 := eqnil_no t h0
      have HE := hid (wdB_cons h0)
      have hf1 : Sd.fl t.data.toList ≤ t.size := by rw [← dsize]; exact Sd.fl_le _
      have hf0 : 0 < Sd.fl t.data.toList := Sd.fl_pos _ fun e => h0 (by rw [← dsize, e]; rfl)
      have HF := hid (firstLength_any t wr (by omega) (by omega))
      generalize Sd.fl t.data.toList = f at HE hf1 hf0 HF
      have HBE : Hid (Below wr.heap.size wr (wr.alloc (.cells #[.string (t.extract 0 f)] 9))) := hid ((Below.refl _ _).alloc (Nat.le_refl _) _)
      go_wp2_with fail
      refine HF.out.mono ?_
      rintro e w2 ⟨rfl, h2⟩
      rw [h2]
      clear h2 w2
      go_wp2_with (at_builtin; refine wpList_append_st rfl _ _ rfl w.heap.size _ P rfl (own_stays HO.out HBE.out) wr.heap.size (t.extract 0 f) rfl (heap_alloc_new wr _) (by omega) (Nat.le_trans HB.out.size HBE.out.size) ?_; intro v3 w3 hO3 _ _ hb3; have HO3 := hid hO3; have HB3 := hid ((HB.out.trans (HBE.out.mono HB.out.size)).trans hb3); clear hO3 hb3)
      go_roundw
      case rel => exact ⟨_, _, rfl, by simp; omega, HO3, hid (by rw [HW.out, HE.out]; simp), HB3⟩
      case measure => simp [strLen]; omega
end Go.Proofs.YtgpgpopefmkpoaaDoor
