/-
  The walk of the law's helper has.
-/
import Derived.Test.YtohfhchpflfokaaGreatDoorHq
import Derived.Test.YtohfhchpflfokaaGreatDoorGh
namespace Go.Proofs.YtohfhchpflfokaaGreatDoor
open Go.RowKit

def seg (l : List UInt8) (f i : Nat) : List UInt8 := (l.drop f).take (i - f)
theorem seg_ext (s : ByteArray) (f i : Nat) : (s.extract f i).data.toList = seg s.data.toList f i := by
  rw [Lib.extract_data]
  rfl
theorem seg_same (l : List UInt8) (f : Nat) : seg l f f = [] := by unfold seg; rw [Nat.sub_self]; rfl
theorem seg_all (l : List UInt8) (f : Nat) : seg l f l.length = l.drop f := by
  unfold seg
  exact List.take_of_length_le (Nat.le_of_eq (List.length_drop ..))
theorem seg_snoc (s : ByteArray) (f i : Nat) (h : i < s.size) (hf : f ≤ i) : seg s.data.toList f (i + 1) = seg s.data.toList f i ++ [s[i]] := by
  unfold seg
  have hl : i < s.data.toList.length := by rw [size_data]; exact h
  rw [show i + 1 - f = i - f + 1 by omega, List.take_add_one, List.getElem?_drop, show f + (i - f) = i by omega, List.getElem?_eq_getElem hl]
  rfl
theorem seg_slash (s : ByteArray) (f i : Nat) (h : i < s.size) (hf : f ≤ i) (hc : s[i] = 47) : s.data.toList.drop f = seg s.data.toList f i ++ 47 :: s.data.toList.drop (i + 1) := by
  have hl : i < s.data.toList.length := by rw [size_data]; exact h
  have h1 := (List.take_append_drop (i - f) (s.data.toList.drop f)).symm
  rw [List.drop_drop, show f + (i - f) = i by omega, List.drop_eq_getElem_cons hl] at h1
  have hc' : s.data.toList[i] = 47 := hc
  rw [hc'] at h1
  exact h1

set_option maxHeartbeats 2000000 in
theorem lawHas_any (s n : ByteArray) (w : World) (hs : s.size ≤ 10000000) :
    Calls Tryz.prog 12 #[.string s, .string n] w fun e w' => e = .returned (.bool (decide (n.data.toList ∈ Pp.pieces s.data.toList))) ∧ w' = w := by
  obtain ⟨A, hA⟩ : ∃ A : Prop, A = (n.data.toList ∈ Pp.pieces s.data.toList) := ⟨_, rfl⟩
  have HAA := hid hA
  go_enter Tryz.func12, Tryz.ntmps12
  go_wp2
  go_loopw [5, 6] (fun f i wr => ∃ a k : Nat, f = .int .i64 a ∧ i = .int .i64 k ∧ wr = w ∧ k ≤ s.size + 1 ∧ a ≤ k ∧ Hid ((k ≤ s.size ∧ (47 : UInt8) ∉ seg s.data.toList a k ∧ (A ↔ n.data.toList ∈ Pp.pieces (s.data.toList.drop a))) ∨ (k = s.size + 1 ∧ ¬ A))) (fun _ i _ => s.size + 1 - (intOf i).toNat)
  case atStart => exact ⟨0, 0, rfl, rfl, rfl, by omega, by omega, hid (.inl ⟨by omega, by rw [seg_same]; simp, by rw [List.drop_zero, HAA.out]⟩)⟩
  case round =>
    obtain ⟨a, k, rfl, rfl, rfl, hk, hak, HQ⟩ := hrel
    clear hA
    by_cases hend : k = s.size + 1
    · have HF : Hid (decide (n.data.toList ∈ Pp.pieces s.data.toList) = false) := hid (by
        rcases HQ.out with h | h
        · omega
        · exact decide_eq_false (fun e => h.2 (HAA.out.mpr e)))
      have hgt : ¬ ((k : Int) ≤ s.size) := by omega
      clear hend
      go_wp2
      go_ret
      exact ⟨ret_bool HF.out.symm, rfl⟩
    · have hle : k ≤ s.size := by omega
      have HN : Hid ((47 : UInt8) ∉ seg s.data.toList a k ∧ (A ↔ n.data.toList ∈ Pp.pieces (s.data.toList.drop a))) := hid (by
        rcases HQ.out with h | h
        · exact h.2
        · omega)
      clear HQ hend
      have HX := hid (seg_ext s a k)
      cases hq : ((s.extract a k).toList == n.toList) with
      | true =>
        have HEq : Hid (n.data.toList = seg s.data.toList a k) := hid (by
          have := beq_iff_eq.1 hq
          rw [ByteArray.toList_eq, ByteArray.toList_eq] at this
          rw [← this, HX.out])
        by_cases hkl : k = s.size
        · have HF : Hid (decide (n.data.toList ∈ Pp.pieces s.data.toList) = true) := hid (by
            refine decide_eq_true (HAA.out.mp (HN.out.2.2 ?_))
            have e : s.data.toList.drop a = seg s.data.toList a k := by rw [hkl, ← size_data, seg_all]
            rw [e, Pp.pieces_none _ HN.out.1, HEq.out]
            simp)
          have hke := ieq (n := k) (m := s.size) (by omega)
          clear hkl
          go_wp2
          go_ret
          exact ⟨ret_bool HF.out.symm, rfl⟩
        · have hlt : k < s.size := by omega
          have hke := ine (n := k) (m := s.size) (by omega)
          clear hkl
          by_cases hc : s[k] = 47
          · have HF : Hid (decide (n.data.toList ∈ Pp.pieces s.data.toList) = true) := hid (by
              refine decide_eq_true (HAA.out.mp (HN.out.2.2 ?_))
              rw [seg_slash s a k hlt hak hc, Pp.pieces_first _ _ HN.out.1, HEq.out]
              simp)
            have hb := byte_eq hc (m := 47) rfl
            clear hc
            go_wp2
            go_ret
            exact ⟨ret_bool HF.out.symm, rfl⟩
          · have HS : Hid ((47 : UInt8) ∉ seg s.data.toList a (k + 1)) := hid (by
              rw [seg_snoc s a k hlt hak]
              intro h
              rcases List.mem_append.1 h with h | h
              · exact HN.out.1 h
              · simp at h; exact hc h.symm)
            have hb := byte_ne hc (m := 47) rfl
            clear hc
            go_wp2
            go_roundw
            case rel => exact ⟨a, k + 1, rfl, by go_num, by first | rfl | trivial, by omega, by omega, hid (.inl ⟨by omega, HS.out, HN.out.2⟩)⟩
            case measure => simp [intOf]; omega
      | false =>
        have HEq : Hid (n.data.toList ≠ seg s.data.toList a k) := hid (fun e => by
          have := beq_eq_false_iff_ne.1 hq
          rw [ByteArray.toList_eq, ByteArray.toList_eq, HX.out] at this
          exact this e.symm)
        by_cases hkl : k = s.size
        · have HF : Hid (¬ A) := hid (by
            intro h
            have h2 := HN.out.2.1 h
            have e : s.data.toList.drop a = seg s.data.toList a k := by rw [hkl, ← size_data, seg_all]
            rw [e, Pp.pieces_none _ HN.out.1] at h2
            simp at h2
            exact HEq.out h2)
          have hke := ieq (n := k) (m := s.size) (by omega)
          have hk1 : k + 1 = s.size + 1 := by omega
          have HK := hid hk1
          clear hkl hk1
          go_wp2
          go_roundw
          case rel => exact ⟨k + 1, k + 1, by go_num, by go_num, by first | rfl | trivial, by omega, by omega, hid (.inr ⟨HK.out, HF.out⟩)⟩
          case measure => simp [intOf]; omega
        · have hlt : k < s.size := by omega
          have hke := ine (n := k) (m := s.size) (by omega)
          clear hkl
          by_cases hc : s[k] = 47
          · have HS : Hid (A ↔ n.data.toList ∈ Pp.pieces (s.data.toList.drop (k + 1))) := hid (by
              rw [HN.out.2, seg_slash s a k hlt hak hc, Pp.pieces_first _ _ HN.out.1]
              constructor
              · intro h
                rcases List.mem_cons.1 h with h | h
                · exact absurd h HEq.out
                · exact h
              · intro h; exact List.mem_cons_of_mem _ h)
            have hb := byte_eq hc (m := 47) rfl
            clear hc
            go_wp2
            go_roundw
            case rel => exact ⟨k + 1, k + 1, by go_num, by go_num, by first | rfl | trivial, by omega, by omega, hid (.inl ⟨by omega, by rw [seg_same]; simp, HS.out⟩)⟩
            case measure => simp [intOf]; omega
          · have HS : Hid ((47 : UInt8) ∉ seg s.data.toList a (k + 1)) := hid (by
              rw [seg_snoc s a k hlt hak]
              intro h
              rcases List.mem_append.1 h with h | h
              · exact HN.out.1 h
              · simp at h; exact hc h.symm)
            have hb := byte_ne hc (m := 47) rfl
            clear hc
            go_wp2
            go_roundw
            case rel => exact ⟨a, k + 1, rfl, by go_num, by first | rfl | trivial, by omega, by omega, hid (.inl ⟨by omega, HS.out, HN.out.2⟩)⟩
            case measure => simp [intOf]; omega
end Go.Proofs.YtohfhchpflfokaaGreatDoor
