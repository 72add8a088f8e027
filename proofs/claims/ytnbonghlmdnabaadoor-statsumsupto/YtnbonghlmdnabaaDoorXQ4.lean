/-
  The walks of the program's writeByte and Quote: for every string that is not too long.
-/
import Derived.Test.YtnbonghlmdnabaaDoorXQ3
import Derived.Test.YtnbonghlmdnabaaDoorShelf
import Derived.Test.YtnbonghlmdnabaaDoorShelf2
namespace Go.Proofs.YtnbonghlmdnabaaDoor.Cx
open Go.RowKit

theorem cells_snoc (l : List UInt8) (c : UInt8) : Lib.byteCells l ++ [.int .u8 c.toNat] = Lib.byteCells (l ++ [c]) := by rw [Lib.byteCells_append]; rfl
theorem byte_back (c : UInt8) : ((c.toNat : Int).toNat).toUInt8 = c := by simp
theorem byte_of (n : Nat) (h : n < 256) : ((n.toUInt8.toNat : Nat) : Int) = (n : Int) := by simp; omega
theorem meant_list : (ByteArray.mk #[7, 8, 9, 10, 11, 12, 13, 34, 92]).data.toList = Pq.meant := rfl
theorem index_lt (l : List UInt8) (c : UInt8) (h : 0 ≤ Lib.indexByte l c) : ∃ k : Nat, Lib.indexByte l c = k ∧ k < l.length := by
  induction l with
  | nil => simp [Lib.indexByte] at h
  | cons b l ih =>
    unfold Lib.indexByte at h ⊢
    by_cases hb : (b == c) = true
    · exact ⟨0, by rw [if_pos hb]; rfl, by simp⟩
    · rw [if_neg hb] at h ⊢
      by_cases h0 : (Lib.indexByte l c == -1) = true
      · rw [if_pos h0] at h
        omega
      · rw [if_neg h0] at h ⊢
        have hge := Lib.indexByte_ge l c
        have hne : Lib.indexByte l c ≠ -1 := fun e => h0 (beq_iff_eq.2 e)
        obtain ⟨k, hk, hl⟩ := ih (by omega)
        exact ⟨k + 1, by rw [hk]; rfl, by simpa using hl⟩

set_option maxHeartbeats 1000000 in
theorem writeByte_any (B b : Nat) (l : List UInt8) (c : UInt8) (w : World) (h : Lib.IsBuilder 51 5 B b (Lib.byteCells l) w) (hl : l.length ≤ 140737488000000) (hB : B ≤ w.heap.size) :
    Calls Tryd.prog 30 #[.pointer (some ⟨b, 0, none⟩), .int .u8 c.toNat] w fun e w' =>
      e = .returned (.tuple #[]) ∧ Lib.IsBuilder 51 5 B b (Lib.byteCells (l ++ Pq.esc c)) w' ∧ Below B w w' := by
  have hc := c.toNat_lt
  have HH := hid h
  clear h
  have hlen : ∀ l' : List UInt8, l'.length ≤ 3 → (Lib.byteCells (l ++ l')).length + 1 ≤ 140737488355328 := fun l' h => by rw [Lib.byteCells_length, List.length_append]; omega
  have HL := hid hlen
  clear hlen
  by_cases hi : (0 : Int) ≤ Lib.indexByte Pq.meant c
  · obtain ⟨k, hk, hk9⟩ := index_lt Pq.meant c hi
    have hk9' : k < 9 := hk9
    have HE : Hid (Pq.esc c = [92] ++ [(ByteArray.mk #[97, 98, 116, 110, 118, 102, 114, 34, 92])[k]]) := hid (by
      unfold Pq.esc
      rw [if_pos hi, hk, letters_data k hk9', Int.toNat_natCast, List.getD_eq_getElem?_getD, List.getElem?_eq_getElem (by exact hk9)]
      rfl)
    have HK := hid hk
    have hk9'' : (k : Int) < 9 := by omega
    clear hi hk hk9
    go_enter Tryd.func30, Tryd.ntmps30
    go_wp2_with fail
    refine (Tryd.strings_IndexByte _ _ _).mono ?_
    rintro e w' ⟨rfl, rfl⟩
    rw [byte_back, meant_list, HK.out]
    go_wp2_with fail
    refine (Tryd.Builder_WriteByte B b _ _ _ HH.out (by simpa using HL.out [] (by simp)) hB).mono ?_
    rintro e w1 ⟨rfl, hA, hb1⟩
    have HA : Hid (Lib.IsBuilder 51 5 B b (Lib.byteCells (l ++ [92])) w1) := hid (by rw [← cells_snoc]; exact .inr hA)
    have z1 := hb1.size
    clear hA
    go_wp2_with fail
    refine (Tryd.Builder_WriteByte B b _ _ _ HA.out (HL.out _ (by simp)) (by omega)).mono ?_
    rintro e w2 ⟨rfl, hA2, hb2⟩
    go_wp2
    refine bodyPost_ret (results_none rfl _ _ _) rfl ?_
    exact ⟨rfl, by rw [HE.out, ← List.append_assoc, ← cells_snoc]; exact .inr hA2, hb1.trans hb2⟩
  · have hge := Lib.indexByte_ge Pq.meant c
    have HK := hid (show Lib.indexByte Pq.meant c = -1 by omega)
    by_cases hp : 32 ≤ c.toNat ∧ c.toNat ≤ 126
    · have HE : Hid (Pq.esc c = [c]) := hid (by unfold Pq.esc; rw [if_neg hi, if_pos hp])
      have HS := hid (seen_yes hp.1 hp.2)
      clear hi hge
      go_enter Tryd.func30, Tryd.ntmps30
      go_wp2_with fail
      refine (Tryd.strings_IndexByte _ _ _).mono ?_
      rintro e w' ⟨rfl, rfl⟩
      rw [byte_back, meant_list, HK.out]
      go_wp2_with fail
      refine (printed_any _ _).mono ?_
      rintro e w' ⟨rfl, rfl⟩
      rw [HS.out]
      go_wp2_with fail
      refine (Tryd.Builder_WriteByte B b _ _ _ HH.out (by simpa using HL.out [] (by simp)) hB).mono ?_
      rintro e w1 ⟨rfl, hA, hb1⟩
      go_wp2
      refine bodyPost_ret (results_none rfl _ _ _) rfl ?_
      exact ⟨rfl, by rw [HE.out, ← cells_snoc]; exact .inr hA, hb1⟩
    · have HE : Hid (Pq.esc c = [92, (48 + c.toNat / 64).toUInt8, (48 + c.toNat / 8 % 8).toUInt8, (48 + c.toNat % 8).toUInt8]) := hid (by unfold Pq.esc; rw [if_neg hi, if_neg hp])
      have HS := hid (seen_no (c := c) (by omega))
      clear hi hge
      go_enter Tryd.func30, Tryd.ntmps30
      go_wp2_with fail
      refine (Tryd.strings_IndexByte _ _ _).mono ?_
      rintro e w' ⟨rfl, rfl⟩
      rw [byte_back, meant_list, HK.out]
      go_wp2_with fail
      refine (printed_any _ _).mono ?_
      rintro e w' ⟨rfl, rfl⟩
      rw [HS.out]
      go_wp2_with fail
      refine (Tryd.Builder_WriteByte B b _ _ _ HH.out (by simpa using HL.out [] (by simp)) hB).mono ?_
      rintro e w1 ⟨rfl, hA, hb1⟩
      have HA : Hid (Lib.IsBuilder 51 5 B b (Lib.byteCells (l ++ [92])) w1) := hid (by rw [← cells_snoc]; exact .inr hA)
      have z1 := hb1.size
      clear hA
      go_wp2_with fail
      refine (Tryd.Builder_WriteByte B b _ _ _ HA.out (HL.out _ (by simp)) (by omega)).mono ?_
      rintro e w2 ⟨rfl, hA2, hb2⟩
      have HA2 : Hid (Lib.IsBuilder 51 5 B b (Lib.byteCells (l ++ [92, (48 + c.toNat / 64).toUInt8])) w2) := hid (by
        rw [show l ++ [92, (48 + c.toNat / 64).toUInt8] = (l ++ [92]) ++ [(48 + c.toNat / 64).toUInt8] by simp, ← cells_snoc, byte_of _ (by omega)]; exact .inr hA2)
      have z2 := hb2.size
      clear hA2 HA
      go_wp2_with fail
      refine (Tryd.Builder_WriteByte B b _ _ _ HA2.out (HL.out _ (by simp)) (by omega)).mono ?_
      rintro e w3 ⟨rfl, hA3, hb3⟩
      have HA3 : Hid (Lib.IsBuilder 51 5 B b (Lib.byteCells (l ++ [92, (48 + c.toNat / 64).toUInt8, (48 + c.toNat / 8 % 8).toUInt8])) w3) := hid (by
        rw [show l ++ [92, (48 + c.toNat / 64).toUInt8, (48 + c.toNat / 8 % 8).toUInt8] = (l ++ [92, (48 + c.toNat / 64).toUInt8]) ++ [(48 + c.toNat / 8 % 8).toUInt8] by simp, ← cells_snoc, byte_of _ (by omega)]; exact .inr hA3)
      have z3 := hb3.size
      clear hA3 HA2
      go_wp2_with fail
      refine (Tryd.Builder_WriteByte B b _ _ _ HA3.out (HL.out _ (by simp)) (by omega)).mono ?_
      rintro e w4 ⟨rfl, hA4, hb4⟩
      go_wp2
      go_end0
      refine ⟨rfl, ?_, ((hb1.trans hb2).trans hb3).trans hb4⟩
      rw [HE.out, show l ++ [92, (48 + c.toNat / 64).toUInt8, (48 + c.toNat / 8 % 8).toUInt8, (48 + c.toNat % 8).toUInt8] = (l ++ [92, (48 + c.toNat / 64).toUInt8, (48 + c.toNat / 8 % 8).toUInt8]) ++ [(48 + c.toNat % 8).toUInt8] by simp, ← cells_snoc, byte_of _ (by omega)]
      exact .inr hA4

theorem fresh_builder (w : World) : Lib.IsBuilder 51 5 w.heap.size w.heap.size [] (w.alloc (.cells #[.pointer none, .slice none 0 0] 51)) :=
  .inl ⟨Nat.le_refl _, .slice none 0 0, heap_alloc_new _ _, World.ownsRow_nil _ _ _ _, by simp [Value.ownBlock]⟩
theorem body_snoc (s : ByteArray) (k : Nat) (h : k < s.size) : Pq.body (s.data.toList.take (k + 1)) = Pq.body (s.data.toList.take k) ++ Pq.esc s[k] := by
  rw [take_snoc s k h]
  simp [Pq.body]
theorem body_take (s : ByteArray) (k : Nat) (hk : k ≤ s.size) : (Pq.body (s.data.toList.take k)).length ≤ 4 * k := by
  have h1 := Pq.body_len (s.data.toList.take k)
  rw [List.length_take, size_data, Nat.min_eq_left hk] at h1
  exact h1

set_option maxHeartbeats 2000000 in
theorem quote_any (s : ByteArray) (w : World) (hs : s.size ≤ 35184371999999) :
    Calls Tryd.prog 16 #[.string s] w fun e w' => e = .returned (.string ⟨(Pq.quote s.data.toList).toArray⟩) ∧ Below w.heap.size w w' := by
  cases hn : Pq.needs s.data.toList with
  | false =>
    have HQ := hid (Pq.quote_no _ hn)
    have HN := hid hn
    clear hn
    go_enter Tryd.func16, Tryd.ntmps16
    go_wp2_with fail
    refine (needs_any _ _ (by unfold maxLen; omega)).mono ?_
    rintro e w' ⟨rfl, rfl⟩
    rw [HN.out]
    go_wp2
    go_ret
    exact ⟨by rw [HQ.out]; rfl, Below.refl _ _⟩
  | true =>
    have HQ := hid (Pq.quote_yes _ hn)
    have HN := hid hn
    clear hn
    go_enter Tryd.func16, Tryd.ntmps16
    go_wp2_with fail
    refine (needs_any _ _ (by unfold maxLen; omega)).mono ?_
    rintro e w' ⟨rfl, rfl⟩
    rw [HN.out]
    have HF := hid (fresh_builder w')
    have hb0 : Below w'.heap.size w' (w'.alloc (.cells #[.pointer none, .slice none 0 0] 51)) := (Below.refl _ _).alloc (Nat.le_refl _) _
    go_wp2_with fail
    refine (Tryd.Builder_WriteByte w'.heap.size w'.heap.size _ _ _ HF.out (by simp) (by simp)).mono ?_
    rintro e w1 ⟨rfl, hA, hb1⟩
    have HA : Hid (Lib.IsBuilder 51 5 w'.heap.size w'.heap.size (Lib.byteCells [34]) w1) := hid (.inr hA)
    have hb2 := hb0.trans hb1
    clear hA HF hb0 hb1
    go_wp2
    go_loopw [12] (fun i wr => ∃ k : Nat, k ≤ s.size ∧ i = .int .i64 k ∧ Lib.IsBuilder 51 5 w'.heap.size w'.heap.size (Lib.byteCells ([34] ++ Pq.body (s.data.toList.take k))) wr ∧ Below w'.heap.size w' wr) (fun i _ => s.size - (intOf i).toNat)
    case atStart => exact ⟨0, Nat.zero_le _, rfl, by simpa [Pq.body] using HA.out, hb2⟩
    case round =>
      obtain ⟨k, hk, rfl, hI, hb⟩ := hrel
      clear HA hb2
      have hz := hb.size
      have HI := hid hI
      clear hI
      by_cases hlt : k < s.size
      · have HS := hid (body_snoc s k hlt)
        have hlen := body_take s k hk
        go_wp2_with fail
        refine (writeByte_any _ _ _ s[k] _ HI.out (by simp; omega) hz).mono ?_
        rintro e w2 ⟨rfl, hI2, hb2⟩
        rw [List.append_assoc, ← HS.out] at hI2
        have HI2 := hid hI2
        clear hI2
        go_wp2
        go_roundw
        case rel => exact ⟨k + 1, by omega, by go_num, HI2.out, hb.trans hb2⟩
        case measure => simp [intOf]; omega
      · have hlen := body_take s k hk
        have hall : s.data.toList.take k = s.data.toList := take_all s k (by omega)
        rw [hall] at HI hlen
        clear hall
        have hlen' : (Lib.byteCells ([34] ++ Pq.body s.data.toList)).length + 1 ≤ 140737488355328 := by rw [Lib.byteCells_length]; simp; omega
        have HL := hid hlen'
        clear hlen' hlen
        go_wp2_with fail
        refine (Tryd.Builder_WriteByte w'.heap.size w'.heap.size _ _ _ HI.out HL.out hz).mono ?_
        rintro e w2 ⟨rfl, hA2, hb2⟩
        have HA2 : Hid (Lib.IsBuilder 51 5 w'.heap.size w'.heap.size (Lib.byteCells (Pq.quote s.data.toList)) w2) := hid (by
          rw [HQ.out, show (34 : UInt8) :: (Pq.body s.data.toList ++ [34]) = ([34] ++ Pq.body s.data.toList) ++ [34] by simp, ← cells_snoc]; exact .inr hA2)
        have hz2 := hb2.size
        clear hA2 HQ
        go_wp2_with fail
        refine (Tryd.Builder_String_any _ _ _ _ HA2.out (by omega)).mono ?_
        rintro e w3 ⟨rfl, hb3⟩
        go_wp2
        go_ret
        exact ⟨rfl, (hb.trans hb2).trans hb3⟩
end Go.Proofs.YtnbonghlmdnabaaDoor.Cx
