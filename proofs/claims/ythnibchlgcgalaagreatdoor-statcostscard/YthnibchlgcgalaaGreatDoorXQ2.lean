/-
  The walks of escape and read of the document's answer: for every byte and every string.
-/
import Derived.Test.YthnibchlgcgalaaGreatDoorXQ1
import Derived.Deep.QuietTactic
import Derived.BigQuiet
namespace Go.Proofs.YthnibchlgcgalaaGreatDoor.Cx
open Go.RowKit

theorem miss_snoc (l : List UInt8) (c : UInt8) (k : Nat) (hk : k < l.length) (h : c ∉ l.take k) (hc : l[k] ≠ c) : c ∉ l.take (k + 1) := by
  rw [List.take_add_one, List.getElem?_eq_getElem hk]
  simp only [Option.toList_some, List.mem_append, List.mem_singleton]
  rintro (h' | h')
  · exact h h'
  · exact hc h'.symm
theorem index_hit (l : List UInt8) (c : UInt8) (k : Nat) (hk : k < l.length) (h : c ∉ l.take k) (hc : l[k] = c) : Lib.indexByte l c = k := by
  induction l generalizing k with
  | nil => simp at hk
  | cons b l ih =>
    cases k with
    | zero =>
      have hb : (b == c) = true := beq_iff_eq.2 (by simpa using hc)
      unfold Lib.indexByte
      rw [if_pos hb]
      rfl
    | succ k =>
      simp only [List.take_succ_cons, List.mem_cons, not_or] at h
      have hb : ¬ (b == c) = true := fun e => h.1 (eq_of_beq e).symm
      unfold Lib.indexByte
      rw [if_neg hb, ih k (by simpa using hk) h.2 (by simpa using hc)]
      simp
theorem index_none (l : List UInt8) (c : UInt8) (h : c ∉ l) : Lib.indexByte l c = -1 := by
  induction l with
  | nil => rfl
  | cons b l ih =>
    have hb : ¬ (b == c) = true := fun e => h (by simp [eq_of_beq e])
    have hl : c ∉ l := fun e => h (List.mem_cons_of_mem _ e)
    unfold Lib.indexByte
    rw [if_neg hb, ih hl]
    rfl

theorem meant_data (k : Nat) (hk : k < 9) : (ByteArray.mk #[7, 8, 9, 10, 11, 12, 13, 34, 92])[k] = Pq.meant[k] := rfl
theorem esc_hit (c : UInt8) (k : Nat) (hk : k < 9) (ha : c ∉ Pq.meant.take k) (ht : (((ByteArray.mk #[7, 8, 9, 10, 11, 12, 13, 34, 92])[k].toNat : Int) == (c.toNat : Int)) = true) :
    ByteArray.mk (Pq.esc c).toArray = ByteArray.mk #[92] ++ (ByteArray.mk #[97, 98, 116, 110, 118, 102, 114, 34, 92]).extract k (k + 1) := by
  have hc : Pq.meant[k] = c := by
    rw [meant_data k hk, beq_iff_eq] at ht
    exact UInt8.toNat_inj.1 (by omega)
  have hi := index_hit Pq.meant c k hk ha hc
  unfold Pq.esc
  rw [hi, if_pos (by omega)]
  match k, hk with
  | 0, _ => rfl
  | 1, _ => rfl
  | 2, _ => rfl
  | 3, _ => rfl
  | 4, _ => rfl
  | 5, _ => rfl
  | 6, _ => rfl
  | 7, _ => rfl
  | 8, _ => rfl
theorem esc_miss (c : UInt8) (k : Nat) (hk : k < 9) (ha : c ∉ Pq.meant.take k) (ht : (((ByteArray.mk #[7, 8, 9, 10, 11, 12, 13, 34, 92])[k].toNat : Int) == (c.toNat : Int)) = false) : c ∉ Pq.meant.take (k + 1) := by
  refine miss_snoc Pq.meant c k hk ha fun e => ?_
  rw [meant_data k hk, beq_eq_false_iff_ne] at ht
  exact ht (by rw [e])

/-- string(b), b a row of bytes just made -/
theorem conv_row (w : World) (l : List UInt8) (W : World) (h : ∀ a, W.cell? a = (w.alloc (.cells (Lib.byteCells l).toArray 5)).cell? a) :
    (convert 92 9 (.slice (some ⟨w.heap.size, 0, none⟩) l.length l.length)).run Tryz.prog W = .ok (.string ⟨l.toArray⟩) W := by
  refine run_convert_bytes_back _ 92 9 5 ⟨w.heap.size, 0, none⟩ l.length l Tryz.underlying92 Tryz.underlying5 Tryz.underlying9 fun j hj => ?_
  have ea : (⟨w.heap.size, 0, none⟩ : Addr).add j = ⟨w.heap.size, j, none⟩ := by
    simp only [Addr.add, Nat.zero_add]
    split
    · next h0 => rw [h0]
    · rfl
  rw [ea, h]
  simp [Lib.byteCells, hj]

theorem digit_at (k : Nat) (hk : k < 8) : (ByteArray.mk #[48, 49, 50, 51, 52, 53, 54, 55])[k] = (48 + k).toUInt8 := by
  match k, hk with
  | 0, _ => rfl
  | 1, _ => rfl
  | 2, _ => rfl
  | 3, _ => rfl
  | 4, _ => rfl
  | 5, _ => rfl
  | 6, _ => rfl
  | 7, _ => rfl

end Go.Proofs.YthnibchlgcgalaaGreatDoor.Cx
