/-
  The walks of escape and read of the document's answer: for every byte and every string.
-/
import Derived.Test.YtnbonghlmdnabaaDoorXQ1
import Derived.Deep.QuietTactic
import Derived.BigQuiet
namespace Go.Proofs.YtnbonghlmdnabaaDoor.Cx
open Go.RowKit

theorem miss_snoc (l : List UInt8) (c : UInt8) (k : Nat) (hk : k < l.length) (h : c ∉ l.take k) (hc : l[k] ≠ c) : c ∉ l.take (k + 1) := by
  rw [List.take_add_one, List.getElem?_eq_getElem hk]
  simp only [Option.toList_some, List.mem_append, List.mem_singleton]
  rintro (h' | h')
  · exact h h'
  · exact hc h'.symm
theorem index_hit (l : List UInt8) (c : UInt8) (k : Nat) (hk : k < l.length) (h : c ∉ l.take k) (hc : l[k] = c) : Lib.indexByte l c = k := by
  induction l generalizing k with
  | nil => simp at hk
  | cons b l ih =>
    cases k with
    | zero =>
      have hb : (b == c) = true := beq_iff_eq.2 (by simpa using hc)
      unfold Lib.indexByte
      rw [if_pos hb]
      rfl
    | succ k =>
      simp only [List.take_succ_cons, List.mem_cons, not_or] at h
      have hb : ¬ (b == c) = true := fun e => h.1 (eq_of_beq e).symm
      unfold Lib.indexByte
      rw [if_neg hb, ih k (by simpa using hk) h.2 (by simpa using hc)]
      simp
theorem index_none (l : List UInt8) (c : UInt8) (h : c ∉ l) : Lib.indexByte l c = -1 := by
  induction l with
  | nil => rfl
  | cons b l ih =>
    have hb : ¬ (b == c) = true := fun e => h (by simp [eq_of_beq e])
    have hl : c ∉ l := fun e => h (List.mem_cons_of_mem _ e)
    unfold Lib.indexByte
    rw [if_neg hb, ih hl]
    rfl

theorem meant_data (k : Nat) (hk : k < 9) : (ByteArray.mk #[7, 8, 9, 10, 11, 12, 13, 34, 92])[k] = Pq.meant[k] := rfl
theorem esc_hit (c : UInt8) (k : Nat) (hk : k < 9) (ha : c ∉ Pq.meant.take k) (ht : (((ByteArray.mk #[7, 8, 9, 10, 11, 12, 13, 34, 92])[k].toNat : Int) == (c.toNat : Int)) = true) :
    ByteArray.mk (Pq.esc c).toArray = ByteArray.mk #[92] ++ (ByteArray.mk #[97, 98, 116, 110, 118, 102, 114, 34, 92]).extract k (k + 1) := by
  have hc : Pq.meant[k] = c := by
    rw [meant_data k hk, beq_iff_eq] at ht
    exact UInt8.toNat_inj.1 (by omega)
  have hi := index_hit Pq.meant c k hk ha hc
  unfold Pq.esc
  rw [hi, if_pos (by omega)]
  match k, hk with
  | 0, _ => rfl
  | 1, _ => rfl
  | 2, _ => rfl
  | 3, _ => rfl
  | 4, _ => rfl
  | 5, _ => rfl
  | 6, _ => rfl
  | 7, _ => rfl
  | 8, _ => rfl
theorem esc_miss (c : UInt8) (k : Nat) (hk : k < 9) (ha : c ∉ Pq.meant.take k) (ht : (((ByteArray.mk #[7, 8, 9, 10, 11, 12, 13, 34, 92])[k].toNat : Int) == (c.toNat : Int)) = false) : c ∉ Pq.meant.take (k + 1) := by
  refine miss_snoc Pq.meant c k hk ha fun e => ?_
  rw [meant_data k hk, beq_eq_false_iff_ne] at ht
  exact ht (by rw [e])

/-- string(b), b a row of bytes just made -/
theorem conv_row (w : World) (l : List UInt8) (W : World) (h : ∀ a, W.cell? a = (w.alloc (.cells (Lib.byteCells l).toArray 5)).cell? a) :
    (convert 49 9 (.slice (some ⟨w.heap.size, 0, none⟩) l.length l.length)).run Tryd.prog W = .ok (.string ⟨l.toArray⟩) W := by
  refine run_convert_bytes_back _ 49 9 5 ⟨w.heap.size, 0, none⟩ l.length l Tryd.underlying49 Tryd.underlying5 Tryd.underlying9 fun j hj => ?_
  have ea : (⟨w.heap.size, 0, none⟩ : Addr).add j = ⟨w.heap.size, j, none⟩ := by
    simp only [Addr.add, Nat.zero_add]
    split
    · next h0 => rw [h0]
    · rfl
  rw [ea, h]
  simp [Lib.byteCells, hj]

theorem digit_at (k : Nat) (hk : k < 8) : (ByteArray.mk #[48, 49, 50, 51, 52, 53, 54, 55])[k] = (48 + k).toUInt8 := by
  match k, hk with
  | 0, _ => rfl
  | 1, _ => rfl
  | 2, _ => rfl
  | 3, _ => rfl
  | 4, _ => rfl
  | 5, _ => rfl
  | 6, _ => rfl
  | 7, _ => rfl

set_option maxHeartbeats 1000000 in
theorem escape_any (c : UInt8) (w : World) : Calls Tryd.prog 32 #[.int .u8 c.toNat] w fun e w' => e = .returned (.string ⟨(Pq.esc c).toArray⟩) ∧ Below w.heap.size w w' := by
  have hc := c.toNat_lt
  go_enter Tryd.func32, Tryd.ntmps32
  go_wp2
  go_loop [3] (fun i => ∃ k : Nat, k ≤ 9 ∧ i = .int .i64 k ∧ c ∉ Pq.meant.take k) (fun i => 9 - (intOf i).toNat)
  case atStart => exact ⟨0, Nat.zero_le _, rfl, by simp⟩
  case round =>
    obtain ⟨k, hk, rfl, ha⟩ := hrel
    have HA := hid ha
    clear ha
    by_cases hlt : k < 9
    · go_wp2
      · have ht : (((ByteArray.mk #[7, 8, 9, 10, 11, 12, 13, 34, 92])[k].toNat : Int) == (c.toNat : Int)) = true := by assumption
        go_ret
        exact ⟨by rw [esc_hit c k hlt HA.out ht]; rfl, Below.refl _ _⟩
      · have ht : (((ByteArray.mk #[7, 8, 9, 10, 11, 12, 13, 34, 92])[k].toNat : Int) == (c.toNat : Int)) = false := by assumption
        go_round
        case rel => exact ⟨k + 1, by omega, by go_num, esc_miss c k hlt HA.out ht⟩
        case measure => simp [intOf]; omega
    · have hk9 : k = 9 := by omega
      subst hk9
      have HI := hid (index_none Pq.meant c HA.out)
      clear HA
      by_cases h1 : 32 ≤ c.toNat ∧ c.toNat ≤ 126
      · have HE : Hid (Pq.esc c = [c]) := hid (by unfold Pq.esc; rw [HI.out, if_neg (by omega), if_pos h1])
        have d1 : decide ((32 : Int) ≤ (c.toNat : Int)) = true := decide_eq_true (by omega)
        have d2 : decide ((c.toNat : Int) < 127) = true := decide_eq_true (by omega)
        have hconv : (convert 49 9 (.slice (some ⟨w.heap.size, 0, none⟩) 1 1)).run Tryd.prog (w.alloc (.cells #[.int .u8 c.toNat] 5)) = .ok (.string ⟨#[c]⟩) (w.alloc (.cells #[.int .u8 c.toNat] 5)) := conv_row w [c] _ fun _ => rfl
        go_wp2
        go_ret
        exact ⟨by rw [HE.out]; rfl, (Below.refl _ _).alloc (Nat.le_refl _) _⟩
      · have HE : Hid (Pq.esc c = [92, (48 + c.toNat / 64).toUInt8, (48 + c.toNat / 8 % 8).toUInt8, (48 + c.toNat % 8).toUInt8]) := hid (by unfold Pq.esc; rw [HI.out, if_neg (by omega), if_neg h1])
        obtain ⟨a, ha⟩ : ∃ a, a = c.toNat / 64 := ⟨_, rfl⟩
        obtain ⟨e, he⟩ : ∃ e, e = c.toNat / 8 := ⟨_, rfl⟩
        obtain ⟨b, hb⟩ : ∃ b, b = e % 8 := ⟨_, rfl⟩
        obtain ⟨d, hd⟩ : ∃ d, d = c.toNat % 8 := ⟨_, rfl⟩
        have q1 : (c.toNat : Int) / 64 = (a : Int) := by omega
        have q2 : (c.toNat : Int) / 8 = (e : Int) := by omega
        have q3 : (e : Int) % 8 = (b : Int) := by omega
        have q4 : (c.toNat : Int) % 8 = (d : Int) := by omega
        have a8 : a < 8 := by omega
        have e32 : e < 32 := by omega
        have b8 : b < 8 := by omega
        have d8 : d < 8 := by omega
        have HR : Hid (Pq.esc c = [92, (ByteArray.mk #[48, 49, 50, 51, 52, 53, 54, 55])[a], (ByteArray.mk #[48, 49, 50, 51, 52, 53, 54, 55])[b], (ByteArray.mk #[48, 49, 50, 51, 52, 53, 54, 55])[d]]) :=
          hid (by rw [HE.out, digit_at a a8, digit_at b b8, digit_at d d8, hb, he, ha, hd])
        clear ha he hb hd HE
        have a8' : (a : Int) < 8 := by omega
        have b8' : (b : Int) < 8 := by omega
        have d8' : (d : Int) < 8 := by omega
        have hconv : (convert 49 9 (.slice (some ⟨w.heap.size, 0, none⟩) 4 4)).run Tryd.prog ((w.alloc (.cells #[.int .u8 92, .int .u8 (ByteArray.mk #[48, 49, 50, 51, 52, 53, 54, 55])[a].toNat, .int .u8 (ByteArray.mk #[48, 49, 50, 51, 52, 53, 54, 55])[b].toNat, .int .u8 (ByteArray.mk #[48, 49, 50, 51, 52, 53, 54, 55])[d].toNat] 5)).drew) = .ok (.string ⟨#[92, (ByteArray.mk #[48, 49, 50, 51, 52, 53, 54, 55])[a], (ByteArray.mk #[48, 49, 50, 51, 52, 53, 54, 55])[b], (ByteArray.mk #[48, 49, 50, 51, 52, 53, 54, 55])[d]]⟩) ((w.alloc (.cells #[.int .u8 92, .int .u8 (ByteArray.mk #[48, 49, 50, 51, 52, 53, 54, 55])[a].toNat, .int .u8 (ByteArray.mk #[48, 49, 50, 51, 52, 53, 54, 55])[b].toNat, .int .u8 (ByteArray.mk #[48, 49, 50, 51, 52, 53, 54, 55])[d].toNat] 5)).drew) :=
          conv_row w [92, (ByteArray.mk #[48, 49, 50, 51, 52, 53, 54, 55])[a], (ByteArray.mk #[48, 49, 50, 51, 52, 53, 54, 55])[b], (ByteArray.mk #[48, 49, 50, 51, 52, 53, 54, 55])[d]] _ fun _ => rfl
        by_cases h2 : 32 ≤ c.toNat
        · have d1 : decide ((32 : Int) ≤ (c.toNat : Int)) = true := decide_eq_true (by omega)
          have d2 : decide ((c.toNat : Int) < 127) = false := decide_eq_false (by omega)
          go_wp2
          go_region
          go_wp2
          go_ret
          exact ⟨by rw [HR.out]; rfl, ((Below.refl _ _).alloc (Nat.le_refl _) _).drew⟩
        · have d1 : decide ((32 : Int) ≤ (c.toNat : Int)) = false := decide_eq_false (by omega)
          go_wp2
          go_region
          go_wp2
          go_ret
          exact ⟨by rw [HR.out]; rfl, ((Below.refl _ _).alloc (Nat.le_refl _) _).drew⟩
end Go.Proofs.YtnbonghlmdnabaaDoor.Cx
