/-
  The walk of Escape.
-/
import Derived.Test.YtfjhjhjdneihbaaGreatDoorGj
import Derived.Lib.AppendStr
namespace Go.Proofs.YtfjhjhjdneihbaaGreatDoor
open Go.RowKit

theorem cells_snoc (l : List UInt8) (c : UInt8) : Lib.byteCells l ++ [.int .u8 c.toNat] = Lib.byteCells (l ++ [c]) := by rw [Lib.byteCells_append]; rfl
theorem byte_back (c : UInt8) : ((c.toNat : Int).toNat).toUInt8 = c := by simp
theorem fresh_builder (w : World) : Lib.IsBuilder 111 5 w.heap.size w.heap.size [] (w.alloc (.cells #[.pointer none, .slice none 0 0] 111)) :=
  .inl ⟨Nat.le_refl _, .slice none 0 0, heap_alloc_new _ _, World.ownsRow_nil _ _ _ _, by simp [Value.ownBlock]⟩
theorem idx_all : (List.range 256).all (fun n => decide ((0 : Int) ≤ Lib.indexByte [42, 63, 91, 92] (UInt8.ofNat n)) == Pg.sp (UInt8.ofNat n)) = true := by decide +kernel
theorem idx_sp (c : UInt8) : decide ((0 : Int) ≤ Lib.indexByte [42, 63, 91, 92] c) = Pg.sp c := by
  have h := List.all_eq_true.1 idx_all c.toNat (List.mem_range.2 (by have := c.toNat_lt; omega))
  rw [beq_iff_eq, UInt8.ofNat_toNat] at h
  exact h
theorem esc_snoc (s : ByteArray) (k : Nat) (h : k < s.size) : Pg.esc (s.data.toList.take (k + 1)) = Pg.esc (s.data.toList.take k) ++ Pg.esc1 s[k] := by
  rw [take_snoc s k h]; simp [Pg.esc]
theorem esc_len : ∀ l : List UInt8, (Pg.esc l).length ≤ 2 * l.length
  | [] => by simp [Pg.esc]
  | c :: l => by
    have := esc_len l
    have h1 : (Pg.esc1 c).length ≤ 2 := by unfold Pg.esc1; split <;> simp
    show (Pg.esc1 c ++ Pg.esc l).length ≤ _
    rw [List.length_append, List.length_cons]
    omega

set_option maxHeartbeats 4000000 in
theorem escape_any (s : ByteArray) (w : World) (hs : s.size ≤ 70368744000000) :
    Calls Tryz.prog 27 #[.string s] w fun e w' => e = .returned (.string ⟨(Pg.esc s.data.toList).toArray⟩) ∧ Below w.heap.size w w' := by
  have HF := hid (fresh_builder w)
  have hb0 : Below w.heap.size w (w.alloc (.cells #[.pointer none, .slice none 0 0] 111)) := (Below.refl _ _).alloc (Nat.le_refl _) _
  go_enter Tryz.func27, Tryz.ntmps27
  go_wp2
  go_loopw [7] (fun i wr => ∃ k : Nat, k ≤ s.size ∧ i = .int .i64 k ∧ Lib.IsBuilder 111 5 w.heap.size w.heap.size (Lib.byteCells (Pg.esc (s.data.toList.take k))) wr ∧ Below w.heap.size w wr) (fun i _ => s.size - (intOf i).toNat)
  case atStart => exact ⟨0, Nat.zero_le _, rfl, HF.out, hb0⟩
  case round =>
    obtain ⟨k, hk, rfl, hI, hb⟩ := hrel
    clear HF hb0
    have hz := hb.size
    have HI := hid hI
    clear hI
    have hlen := esc_len (s.data.toList.take k)
    rw [List.length_take, size_data] at hlen
    by_cases hlt : k < s.size
    · have HS := hid (esc_snoc s k hlt)
      obtain ⟨L, hL⟩ : ∃ L, L = Pg.esc (s.data.toList.take k) := ⟨_, rfl⟩
      rw [← hL] at HI HS hlen
      have hLl : L.length ≤ 2 * k := by omega
      have HL1 : Hid ((Lib.byteCells L).length + (ByteArray.mk #[92]).size ≤ 140737488355328) := hid (by
        have : (ByteArray.mk #[92]).size = 1 := rfl
        rw [this, Lib.byteCells_length]; omega)
      have HL2 : Hid ((Lib.byteCells (L ++ [92])).length + 1 ≤ 140737488355328) := hid (by rw [Lib.byteCells_length, List.length_append, List.length_singleton]; omega)
      have HL3 : Hid ((Lib.byteCells L).length + 1 ≤ 140737488355328) := hid (by rw [Lib.byteCells_length]; omega)
      clear hlen hL hLl
      cases hp : Pg.sp s[k] with
      | true =>
        have HE : Hid (Pg.esc1 s[k] = [92, s[k]]) := hid (by unfold Pg.esc1; rw [hp]; rfl)
        have hx := idx_sp s[k]
        rw [hp] at hx
        have hx' := of_decide_eq_true hx
        have HX := hid hx'
        clear hp hx hx'
        go_wp2_with fail
        refine (Tryz.strings_IndexByte _ _ _).mono ?_
        rintro e w1 ⟨rfl, rfl⟩
        rw [byte_back, show (ByteArray.mk #[42, 63, 91, 92]).data.toList = [42, 63, 91, 92] from rfl]
        generalize hg : Lib.indexByte [42, 63, 91, 92] s[k] = ix at HX
        have hix := HX.out
        clear hg
        go_wp2_with fail
        refine (Tryz.Builder_WriteString w.heap.size w.heap.size _ ⟨#[92]⟩ _ HI.out HL1.out hz).mono ?_
        rintro e w2 ⟨rfl, hA, hb2⟩
        have HA : Hid (Lib.IsBuilder 111 5 w.heap.size w.heap.size (Lib.byteCells (L ++ [92])) w2) := hid (by rw [Lib.byteCells_append]; exact .inr hA)
        have hB2 := hb.trans hb2
        have hz2 := hB2.size
        clear hA HI hb hb2 hz
        go_wp2_with fail
        refine (Tryz.Builder_WriteByte w.heap.size w.heap.size _ _ _ HA.out HL2.out hz2).mono ?_
        rintro e w3 ⟨rfl, hA3, hb3⟩
        have HA3 : Hid (Lib.IsBuilder 111 5 w.heap.size w.heap.size (Lib.byteCells (Pg.esc (s.data.toList.take (k + 1)))) w3) := hid (by
          rw [HS.out, HE.out, show L ++ [92, s[k]] = (L ++ [92]) ++ [s[k]] by simp, ← cells_snoc]; exact .inr hA3)
        clear hA3
        go_wp2
        go_roundw
        case rel => exact ⟨k + 1, by omega, by go_num, HA3.out, hB2.trans hb3⟩
        case measure => simp [intOf]; omega
      | false =>
        have HE : Hid (Pg.esc1 s[k] = [s[k]]) := hid (by unfold Pg.esc1; rw [hp]; rfl)
        have hx := idx_sp s[k]
        rw [hp] at hx
        have hx' := of_decide_eq_false hx
        have HX := hid hx'
        clear hp hx hx'
        go_wp2_with fail
        refine (Tryz.strings_IndexByte _ _ _).mono ?_
        rintro e w1 ⟨rfl, rfl⟩
        rw [byte_back, show (ByteArray.mk #[42, 63, 91, 92]).data.toList = [42, 63, 91, 92] from rfl]
        generalize hg : Lib.indexByte [42, 63, 91, 92] s[k] = ix at HX
        have hix := HX.out
        clear hg
        go_wp2_with fail
        refine (Tryz.Builder_WriteByte w.heap.size w.heap.size _ _ _ HI.out HL3.out hz).mono ?_
        rintro e w3 ⟨rfl, hA3, hb3⟩
        have HA3 : Hid (Lib.IsBuilder 111 5 w.heap.size w.heap.size (Lib.byteCells (Pg.esc (s.data.toList.take (k + 1)))) w3) := hid (by
          rw [HS.out, HE.out, ← cells_snoc]; exact .inr hA3)
        clear hA3
        go_wp2
        go_roundw
        case rel => exact ⟨k + 1, by omega, by go_num, HA3.out, hb.trans hb3⟩
        case measure => simp [intOf]; omega
    · have hall : s.data.toList.take k = s.data.toList := take_all s k (by omega)
      rw [hall] at HI
      clear hall hlen
      go_wp2_with fail
      refine (Tryz.Builder_String_any _ _ _ _ HI.out hz).mono ?_
      rintro e w3 ⟨rfl, hb3⟩
      go_wp2
      go_ret
      exact ⟨rfl, hb.trans hb3⟩
end Go.Proofs.YtfjhjhjdneihbaaGreatDoor
