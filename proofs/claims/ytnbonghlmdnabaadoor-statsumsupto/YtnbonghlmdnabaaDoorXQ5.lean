/-
  The walks of the program's readByte, readQuoted and Unquote: for every string.
-/
import Derived.Test.YtnbonghlmdnabaaDoorXQ4
namespace Go.Proofs.YtnbonghlmdnabaaDoor.Cx
open Go.RowKit

theorem letters_list : (ByteArray.mk #[97, 98, 116, 110, 118, 102, 114, 34, 92]).data.toList = Pq.letters := rfl
theorem three (s : ByteArray) (h : 4 ≤ s.size) : (s.extract 1 4).data.toList = [s[1], s[2], s[3]] := by
  rw [Lib.extract_data, data4 s h]
  simp
theorem three_oct (s : ByteArray) (h : 4 ≤ s.size) : isOct (s.extract 1 4) = (Pq.oct s[1] && Pq.oct s[2] && Pq.oct s[3] && decide (s[1].toNat ≤ 51)) := by
  unfold isOct
  rw [three s h]
  simp [Bool.and_assoc]

theorem bits_all : ((List.range 4).all fun x => (List.range 8).all fun y => (List.range 8).all fun z => bits .or .u8 (bits .or .u8 ((x : Int) * 64) ((y : Int) * 8)) (z : Int) == ((x * 64 + y * 8 + z : Nat) : Int)) = true := by decide +kernel
theorem bits_oct (a b c : UInt8) (h1 : (48 : Int) ≤ a.toNat ∧ (a.toNat : Int) ≤ 51) (h2 : (48 : Int) ≤ b.toNat ∧ (b.toNat : Int) ≤ 55) (h3 : (48 : Int) ≤ c.toNat ∧ (c.toNat : Int) ≤ 55) :
    bits .or .u8 (bits .or .u8 (((a.toNat : Int) - 48) * 64) (((b.toNat : Int) - 48) * 8)) ((c.toNat : Int) - 48) = ((((a.toNat - 48) * 64 + (b.toNat - 48) * 8 + (c.toNat - 48)).toUInt8.toNat : Nat) : Int) := by
  obtain ⟨x, hx⟩ : ∃ x, x = a.toNat - 48 := ⟨_, rfl⟩
  obtain ⟨y, hy⟩ : ∃ y, y = b.toNat - 48 := ⟨_, rfl⟩
  obtain ⟨z, hz⟩ : ∃ z, z = c.toNat - 48 := ⟨_, rfl⟩
  rw [← hx, ← hy, ← hz, byte_of _ (by omega), show (a.toNat : Int) - 48 = x by omega, show (b.toNat : Int) - 48 = y by omega, show (c.toNat : Int) - 48 = z by omega]
  have h := List.all_eq_true.1 (List.all_eq_true.1 (List.all_eq_true.1 bits_all x (List.mem_range.2 (by omega))) y (List.mem_range.2 (by omega))) z (List.mem_range.2 (by omega))
  exact eq_of_beq h

end Go.Proofs.YtnbonghlmdnabaaDoor.Cx
