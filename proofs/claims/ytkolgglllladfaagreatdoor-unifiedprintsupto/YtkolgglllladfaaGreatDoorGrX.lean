/-
  Several texts in one: XEnds, XPlaceRef, Shelf, XSmall, XSplit, XValid, XValidRef.
-/
import Derived.Test.YtkolgglllladfaaGreatDoorRows
import Derived.Test.YtkolgglllladfaaGreatDoorGrPl
import Derived.WalkKit
import Derived.WalkSpells
import Derived.WalkLawsBesides
import Derived.Lib.Strings
import Derived.Shelf.Strings.Builder1
import Derived.Shelf.Small.Utf8
import Derived.Shelf.Small.Strs
import Derived.Shelf.Strings.BuilderF
import Derived.Shelf.Strings.BuilderK
import Derived.Shelf.Strings.Search1
import Derived.Shelf.Strings.Search2
import Derived.Shelf.Strings.Search3
import Derived.Shelf.Strings.Cut
import Derived.Shelf.LaysM
import Derived.Shelf.Strings.Shaped
import Derived.Shelf.Strings.Runes
import Derived.Shelf.Strings.IndexAny
import Derived.Shelf.Strings.AsciiSet
import Derived.Shelf.Strings.IndexAnyAll
import Derived.Test.YtkolgglllladfaaGreatDoorProg
/-
  The walks of Whole and Bare, of the program and of the document's answer: for every string.
-/
namespace Go.Proofs.YtkolgglllladfaaGreatDoor.Cx
open Go.RowKit

theorem hid {p : Prop} (h : p) : Hid p := h
theorem size_data (s : ByteArray) : s.data.toList.length = s.size := by rw [Array.length_toList]; rfl

theorem emptyB (s : ByteArray) : s.toList.isEmpty = decide (s.size = 0) := by
  rw [ByteArray.toList_eq, Bool.eq_iff_iff, List.isEmpty_iff, ← List.length_eq_zero_iff, size_data]
  simp
theorem empty_yes (s : ByteArray) (h : s.size = 0) : s.toList.isEmpty = true := by rw [emptyB]; exact decide_eq_true h
theorem empty_no (s : ByteArray) (h : s.size ≠ 0) : s.toList.isEmpty = false := by rw [emptyB]; exact decide_eq_false h

theorem wh_size (s : ByteArray) (h : s.size = 0) : Pl.wh s.data.toList = false := by
  have : s.data.toList = [] := by rw [← List.length_eq_zero_iff, size_data]; exact h
  rw [this]; rfl

theorem wh_at (s : ByteArray) (h : 0 < s.size) : ((s[s.size - 1].toNat : Int) == 10) = Pl.wh s.data.toList := by
  have hl : s.data.toList.getLast? = some (s[s.size - 1]) := by
    rw [List.getLast?_eq_getElem?, size_data, List.getElem?_eq_getElem (by rw [size_data]; omega)]
    rfl
  unfold Pl.wh
  rw [hl, Bool.eq_iff_iff]
  simp only [beq_iff_eq, Option.some.injEq, ← UInt8.toNat_inj]
  show _ ↔ _ = 10
  omega

set_option maxHeartbeats 400000 in
theorem whole_any (s : ByteArray) (w : World) (hs : s.size ≤ maxLen) :
    Calls Tryz.prog 73 #[.string s] w fun e w' => e = .returned (.bool (Pl.wh s.data.toList)) ∧ w' = w := by
  unfold maxLen at hs
  by_cases h : 0 < s.size
  · have he : s.toList.isEmpty = false := empty_no s (by omega)
    go_enter Tryz.func73, Tryz.ntmps73
    go_wp2
    go_ret
    refine ⟨?_, rfl⟩
    rw [wh_at s h]; rfl
  · have he : s.toList.isEmpty = true := empty_yes s (by omega)
    go_enter Tryz.func73, Tryz.ntmps73
    go_wp2
    go_ret
    refine ⟨?_, rfl⟩
    rw [wh_size s (by omega)]; rfl

set_option maxHeartbeats 400000 in
theorem refWhole_any (s : ByteArray) (w : World) (hs : s.size ≤ maxLen) :
    Calls Tryz.prog 47 #[.string s] w fun e w' => e = .returned (.bool (Pl.wh s.data.toList)) ∧ w' = w := by
  unfold maxLen at hs
  by_cases h : 0 < s.size
  · go_enter Tryz.func47, Tryz.ntmps47
    go_wp2
    go_ret
    refine ⟨?_, rfl⟩
    rw [wh_at s h]; rfl
  · go_enter Tryz.func47, Tryz.ntmps47
    go_wp2
    go_ret
    refine ⟨?_, rfl⟩
    rw [wh_size s (by omega)]; rfl

/-- a string without its end -/
def bareB (s : ByteArray) : ByteArray := if Pl.wh s.data.toList = true then s.extract 0 (s.size - 1) else s

theorem wh_pos (s : ByteArray) (h : Pl.wh s.data.toList = true) : 0 < s.size := by
  by_cases h0 : s.size = 0
  · rw [wh_size s h0] at h; cases h
  · omega

set_option maxHeartbeats 400000 in
theorem bare_any (s : ByteArray) (w : World) (hs : s.size ≤ maxLen) :
    Calls Tryz.prog 59 #[.string s] w fun e w' => e = .returned (.string (bareB s)) ∧ w' = w := by
  have hs' := hs
  unfold maxLen at hs
  cases hw : Pl.wh s.data.toList with
  | true =>
    have hp := wh_pos s hw
    have hb : bareB s = s.extract 0 (s.size - 1) := if_pos hw
    rw [hb]; clear hb
    go_enter Tryz.func59, Tryz.ntmps59
    go_wp2_with (go_at_call 73; refine (whole_any _ _ hs').mono ?_; rintro e w' ⟨rfl, rfl⟩)
    all_goals go_ret
    all_goals exact ⟨rfl, rfl⟩
  | false =>
    have hb : bareB s = s := if_neg (by rw [hw]; simp)
    rw [hb]; clear hb
    go_enter Tryz.func59, Tryz.ntmps59
    go_wp2_with (go_at_call 73; refine (whole_any _ _ hs').mono ?_; rintro e w' ⟨rfl, rfl⟩)
    all_goals go_ret
    all_goals exact ⟨rfl, rfl⟩

end Go.Proofs.YtkolgglllladfaaGreatDoor.Cx
/-
  The walk of the document's Place, for every text and every offset.
-/
namespace Go.Proofs.YtkolgglllladfaaGreatDoor.Cx
open Go.RowKit

/-- how many bytes 10 stand ahead of place k -/
def cnt (s : ByteArray) (k : Nat) : Int := Lib.countByte (s.data.toList.take k) 10
/-- where the last byte 10 ahead of place k stands, or -1 -/
def lst (s : ByteArray) (k : Nat) : Int := Lib.lastIdx s 10 k

theorem cnt_le (s : ByteArray) (k : Nat) : 0 ≤ cnt s k ∧ cnt s k ≤ k := by
  unfold cnt Lib.countByte
  have h1 : List.count (10 : UInt8) (s.data.toList.take k) ≤ (s.data.toList.take k).length := List.count_le_length
  have h2 : (s.data.toList.take k).length ≤ k := List.length_take_le _ _
  omega
theorem lst_le (s : ByteArray) (k : Nat) : -1 ≤ lst s k ∧ lst s k < k := by
  unfold lst
  rcases Lib.lastIdx_spec s 10 k with ⟨e, _⟩ | ⟨i, hi, e, _⟩ <;> rw [e] <;> omega
theorem take_snoc (s : ByteArray) (k : Nat) (h : k < s.size) : s.data.toList.take (k + 1) = s.data.toList.take k ++ [s[k]] := by
  rw [List.take_succ_eq_append_getElem (by simpa using h)]; rfl
theorem at_bang (s : ByteArray) (k : Nat) (h : k < s.size) : s.data[k]! = s[k] := by
  have : k < s.data.size := h
  rw [getElem!_pos s.data k this]; rfl
theorem ten_iff (c : UInt8) : ((c.toNat : Int) = 10) ↔ c = 10 := by
  rw [← UInt8.toNat_inj]
  show _ ↔ _ = 10
  omega
theorem step_hit (s : ByteArray) (k : Nat) (h : k < s.size) (e : ((s[k].toNat : Int) == 10) = true) : cnt s (k + 1) = cnt s k + 1 ∧ lst s (k + 1) = k := by
  have e' := beq_iff_eq.1 e
  have e2 := (ten_iff _).1 e'
  refine ⟨?_, ?_⟩
  · unfold cnt Lib.countByte; rw [take_snoc s k h, List.count_append, e2]; simp
  · unfold lst; exact Lib.lastIdx_hit s 10 k (by rw [at_bang s k h]; exact e')
theorem step_miss (s : ByteArray) (k : Nat) (h : k < s.size) (e : ((s[k].toNat : Int) == 10) = false) : cnt s (k + 1) = cnt s k ∧ lst s (k + 1) = lst s k := by
  have e' := beq_eq_false_iff_ne.1 e
  have e2 : s[k] ≠ 10 := fun x => e' ((ten_iff _).2 x)
  refine ⟨?_, ?_⟩
  · unfold cnt Lib.countByte; rw [take_snoc s k h, List.count_append]; simp [e2]
  · unfold lst; exact Lib.lastIdx_miss s 10 k (by rw [at_bang s k h]; exact e')

theorem ret_three {a b c d : Int} {p q : Bool} (h1 : a = b) (h2 : c = d) (h3 : p = q) :
    Ending.returned (.tuple #[.int .i64 a, .int .i64 c, .bool p]) = .returned (.tuple #[.int .i64 b, .int .i64 d, .bool q]) := by rw [h1, h2, h3]

end Go.Proofs.YtkolgglllladfaaGreatDoor.Cx
/-
  The library's contracts that the walks take, laid over this translation in plain words.
-/
namespace Go.Proofs
open Go.Shelf
def Tryz.lays137_ren : Go.Shelf.Ren := ⟨fun | 137 => 90 | 217 => 102 | 266 => 115 | n => n, fun | 9 => 9 | 5 => 5 | 3 => 3 | n => n, fun | n => n⟩
theorem Tryz.lays137 : Go.Proofs.Lays.n137 Tryz.prog Tryz.lays137_ren := {
  mixed := by kernel_rfl
  f137 := Tryz.func90.trans (congrArg some (by kernel_rfl))
  f217 := Tryz.func102.trans (congrArg some (by kernel_rfl))
  f266 := Tryz.func115.trans (congrArg some (by kernel_rfl))
  t3 := Tryz.underlying3
  a3 := Tryz.isAgg3
  z3 := Tryz.sizeOf3
  v3 := Tryz.zeroValue3
  t5 := Tryz.underlying5
  a5 := Tryz.isAgg5
  z5 := Tryz.sizeOf5
  v5 := Tryz.zeroValue5
  t9 := Tryz.underlying9
  a9 := Tryz.isAgg9
  z9 := Tryz.sizeOf9
  v9 := Tryz.zeroValue9 }
open Go.RowKit in
theorem Tryz.strings_IndexByte (s : ByteArray) (c : Int) (w : World) :
    Calls Tryz.prog 90 #[.string s, .int .u8 c] w fun e w' => e = .returned (.int .i64 (Lib.indexByte s.data.toList c.toNat.toUInt8)) ∧ w' = w := Any.strings_IndexByte Tryz.lays137 s c w
def Tryz.lays219_ren : Go.Shelf.Ren := ⟨fun | 219 => 82 | 217 => 102 | 225 => 103 | 224 => 104 | 267 => 105 | 266 => 115 | 314 => 116 | n => n, fun | 9 => 9 | 3 => 3 | 4 => 4 | 5 => 5 | 46 => 154 | 146 => 162 | 51 => 161 | n => n, fun | 1 => 1 | n => n⟩
theorem Tryz.lays219 : Go.Proofs.Lays.n219 Tryz.prog Tryz.lays219_ren := {
  mixed := by kernel_rfl
  f217 := Tryz.func102.trans (congrArg some (by kernel_rfl))
  f219 := Tryz.func82.trans (congrArg some (by kernel_rfl))
  f224 := Tryz.func104.trans (congrArg some (by kernel_rfl))
  f225 := Tryz.func103.trans (congrArg some (by kernel_rfl))
  f266 := Tryz.func115.trans (congrArg some (by kernel_rfl))
  f267 := Tryz.func105.trans (congrArg some (by kernel_rfl))
  f314 := Tryz.func116.trans (congrArg some (by kernel_rfl))
  t3 := Tryz.underlying3
  a3 := Tryz.isAgg3
  z3 := Tryz.sizeOf3
  v3 := Tryz.zeroValue3
  t4 := Tryz.underlying4
  a4 := Tryz.isAgg4
  z4 := Tryz.sizeOf4
  v4 := Tryz.zeroValue4
  t5 := Tryz.underlying5
  a5 := Tryz.isAgg5
  z5 := Tryz.sizeOf5
  v5 := Tryz.zeroValue5
  t9 := Tryz.underlying9
  a9 := Tryz.isAgg9
  z9 := Tryz.sizeOf9
  v9 := Tryz.zeroValue9
  t46 := Tryz.underlying154
  a46 := Tryz.isAgg154
  z46 := Tryz.sizeOf154
  v46 := Tryz.zeroValue154
  t51 := Tryz.underlying161
  a51 := Tryz.isAgg161
  z51 := Tryz.sizeOf161
  v51 := Tryz.zeroValue161
  t146 := Tryz.underlying162
  a146 := Tryz.isAgg162
  z146 := Tryz.sizeOf162
  v146 := Tryz.zeroValue162
  g1 := by kernel_rfl }
open Go.RowKit Go.Lib in
theorem Tryz.stringslite_Index_one (s : ByteArray) (c : UInt8) (w : World) :
    Calls Tryz.prog 82 #[.string s, .string ⟨#[c]⟩] w fun e w' => e = .returned (.int .i64 (Lib.indexByte s.data.toList c)) ∧ w' = w := Any.stringslite_Index_one Tryz.lays219 s c w
def Tryz.lays143_ren : Go.Shelf.Ren := ⟨fun | 143 => 49 | 219 => 82 | 217 => 102 | 225 => 103 | 224 => 104 | 267 => 105 | 266 => 115 | 314 => 116 | n => n, fun | 9 => 9 | 3 => 3 | 4 => 4 | 5 => 5 | 46 => 154 | 146 => 162 | 51 => 161 | n => n, fun | 1 => 1 | n => n⟩
theorem Tryz.lays143 : Go.Proofs.Lays.n143 Tryz.prog Tryz.lays143_ren := {
  mixed := by kernel_rfl
  f143 := Tryz.func49.trans (congrArg some (by kernel_rfl))
  f217 := Tryz.func102.trans (congrArg some (by kernel_rfl))
  f219 := Tryz.func82.trans (congrArg some (by kernel_rfl))
  f224 := Tryz.func104.trans (congrArg some (by kernel_rfl))
  f225 := Tryz.func103.trans (congrArg some (by kernel_rfl))
  f266 := Tryz.func115.trans (congrArg some (by kernel_rfl))
  f267 := Tryz.func105.trans (congrArg some (by kernel_rfl))
  f314 := Tryz.func116.trans (congrArg some (by kernel_rfl))
  t3 := Tryz.underlying3
  a3 := Tryz.isAgg3
  z3 := Tryz.sizeOf3
  v3 := Tryz.zeroValue3
  t4 := Tryz.underlying4
  a4 := Tryz.isAgg4
  z4 := Tryz.sizeOf4
  v4 := Tryz.zeroValue4
  t5 := Tryz.underlying5
  a5 := Tryz.isAgg5
  z5 := Tryz.sizeOf5
  v5 := Tryz.zeroValue5
  t9 := Tryz.underlying9
  a9 := Tryz.isAgg9
  z9 := Tryz.sizeOf9
  v9 := Tryz.zeroValue9
  t46 := Tryz.underlying154
  a46 := Tryz.isAgg154
  z46 := Tryz.sizeOf154
  v46 := Tryz.zeroValue154
  t51 := Tryz.underlying161
  a51 := Tryz.isAgg161
  z51 := Tryz.sizeOf161
  v51 := Tryz.zeroValue161
  t146 := Tryz.underlying162
  a146 := Tryz.isAgg162
  z146 := Tryz.sizeOf162
  v146 := Tryz.zeroValue162
  g1 := by kernel_rfl }
open Go.RowKit Go.Lib in
theorem Tryz.strings_Index_one (s : ByteArray) (c : UInt8) (w : World) :
    Calls Tryz.prog 49 #[.string s, .string ⟨#[c]⟩] w fun e w' => e = .returned (.int .i64 (Lib.indexByte s.data.toList c)) ∧ w' = w := Any.strings_Index_one Tryz.lays143 s c w
def Tryz.lays144_ren : Go.Shelf.Ren := ⟨fun | 144 => 25 | 143 => 49 | 219 => 82 | 217 => 102 | 225 => 103 | 224 => 104 | 267 => 105 | 266 => 115 | 314 => 116 | n => n, fun | 9 => 9 | 4 => 4 | 3 => 3 | 5 => 5 | 46 => 154 | 146 => 162 | 51 => 161 | n => n, fun | 1 => 1 | n => n⟩
theorem Tryz.lays144 : Go.Proofs.Lays.n144 Tryz.prog Tryz.lays144_ren := {
  mixed := by kernel_rfl
  f143 := Tryz.func49.trans (congrArg some (by kernel_rfl))
  f144 := Tryz.func25.trans (congrArg some (by kernel_rfl))
  f217 := Tryz.func102.trans (congrArg some (by kernel_rfl))
  f219 := Tryz.func82.trans (congrArg some (by kernel_rfl))
  f224 := Tryz.func104.trans (congrArg some (by kernel_rfl))
  f225 := Tryz.func103.trans (congrArg some (by kernel_rfl))
  f266 := Tryz.func115.trans (congrArg some (by kernel_rfl))
  f267 := Tryz.func105.trans (congrArg some (by kernel_rfl))
  f314 := Tryz.func116.trans (congrArg some (by kernel_rfl))
  t3 := Tryz.underlying3
  a3 := Tryz.isAgg3
  z3 := Tryz.sizeOf3
  v3 := Tryz.zeroValue3
  t4 := Tryz.underlying4
  a4 := Tryz.isAgg4
  z4 := Tryz.sizeOf4
  v4 := Tryz.zeroValue4
  t5 := Tryz.underlying5
  a5 := Tryz.isAgg5
  z5 := Tryz.sizeOf5
  v5 := Tryz.zeroValue5
  t9 := Tryz.underlying9
  a9 := Tryz.isAgg9
  z9 := Tryz.sizeOf9
  v9 := Tryz.zeroValue9
  t46 := Tryz.underlying154
  a46 := Tryz.isAgg154
  z46 := Tryz.sizeOf154
  v46 := Tryz.zeroValue154
  t51 := Tryz.underlying161
  a51 := Tryz.isAgg161
  z51 := Tryz.sizeOf161
  v51 := Tryz.zeroValue161
  t146 := Tryz.underlying162
  a146 := Tryz.isAgg162
  z146 := Tryz.sizeOf162
  v146 := Tryz.zeroValue162
  g1 := by kernel_rfl }
open Go.RowKit Go.Lib in
theorem Tryz.strings_Contains_one (s : ByteArray) (c : UInt8) (w : World) :
    Calls Tryz.prog 25 #[.string s, .string ⟨#[c]⟩] w fun e w' => e = .returned (.bool (decide (0 ≤ Lib.indexByte s.data.toList c))) ∧ w' = w := Any.strings_Contains_one Tryz.lays144 s c w
end Go.Proofs
/-
  The walks of the program's firstLength, Count and Place: for every string.
-/
namespace Go.Proofs.YtkolgglllladfaaGreatDoor.Cx
open Go.RowKit

set_option maxHeartbeats 400000 in
theorem first_any (s : ByteArray) (w : World) (hs : s.size ≤ maxLen) :
    Calls Tryz.prog 107 #[.string s] w fun e w' => e = .returned (.int .i64 (Pl.fl s.data.toList)) ∧ w' = w := by
  unfold maxLen at hs
  have hge := Lib.indexByte_ge s.data.toList 10
  have hle := Pl.fl_le s.data.toList
  rw [size_data] at hle
  by_cases h : Lib.indexByte s.data.toList 10 < 0
  · have hf : Pl.fl s.data.toList = s.size := by unfold Pl.fl; rw [if_pos h, size_data]
    have hn : ¬ (0 ≤ Lib.indexByte s.data.toList 10) := by omega
    rw [hf]; clear hf hle
    go_enter Tryz.func107, Tryz.ntmps107
    go_wp2_with (go_at_call 90; refine (Tryz.strings_IndexByte _ _ _).mono ?_; rintro e w' ⟨rfl, rfl⟩; rw [show ((10 : Int).toNat.toUInt8) = 10 from rfl])
    all_goals go_ret
    all_goals exact ⟨rfl, rfl⟩
  · have hf : (Pl.fl s.data.toList : Int) = Lib.indexByte s.data.toList 10 + 1 := by unfold Pl.fl; rw [if_neg h]; omega
    have hn : 0 ≤ Lib.indexByte s.data.toList 10 := by omega
    have hl : Lib.indexByte s.data.toList 10 + 1 ≤ s.size := by omega
    rw [hf]; clear hf hle
    go_enter Tryz.func107, Tryz.ntmps107
    go_wp2_with (go_at_call 90; refine (Tryz.strings_IndexByte _ _ _).mono ?_; rintro e w' ⟨rfl, rfl⟩; rw [show ((10 : Int).toNat.toUInt8) = 10 from rfl])
    all_goals go_ret
    all_goals exact ⟨rfl, rfl⟩

theorem count_le (s : ByteArray) : Lib.countByte s.data.toList 10 ≤ s.size := by
  unfold Lib.countByte
  have h1 : List.count (10 : UInt8) s.data.toList ≤ s.data.toList.length := List.count_le_length
  rw [size_data] at h1
  exact h1

theorem num_no (s : ByteArray) (h : s.size = 0 ∨ Pl.wh s.data.toList = true) : Pl.num s.data.toList = Lib.countByte s.data.toList 10 := by
  unfold Pl.num
  rw [if_neg]
  · rfl
  · rintro ⟨h1, h2⟩
    rcases h with h | h
    · exact h1 (by rw [← List.length_eq_zero_iff, size_data]; exact h)
    · rw [h] at h2; cases h2
theorem num_yes (s : ByteArray) (h1 : s.size ≠ 0) (h2 : Pl.wh s.data.toList = false) : (Pl.num s.data.toList : Int) = Lib.countByte s.data.toList 10 + 1 := by
  unfold Pl.num
  rw [if_pos ⟨fun e => h1 (by rw [← size_data, e]; rfl), h2⟩]
  omega

theorem byte_at (s : ByteArray) (k : Nat) (h : k < s.size) : s.data.toList[k]? = some s[k] := by
  rw [List.getElem?_eq_getElem (by rw [size_data]; exact h)]; rfl
theorem last_upto (s : ByteArray) (o : Nat) (ho : o ≤ s.size) : ∀ k, k ≤ o → Lib.lastIdx (s.extract 0 o) 10 k = Lib.lastIdx s 10 k := by
  intro k
  induction k with
  | zero => intro _; rfl
  | succ k ih =>
    intro hk
    have hsz : (s.extract 0 o).size = o := by simp; omega
    have e : (s.extract 0 o).data[k]! = s.data[k]! := by
      rw [at_bang s k (by omega), at_bang _ k (by omega)]
      have h1 := byte_at (s.extract 0 o) k (by omega)
      have h2 := byte_at s k (by omega)
      rw [Lib.extract_data, List.drop_zero, List.getElem?_take, if_pos (by omega), h2] at h1
      exact (Option.some.inj h1).symm
    unfold Lib.lastIdx
    rw [e, ih (by omega)]

theorem ahead_last (s : ByteArray) (o : Nat) (ho : o ≤ s.size) : Lib.lastIndexByte (s.extract 0 o) 10 = lst s o := by
  have hsz : (s.extract 0 o).size = o := by simp; omega
  unfold Lib.lastIndexByte lst
  rw [hsz]
  exact last_upto s o ho o (Nat.le_refl _)
theorem ahead_count (s : ByteArray) (o : Nat) : (Lib.countByte (s.extract 0 o).data.toList 10 : Int) = cnt s o := by
  unfold cnt
  rw [Lib.extract_data]
  simp

end Go.Proofs.YtkolgglllladfaaGreatDoor.Cx
/-
  The walk of the program's Split: for every text whose lines' headers fit into memory.
-/
namespace Go.Proofs.YtkolgglllladfaaGreatDoor.Cx
open Go.RowKit

/-- texts as values -/
def SV (xs : List (List UInt8)) : List Value := xs.map fun x => .string ⟨x.toArray⟩
theorem SV_length (xs : List (List UInt8)) : (SV xs).length = xs.length := List.length_map _
theorem SV_append (xs ys : List (List UInt8)) : SV (xs ++ ys) = SV xs ++ SV ys := List.map_append
theorem bytes_mk (a : ByteArray) (l : List UInt8) (h : a.data.toList = l) : a = ⟨l.toArray⟩ := by cases a; simp at h; subst h; simp
theorem bytes_eta (a : ByteArray) : (⟨a.data.toList.toArray⟩ : ByteArray) = a := by cases a; simp
theorem SV_one (a : ByteArray) : SV [a.data.toList] = [.string a] := by
  show [Value.string ⟨a.data.toList.toArray⟩] = _
  rw [bytes_eta]
def strLen : Value → Nat | .string s => s.size | _ => 0

theorem Tryz.info9 : (Tryz.prog.info? 9).map (fun i => (i.zero, i.size, i.bytes)) = some (some (.string ⟨#[]⟩), 1, 16) := by kernel_rfl

theorem data_ne (r : ByteArray) (h : r.size ≠ 0) : r.data.toList ≠ [] := fun e => h (by rw [← size_data, e]; rfl)

theorem cut_parts (r : ByteArray) (h : r.size ≠ 0) : Pl.cut r.data.toList = [(r.extract 0 (Pl.fl r.data.toList)).data.toList] ++ Pl.cut (r.extract (Pl.fl r.data.toList) r.size).data.toList := by
  rw [Pl.cut_fl _ (data_ne r h), Lib.extract_data, Lib.extract_data, List.drop_zero, Nat.sub_zero]
  have : (List.drop (Pl.fl r.data.toList) r.data.toList).take (r.size - Pl.fl r.data.toList) = List.drop (Pl.fl r.data.toList) r.data.toList := by
    rw [List.take_of_length_le]
    rw [List.length_drop, size_data]
    exact Nat.le_refl _
  rw [this]
  rfl

end Go.Proofs.YtkolgglllladfaaGreatDoor.Cx
/-
  The walk of the program's Valid: for every list of strings.
-/
namespace Go.Proofs.YtkolgglllladfaaGreatDoor.Cx
open Go.RowKit

/-- strings as lists of bytes -/
def DL (xs : List ByteArray) : List (List UInt8) := xs.map (·.data.toList)
theorem DL_length (xs : List ByteArray) : (DL xs).length = xs.length := List.length_map _
theorem DL_drop (xs : List ByteArray) (k : Nat) (h : k < xs.length) : (DL xs).drop k = xs[k].data.toList :: (DL xs).drop (k + 1) := by
  have h' : k < (DL xs).length := by rw [DL_length]; exact h
  rw [List.drop_eq_getElem_cons h']
  simp [DL]
theorem ok1_no0 (x : ByteArray) (h : x.size = 0) : Pl.ok1 x.data.toList = false := by
  have : x.data.toList = [] := by rw [← List.length_eq_zero_iff, size_data]; exact h
  rw [this]; rfl
theorem ok1_eq (x : ByteArray) (h : x.size ≠ 0) : Pl.ok1 x.data.toList = decide (Pl.fl x.data.toList = x.size) := by
  unfold Pl.ok1
  have : x.data.toList.isEmpty = false := by rw [← Bool.not_eq_true, List.isEmpty_iff]; exact data_ne x h
  rw [this, size_data]; rfl

theorem ret_bool {a b : Bool} (h : a = b) : Ending.returned (.bool a) = .returned (.bool b) := by rw [h]

set_option maxHeartbeats 400000 in
theorem valid_none (a : Option Addr) (c : Nat) (w : World) :
    Calls Tryz.prog 88 #[.slice a 0 c] w fun e w' => e = .returned (.bool true) ∧ w' = w := by
  go_enter Tryz.func88, Tryz.ntmps88
  go_wp2
  refine wp_loop_rounds 1 ?_
  rw [rounds_succ]
  go_wp2
  go_ret
  exact ⟨rfl, rfl⟩

set_option maxHeartbeats 1000000 in
theorem valid_any (bk o c : Nat) (xs : List ByteArray) (w : World) (hcells : ∀ (j : Nat) x, xs[j]? = some x → w.cell? ⟨bk, o + j, none⟩ = some (.string x))
    (hN : xs.length ≤ 140737488355328) (hsz : ∀ x ∈ xs, x.size ≤ maxLen) :
    Calls Tryz.prog 88 #[.slice (some ⟨bk, o, none⟩) xs.length c] w fun e w' => e = .returned (.bool (Pl.valid (DL xs))) ∧ w' = w := by
  have HC := hid hcells
  have HS := hid hsz
  clear hcells hsz
  go_enter Tryz.func88, Tryz.ntmps88
  go_wp2
  go_loop [7] (fun i => ∃ k : Nat, k ≤ xs.length ∧ i = .int .i64 k ∧ Pl.valid (DL xs) = Pl.valid ((DL xs).drop k)) (fun i => xs.length - (intOf i).toNat)
  case atStart => exact ⟨0, Nat.zero_le _, rfl, rfl⟩
  case round =>
    obtain ⟨k, hk, rfl, hv⟩ := hrel
    have HV := hid hv
    clear hv
    by_cases hlt : k < xs.length
    · have hd := hid (DL_drop xs k hlt)
      obtain ⟨x, hx⟩ : ∃ x, x = xs[k] := ⟨_, rfl⟩
      have hcell := HC.out k x (by rw [hx]; exact List.getElem?_eq_getElem hlt)
      have hxs : x.size ≤ maxLen := HS.out x (by rw [hx]; exact List.getElem_mem hlt)
      rw [← hx] at hd
      clear hx
      by_cases h0 : x.size = 0
      · have he := empty_yes x h0
        have hres := hid (Pl.valid_bad1 x.data.toList ((DL xs).drop (k + 1)) (ok1_no0 x h0))
        clear h0
        go_wp2_with fail
        go_ret
        exact ⟨ret_bool (by rw [HV.out, hd.out, hres.out]), rfl⟩
      · have he := empty_no x h0
        have hok := ok1_eq x h0
        have hfl := Pl.fl_le x.data.toList
        rw [size_data] at hfl
        by_cases hf : Pl.fl x.data.toList = x.size
        · have hok' : Pl.ok1 x.data.toList = true := by rw [hok]; exact decide_eq_true hf
          have HF := hid hf
          have HK := hid hok'
          clear hok hok' hf hfl
          by_cases hl : k + 1 < xs.length
          · have hr : (DL xs).drop (k + 1) ≠ [] := by
              intro e
              have := congrArg List.length e
              rw [List.length_drop, DL_length, List.length_nil] at this
              omega
            cases hw : Pl.wh x.data.toList with
            | true =>
              have hres := hid (Pl.valid_good x.data.toList ((DL xs).drop (k + 1)) HK.out (.inr hw))
              clear hr
              go_wp2_with (first | (go_at_call 107; refine (first_any x _ hxs).mono ?_; rintro e w' ⟨rfl, rfl⟩; rw [HF.out]) | (go_at_call 73; refine (whole_any x _ hxs).mono ?_; rintro e w' ⟨rfl, rfl⟩))
              go_round
              case rel => exact ⟨k + 1, by omega, by go_num, by rw [HV.out, hd.out, hres.out]⟩
              case measure => simp [intOf]; omega
            | false =>
              have hres := hid (Pl.valid_bad2 x.data.toList _ hr hw)
              clear hr
              go_wp2_with (first | (go_at_call 107; refine (first_any x _ hxs).mono ?_; rintro e w' ⟨rfl, rfl⟩; rw [HF.out]) | (go_at_call 73; refine (whole_any x _ hxs).mono ?_; rintro e w' ⟨rfl, rfl⟩))
              go_ret
              exact ⟨ret_bool (by rw [HV.out, hd.out, hres.out]), rfl⟩
          · have hr : (DL xs).drop (k + 1) = [] := by
              rw [← List.length_eq_zero_iff, List.length_drop, DL_length]
              omega
            have hres := hid (Pl.valid_good x.data.toList ((DL xs).drop (k + 1)) HK.out (.inl hr))
            clear hr
            go_wp2_with (go_at_call 107; refine (first_any x _ hxs).mono ?_; rintro e w' ⟨rfl, rfl⟩; rw [HF.out])
            go_round
            case rel => exact ⟨k + 1, by omega, by go_num, by rw [HV.out, hd.out, hres.out]⟩
            case measure => simp [intOf]; omega
        · have hok' : Pl.ok1 x.data.toList = false := by rw [hok]; exact decide_eq_false hf
          have hres := hid (Pl.valid_bad1 x.data.toList ((DL xs).drop (k + 1)) hok')
          have hne : ((Pl.fl x.data.toList : Int) != (x.size : Int)) = true := by rw [bne_iff_ne]; omega
          clear hok hok'
          go_wp2_with (go_at_call 107; refine (first_any x _ hxs).mono ?_; rintro e w' ⟨rfl, rfl⟩)
          go_ret
          exact ⟨ret_bool (by rw [HV.out, hd.out, hres.out]), rfl⟩
    · have hnil : (DL xs).drop k = [] := by
        rw [← List.length_eq_zero_iff, List.length_drop, DL_length]
        omega
      have HZ := hid hnil
      clear hnil
      go_wp2
      go_ret
      exact ⟨ret_bool (by rw [HV.out, HZ.out]; rfl), rfl⟩
end Go.Proofs.YtkolgglllladfaaGreatDoor.Cx
/-
  The walk of the document's Valid: for every list of strings.
-/
namespace Go.Proofs.YtkolgglllladfaaGreatDoor.Cx
open Go.RowKit

theorem ok1_part (x : ByteArray) (j : Nat) (hj : j < x.size) (h : ((x[j].toNat : Int) == 10) = true) (hl : j + 1 < x.size) : Pl.ok1 x.data.toList = false := by
  rw [ok1_eq x (by omega)]
  refine decide_eq_false ?_
  have := Pl.fl_part x.data.toList j (by rw [byte_at x j hj, (ten_iff _).1 (beq_iff_eq.1 h)]) (by rw [size_data]; exact hl)
  rw [size_data] at this
  exact this
theorem ok1_full (x : ByteArray) (hp : x.size ≠ 0) (h : (10 : UInt8) ∉ x.data.toList.take (x.size - 1)) : Pl.ok1 x.data.toList = true := by
  rw [ok1_eq x hp]
  refine decide_eq_true ?_
  have := Pl.fl_full x.data.toList (by rw [size_data]; exact h)
  rw [size_data] at this
  exact this
theorem take_miss (x : ByteArray) (j : Nat) (hj : j < x.size) (h : ((x[j].toNat : Int) == 10) = false) (hno : (10 : UInt8) ∉ x.data.toList.take j) : (10 : UInt8) ∉ x.data.toList.take (j + 1) := by
  rw [take_snoc x j hj]
  intro h'
  rcases List.mem_append.1 h' with h' | h'
  · exact hno h'
  · simp at h'
    exact (beq_eq_false_iff_ne.1 h) ((ten_iff _).2 h'.symm)
theorem wh_ne (x : ByteArray) (h : 0 < x.size) (b : Bool) (hw : Pl.wh x.data.toList = b) : ((x[x.size - 1].toNat : Int) != 10) = !b := by
  rw [← hw, ← wh_at x h]; rfl

end Go.Proofs.YtkolgglllladfaaGreatDoor.Cx
