/-
  What the walks of path lean on: bytes and lists, the library's plain functions held against the chapter's.
-/
import Derived.Test.YtmlgggnjghkojabDoorRows
import Derived.Test.YtmlgggnjghkojabDoorPp
import Derived.WalkKit
import Derived.WalkSpells
import Derived.WalkLawsBesides
import Derived.Lib.Split
import Derived.Lib.IndexAny
import Derived.Lib.IndexBytes
import Derived.Lib.LastIndexByte
import Derived.Lib.TrimByte
import Derived.Lib.Join
import Derived.Lib.MapLaws
import Derived.Lib.SlicesS
import Derived.Laws.RangeString
import Derived.Deep.LoopGhost
namespace Go.Proofs.YtmlgggnjghkojabDoor
open Go.RowKit

theorem hid {p : Prop} (h : p) : Hid p := h
theorem size_data (s : ByteArray) : s.data.toList.length = s.size := by rw [Array.length_toList]; rfl
theorem emptyB (s : ByteArray) : s.toList.isEmpty = decide (s.size = 0) := by
  rw [ByteArray.toList_eq, Bool.eq_iff_iff, List.isEmpty_iff, ← List.length_eq_zero_iff, size_data]
  simp
theorem empty_yes (s : ByteArray) (h : s.size = 0) : s.toList.isEmpty = true := by rw [emptyB]; exact decide_eq_true h
theorem empty_no (s : ByteArray) (h : s.size ≠ 0) : s.toList.isEmpty = false := by rw [emptyB]; exact decide_eq_false h
theorem nil_data (s : ByteArray) (h : s.size = 0) : s.data.toList = [] := List.length_eq_zero_iff.1 (by rw [size_data]; exact h)
theorem data_nil (s : ByteArray) (h : s.data.toList = []) : s.size = 0 := by rw [← size_data, h]; rfl
theorem take_snoc (s : ByteArray) (k : Nat) (h : k < s.size) : s.data.toList.take (k + 1) = s.data.toList.take k ++ [s[k]] := by
  rw [List.take_add_one, List.getElem?_eq_getElem (by rw [size_data]; exact h)]
  rfl
theorem take_all (s : ByteArray) (k : Nat) (h : s.size ≤ k) : s.data.toList.take k = s.data.toList := List.take_of_length_le (by rw [size_data]; exact h)
theorem drop_head (s : ByteArray) (k : Nat) (h : k < s.size) : s.data.toList.drop k = s[k] :: s.data.toList.drop (k + 1) := by
  rw [List.drop_eq_getElem_cons (by rw [size_data]; exact h)]
  rfl
theorem at_data (s : ByteArray) (k : Nat) (h : k < s.size) : s.data.toList[k]? = some s[k] := Lib.data_getElem? s k h
theorem ieq {n : Nat} {m : Int} (h : (n : Int) = m) : ((n : Int) == m) = true := beq_iff_eq.2 h
theorem ine {n : Nat} {m : Int} (h : (n : Int) ≠ m) : ((n : Int) == m) = false := beq_eq_false_iff_ne.2 h
theorem bytes_eta (x : ByteArray) : (⟨x.data.toList.toArray⟩ : ByteArray) = x := by cases x; simp
theorem bytes_ext {x y : ByteArray} (h : x.data.toList = y.data.toList) : x = y := by rw [← bytes_eta x, ← bytes_eta y, h]
theorem bytes_eq (x y : ByteArray) : (x.toList == y.toList) = decide (x.data.toList = y.data.toList) := by
  rw [Bool.eq_iff_iff, beq_iff_eq, decide_eq_true_eq, ByteArray.toList_eq, ByteArray.toList_eq]
theorem size_mk (l : List UInt8) : (ByteArray.mk l.toArray).size = l.length := List.size_toArray
theorem slash_iff (c : UInt8) : ((c.toNat : Int) = 47) ↔ c = 47 :=
  ⟨fun h => UInt8.toNat_inj.1 (by show c.toNat = 47; omega), fun h => by subst h; rfl⟩
theorem zero_iff (c : UInt8) : ((c.toNat : Int) = 0) ↔ c = 0 :=
  ⟨fun h => UInt8.toNat_inj.1 (by show c.toNat = 0; omega), fun h => by subst h; rfl⟩

/-- lists of bytes as strings, and back -/
def BL (l : List (List UInt8)) : List ByteArray := l.map fun x => ⟨x.toArray⟩
def DL (xs : List ByteArray) : List (List UInt8) := xs.map (·.data.toList)
def SV (l : List (List UInt8)) : List Value := l.map fun x => .string ⟨x.toArray⟩
theorem BL_length (l : List (List UInt8)) : (BL l).length = l.length := List.length_map _
theorem DL_length (l : List ByteArray) : (DL l).length = l.length := List.length_map _
theorem SV_length (l : List (List UInt8)) : (SV l).length = l.length := List.length_map _
theorem DL_BL (l : List (List UInt8)) : DL (BL l) = l := by
  unfold DL BL
  rw [List.map_map]
  refine (List.map_congr_left fun x _ => ?_).trans (List.map_id _)
  simp
theorem BL_DL (l : List ByteArray) : BL (DL l) = l := by
  unfold DL BL
  rw [List.map_map]
  refine (List.map_congr_left fun x _ => ?_).trans (List.map_id _)
  exact bytes_eta x
theorem BL_inj {l r : List (List UInt8)} (h : BL l = BL r) : l = r := by rw [← DL_BL l, ← DL_BL r, h]
theorem DL_inj {l r : List ByteArray} (h : DL l = DL r) : l = r := by rw [← BL_DL l, ← BL_DL r, h]
theorem SV_at (l : List (List UInt8)) (j : Nat) (x : ByteArray) (h : (BL l)[j]? = some x) : (SV l)[j]? = some (.string x) := by
  unfold BL at h
  unfold SV
  rw [List.getElem?_map] at h ⊢
  cases hl : l[j]? with
  | none => rw [hl] at h; cases h
  | some y => rw [hl] at h; simp at h; rw [← h]; rfl
theorem SV_append (l r : List (List UInt8)) : SV (l ++ r) = SV l ++ SV r := List.map_append
theorem SV_DL (xs : List ByteArray) : SV (DL xs) = xs.map Value.string := by
  unfold SV DL
  rw [List.map_map]
  refine List.map_congr_left fun x _ => ?_
  show Value.string ⟨x.data.toList.toArray⟩ = _
  rw [bytes_eta]
theorem SV_BL (l : List (List UInt8)) : (BL l).map Value.string = SV l := by rw [← SV_DL, DL_BL]
theorem SV_snoc (l : List (List UInt8)) (a : ByteArray) : SV (l ++ [a.data.toList]) = SV l ++ [.string a] := by
  rw [SV_append]
  show _ ++ [Value.string ⟨a.data.toList.toArray⟩] = _
  rw [bytes_eta]
theorem DL_snoc (l : List ByteArray) (a : ByteArray) : DL (l ++ [a]) = DL l ++ [a.data.toList] := List.map_append

/-! ### the library's cutting -/
theorem index_slash (l : List UInt8) : (Lib.index l [47] = -1 ∧ (47 : UInt8) ∉ l) ∨ ∃ i : Nat, Lib.index l [47] = i ∧ i < l.length ∧ l = l.take i ++ 47 :: l.drop (i + 1) ∧ (47 : UInt8) ∉ l.take i := by
  rw [Lib.index_one]
  induction l with
  | nil => exact .inl ⟨rfl, by simp⟩
  | cons c r ih =>
    unfold Lib.indexByte
    by_cases hc : c = 47
    · refine .inr ⟨0, by rw [hc]; rfl, by simp, by simp [hc], by simp⟩
    · have e : (c == 47) = false := beq_eq_false_iff_ne.2 hc
      rw [if_neg (by rw [e]; simp)]
      rcases ih with ⟨h1, h2⟩ | ⟨i, h1, h2, h3, h4⟩
      · refine .inl ⟨by rw [h1]; rfl, fun h => ?_⟩
        rcases List.mem_cons.1 h with h | h
        · exact hc h.symm
        · exact h2 h
      · refine .inr ⟨i + 1, ?_, by simpa using h2, ?_, ?_⟩
        · rw [h1, if_neg (by simp)]; omega
        · rw [List.take_succ_cons, List.drop_succ_cons, List.cons_append, ← h3]
        · rw [List.take_succ_cons]
          intro h
          rcases List.mem_cons.1 h with h | h
          · exact hc h.symm
          · exact h4 h
theorem splitK_pieces : ∀ (f : Nat) (l : List UInt8), l.length < f → Lib.splitK [47] 0 (Lib.countFrom [47] f l) l = Pp.pieces l
  | 0, l, h => by omega
  | f + 1, l, h => by
    unfold Lib.countFrom
    rcases index_slash l with ⟨h1, h2⟩ | ⟨i, h1, h2, h3, h4⟩
    · rw [if_pos (by rw [h1]; rfl), Lib.splitK, Pp.pieces_none l h2]
    · have e : ¬ ((Lib.index l [47] == -1) = true) := by rw [h1]; simp
      rw [if_neg e, Nat.add_comm, Lib.splitK, if_neg e, h1]
      have e2 : ((i : Int)).toNat = i := by omega
      rw [e2]
      have ih := splitK_pieces f (l.drop (i + 1)) (by rw [List.length_drop]; omega)
      show l.take (i + 0) :: Lib.splitK [47] 0 (Lib.countFrom [47] f (l.drop (i + 1))) (l.drop (i + 1)) = _
      rw [ih, Nat.add_zero]
      conv => rhs; rw [h3]
      rw [Pp.pieces_first _ _ h4]
theorem split_pieces (s : ByteArray) : Lib.splitB ⟨#[47]⟩ 0 (Lib.countB s ⟨#[47]⟩) s = BL (Pp.pieces s.data.toList) := by
  have h := Lib.splitB_data ⟨#[47]⟩ 0 (Lib.countB s ⟨#[47]⟩) s
  have h2 := splitK_pieces (s.data.toList.length + 1) s.data.toList (by omega)
  have h3 : DL (Lib.splitB ⟨#[47]⟩ 0 (Lib.countB s ⟨#[47]⟩) s) = Pp.pieces s.data.toList := h.trans h2
  rw [← h3, BL_DL]

/-! ### the last slash -/
theorem last_cases (s : ByteArray) : (Lib.lastIndexByte s 47 = -1 ∧ (47 : UInt8) ∉ s.data.toList) ∨
    ∃ i : Nat, Lib.lastIndexByte s 47 = i ∧ i < s.size ∧ s.data.toList = s.data.toList.take i ++ 47 :: s.data.toList.drop (i + 1) ∧ (47 : UInt8) ∉ s.data.toList.drop (i + 1) := by
  have hget : ∀ j (h : j < s.size), s.data[j]! = s[j] := fun j h => by
    rw [getElem!_pos s.data j h]; rfl
  rcases Lib.lastIndexByte_spec s 47 with ⟨h1, h2⟩ | ⟨i, h1, h2, h3, h4⟩
  · refine .inl ⟨h1, fun h => ?_⟩
    obtain ⟨j, hj, e⟩ := List.getElem_of_mem h
    have hj' : j < s.size := by rw [← size_data]; exact hj
    have := h2 j hj'
    rw [hget j hj'] at this
    refine this ((slash_iff _).2 ?_)
    exact e
  · refine .inr ⟨i, h2, h1, ?_, fun h => ?_⟩
    · have e : s[i] = 47 := (slash_iff _).1 (by rw [← hget i h1]; exact h3)
      rw [← e, ← drop_head s i h1, List.take_append_drop]
    · obtain ⟨j, hj, e⟩ := List.getElem_of_mem h
      rw [List.length_drop, size_data] at hj
      have hj' : i + 1 + j < s.size := by omega
      have := h4 (i + 1 + j) (by omega) hj'
      rw [hget _ hj'] at this
      refine this ((slash_iff _).2 ?_)
      rw [List.getElem_drop] at e
      exact e

/-! ### slash and NUL -/
theorem indexAny_two (l : List UInt8) : Lib.containsAny l [47, 0] = l.any fun c => c == 47 || c == 0 := by
  unfold Lib.containsAny
  induction l with
  | nil => rfl
  | cons c r ih =>
    have hge := Lib.indexAny_ge [47, 0] r
    have e : [47, 0].contains c = (c == 47 || c == 0) := by
      show (c == 47 || ([0] : List UInt8).elem c) = _
      show (c == 47 || (match c == 0 with | true => true | false => false)) = _
      cases c == 0 <;> rfl
    rw [List.any_cons, ← ih]
    have e2 : Lib.indexAny (c :: r) [47, 0] = if [47, 0].contains c then 0 else if Lib.indexAny r [47, 0] == -1 then -1 else Lib.indexAny r [47, 0] + 1 := rfl
    rw [e2, e]
    cases hc : (c == 47 || c == 0) with
    | true => simp
    | false =>
      simp only [Bool.false_eq_true, if_false, Bool.false_or]
      split
      · next h => rw [beq_iff_eq.1 h]
      · next h =>
        have h' : Lib.indexAny r [47, 0] ≠ -1 := fun x => h (by rw [x]; rfl)
        rw [Bool.eq_iff_iff, decide_eq_true_eq, decide_eq_true_eq]
        omega

/-! ### runes -/
theorem rune_at (s : ByteArray) (i : Nat) (h : i < s.size) (hc : ¬ s[i].toNat < 128) :
    128 ≤ (Utf8.decode s i).1 ∧ (Utf8.decode s i).1 ≤ 1114111 ∧ 1 ≤ (Utf8.decode s i).2 ∧ i + (Utf8.decode s i).2 ≤ s.size ∧ ∀ j, i ≤ j → j < i + (Utf8.decode s i).2 → ∀ hj : j < s.size, 128 ≤ s[j].toNat := by
  have hget : ∀ j (h : j < s.size), s.get! j = s[j] := fun j h => by
    show s.data[j]! = _
    rw [getElem!_pos s.data j h]; rfl
  have hlt : ∀ b : UInt8, b.toNat < 256 := fun b => b.toNat_lt
  have h0 : (s.get! i).toNat = s[i].toNat := by rw [hget i h]
  rw [Lib.decode_at]
  have hb0 : ¬ (s.get! i).toNat < 128 := by rw [h0]; exact hc
  have l0 := hlt (s.get! i)
  have l1 := hlt (s.get! (i + 1))
  have l2 := hlt (s.get! (i + 2))
  have l3 := hlt (s.get! (i + 3))
  rcases Lib.decodeN_shape (s.size - i) (s.get! i).toNat (s.get! (i + 1)).toNat (s.get! (i + 2)).toNat (s.get! (i + 3)).toNat with ⟨k1, k⟩ | ⟨k1, k2, k3, k4, k⟩ | ⟨k1, k2, k3, k4, k5, k6, k⟩ | ⟨k1, k2, k3, k4, k5, k6, k7, k⟩ | k
  · exact absurd k1 hb0
  · rw [k]
    refine ⟨k4, by show _ % 32 * 64 + _ % 64 ≤ _; omega, by omega, by show i + 2 ≤ s.size; omega, fun j h1 h2 hj => ?_⟩
    have h2' : j < i + 2 := h2
    have : j = i ∨ j = i + 1 := by omega
    rcases this with rfl | rfl
    · omega
    · have := hget (i + 1) hj; rw [← this]; omega
  · rw [k]
    refine ⟨by show 128 ≤ _ % 16 * 4096 + _ % 64 * 64 + _ % 64; omega, by show _ % 16 * 4096 + _ % 64 * 64 + _ % 64 ≤ _; omega, by omega, by show i + 3 ≤ s.size; omega, fun j h1 h2 hj => ?_⟩
    have h2' : j < i + 3 := h2
    have : j = i ∨ j = i + 1 ∨ j = i + 2 := by omega
    rcases this with rfl | rfl | rfl
    · omega
    · have := hget (i + 1) hj; rw [← this]; omega
    · have := hget (i + 2) hj; rw [← this]; omega
  · rw [k]
    refine ⟨by show 128 ≤ _ % 8 * 262144 + _ % 64 * 4096 + _ % 64 * 64 + _ % 64; omega, k7, by omega, by show i + 4 ≤ s.size; omega, fun j h1 h2 hj => ?_⟩
    have h2' : j < i + 4 := h2
    have : j = i ∨ j = i + 1 ∨ j = i + 2 ∨ j = i + 3 := by omega
    rcases this with rfl | rfl | rfl | rfl
    · omega
    · have := hget (i + 1) hj; rw [← this]; omega
    · have := hget (i + 2) hj; rw [← this]; omega
    · have := hget (i + 3) hj; rw [← this]; omega
  · rw [k]
    refine ⟨by omega, by omega, by omega, by show i + 1 ≤ s.size; omega, fun j h1 h2 hj => ?_⟩
    have h2' : j < i + 1 := h2
    obtain rfl : j = i := by omega
    omega
end Go.Proofs.YtmlgggnjghkojabDoor
