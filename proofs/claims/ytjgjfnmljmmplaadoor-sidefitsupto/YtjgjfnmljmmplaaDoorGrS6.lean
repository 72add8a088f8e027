/-
  Several texts in one: S6, XPlaceRef.
-/
import Derived.Test.YtjgjfnmljmmplaaDoorS5
import Derived.Test.YtjgjfnmljmmplaaDoorC4
import Derived.Test.YtjgjfnmljmmplaaDoorXEnds
import Derived.Lib.Strings
/-
  The walk of the program's Inline.
-/
namespace Go.Proofs.YtjgjfnmljmmplaaDoor
open Go.RowKit
open Ed (Ch)

theorem fresh_builder (w : World) : Lib.IsBuilder 57 5 w.heap.size w.heap.size [] (w.alloc (.cells #[.pointer none, .slice none 0 0] 57)) :=
  .inl ⟨Nat.le_refl _, .slice none 0 0, heap_alloc_new _ _, World.ownsRow_nil _ _ _ _, by simp [Value.ownBlock]⟩
theorem str_any {B b : Nat} {l : Sd.Bs} {w : World} (h : BfAt B b l w) (hB : B ≤ w.heap.size) :
    Calls Tryd.prog 22 #[.pointer (some ⟨b, 0, none⟩)] w fun e w' => e = .returned (.string (bB l)) ∧ Below B w w' := by
  refine (Any.Builder_String_any_k Tryd.lays169 Tryd.Builder_Extra_169 B b l w h hB).mono ?_
  rintro e w' ⟨rfl, _, hb, _⟩
  exact ⟨rfl, hb⟩
theorem under_sliced {w : World} {a : Option Addr} {c x n' c' : Nat} {l : List ByteArray} {B : Nat} (h : RdT w (.slice a l.length c) l) (hu : Under B (.slice a l.length c)) (hx : x + n' ≤ l.length) : Under B (.slice (if c = x then a else a.map (·.add x)) n' c') := by
  intro b o m c2 hv hm
  injection hv with hv1 hv2 hv3
  rcases h with ⟨h0, _⟩ | ⟨b0, o0, c0, hv0, _, _, _⟩
  · omega
  · injection hv0 with e1 e2 e3
    subst e1
    have := hu b0 o0 l.length c rfl (by omega)
    split at hv1
    · cases hv1; exact this
    · rw [Option.map_some, Go.WideShapes.add_plain] at hv1
      cases hv1
      exact this
/-- a part of a list -/
def part (L : List ByteArray) (x y : Nat) : List ByteArray := (L.drop x).take (y - x)
/-- what is told of changes and two lists, from the new one's place k on -/
def inlP (A B : List ByteArray) : List Ch → Nat → Sd.Bs
  | [], k => flatB (part B k B.length)
  | c :: r, k => flatB (part B k c.b.toNat) ++ (markB [91, 45] (part A c.a.toNat (c.a + c.n).toNat) [45, 93] ++ (markB [123, 43] (part B c.b.toNat (c.b + c.m).toNat) [43, 125] ++ inlP A B r (c.b + c.m).toNat))
theorem inlP_at {A B : List ByteArray} {s : List Ch} {k i : Nat} {c : Ch} (h : s[i]? = some c) : inlP A B (s.drop i) k = flatB (part B k c.b.toNat) ++ (markB [91, 45] (part A c.a.toNat (c.a + c.n).toNat) [45, 93] ++ (markB [123, 43] (part B c.b.toNat (c.b + c.m).toNat) [43, 125] ++ inlP A B (s.drop (i + 1)) (c.b + c.m).toNat)) := by
  obtain ⟨hi, he⟩ := List.getElem?_eq_some_iff.1 h
  rw [List.drop_eq_getElem_cons hi, he]
  rfl
theorem markB_le (o c : Sd.Bs) (L : List ByteArray) : (flatB L).length ≤ (markB o L c).length := by
  unfold markB
  split
  · rename_i h; rw [List.length_eq_zero_iff.1 h]; simp [flatB]
  · simp; omega
theorem val_at : ∀ {s : List Ch} {a b n m : Int} {i : Nat} {c : Ch}, Ed.val (s.drop i) a b n m = true → s[i]? = some c → Ed.okC a b n m c ∧ Ed.val (s.drop (i + 1)) (c.a + c.n) (c.b + c.m) n m = true := by
  intro s a b n m i c h hc
  obtain ⟨hi, he⟩ := List.getElem?_eq_some_iff.1 hc
  rw [List.drop_eq_getElem_cons hi, he] at h
  exact Ed.val_cons.1 h
theorem part_len {L : List ByteArray} {x y : Nat} (hy : y ≤ L.length) : (part L x y).length = y - x := by unfold part; rw [List.length_take, List.length_drop]; omega
end Go.Proofs.YtjgjfnmljmmplaaDoor
/-
  The walk of the document's Place, for every text and every offset.
-/
namespace Go.Proofs.YtjgjfnmljmmplaaDoor.Cx
open Go.RowKit

/-- how many bytes 10 stand ahead of place k -/
def cnt (s : ByteArray) (k : Nat) : Int := Lib.countByte (s.data.toList.take k) 10
/-- where the last byte 10 ahead of place k stands, or -1 -/
def lst (s : ByteArray) (k : Nat) : Int := Lib.lastIdx s 10 k

theorem cnt_le (s : ByteArray) (k : Nat) : 0 ≤ cnt s k ∧ cnt s k ≤ k := by
  unfold cnt Lib.countByte
  have h1 : List.count (10 : UInt8) (s.data.toList.take k) ≤ (s.data.toList.take k).length := List.count_le_length
  have h2 : (s.data.toList.take k).length ≤ k := List.length_take_le _ _
  omega
theorem lst_le (s : ByteArray) (k : Nat) : -1 ≤ lst s k ∧ lst s k < k := by
  unfold lst
  rcases Lib.lastIdx_spec s 10 k with ⟨e, _⟩ | ⟨i, hi, e, _⟩ <;> rw [e] <;> omega
theorem take_snoc (s : ByteArray) (k : Nat) (h : k < s.size) : s.data.toList.take (k + 1) = s.data.toList.take k ++ [s[k]] := by
  rw [List.take_succ_eq_append_getElem (by simpa using h)]; rfl
theorem at_bang (s : ByteArray) (k : Nat) (h : k < s.size) : s.data[k]! = s[k] := by
  have : k < s.data.size := h
  rw [getElem!_pos s.data k this]; rfl
theorem ten_iff (c : UInt8) : ((c.toNat : Int) = 10) ↔ c = 10 := by
  rw [← UInt8.toNat_inj]
  show _ ↔ _ = 10
  omega
theorem step_hit (s : ByteArray) (k : Nat) (h : k < s.size) (e : ((s[k].toNat : Int) == 10) = true) : cnt s (k + 1) = cnt s k + 1 ∧ lst s (k + 1) = k := by
  have e' := beq_iff_eq.1 e
  have e2 := (ten_iff _).1 e'
  refine ⟨?_, ?_⟩
  · unfold cnt Lib.countByte; rw [take_snoc s k h, List.count_append, e2]; simp
  · unfold lst; exact Lib.lastIdx_hit s 10 k (by rw [at_bang s k h]; exact e')
theorem step_miss (s : ByteArray) (k : Nat) (h : k < s.size) (e : ((s[k].toNat : Int) == 10) = false) : cnt s (k + 1) = cnt s k ∧ lst s (k + 1) = lst s k := by
  have e' := beq_eq_false_iff_ne.1 e
  have e2 : s[k] ≠ 10 := fun x => e' ((ten_iff _).2 x)
  refine ⟨?_, ?_⟩
  · unfold cnt Lib.countByte; rw [take_snoc s k h, List.count_append]; simp [e2]
  · unfold lst; exact Lib.lastIdx_miss s 10 k (by rw [at_bang s k h]; exact e')

theorem ret_three {a b c d : Int} {p q : Bool} (h1 : a = b) (h2 : c = d) (h3 : p = q) :
    Ending.returned (.tuple #[.int .i64 a, .int .i64 c, .bool p]) = .returned (.tuple #[.int .i64 b, .int .i64 d, .bool q]) := by rw [h1, h2, h3]

end Go.Proofs.YtjgjfnmljmmplaaDoor.Cx
