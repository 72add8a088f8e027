/-
  The walk of the program's Inline.
-/
import Derived.Test.YtjgjfnmljmmplaaDoorS5
import Derived.Test.YtjgjfnmljmmplaaDoorC4
namespace Go.Proofs.YtjgjfnmljmmplaaDoor
open Go.RowKit
open Ed (Ch)

theorem fresh_builder (w : World) : Lib.IsBuilder 57 5 w.heap.size w.heap.size [] (w.alloc (.cells #[.pointer none, .slice none 0 0] 57)) :=
  .inl ⟨Nat.le_refl _, .slice none 0 0, heap_alloc_new _ _, World.ownsRow_nil _ _ _ _, by simp [Value.ownBlock]⟩
theorem str_any {B b : Nat} {l : Sd.Bs} {w : World} (h : BfAt B b l w) (hB : B ≤ w.heap.size) :
    Calls Tryd.prog 22 #[.pointer (some ⟨b, 0, none⟩)] w fun e w' => e = .returned (.string (bB l)) ∧ Below B w w' := by
  refine (Any.Builder_String_any_k Tryd.lays169 Tryd.Builder_Extra_169 B b l w h hB).mono ?_
  rintro e w' ⟨rfl, _, hb, _⟩
  exact ⟨rfl, hb⟩
theorem under_sliced {w : World} {a : Option Addr} {c x n' c' : Nat} {l : List ByteArray} {B : Nat} (h : RdT w (.slice a l.length c) l) (hu : Under B (.slice a l.length c)) (hx : x + n' ≤ l.length) : Under B (.slice (if c = x then a else a.map (·.add x)) n' c') := by
  intro b o m c2 hv hm
  injection hv with hv1 hv2 hv3
  rcases h with ⟨h0, _⟩ | ⟨b0, o0, c0, hv0, _, _, _⟩
  · omega
  · injection hv0 with e1 e2 e3
    subst e1
    have := hu b0 o0 l.length c rfl (by omega)
    split at hv1
    · cases hv1; exact this
    · rw [Option.map_some, Go.WideShapes.add_plain] at hv1
      cases hv1
      exact this
/-- a part of a list -/
def part (L : List ByteArray) (x y : Nat) : List ByteArray := (L.drop x).take (y - x)
/-- what is told of changes and two lists, from the new one's place k on -/
def inlP (A B : List ByteArray) : List Ch → Nat → Sd.Bs
  | [], k => flatB (part B k B.length)
  | c :: r, k => flatB (part B k c.b.toNat) ++ (markB [91, 45] (part A c.a.toNat (c.a + c.n).toNat) [45, 93] ++ (markB [123, 43] (part B c.b.toNat (c.b + c.m).toNat) [43, 125] ++ inlP A B r (c.b + c.m).toNat))
theorem inlP_at {A B : List ByteArray} {s : List Ch} {k i : Nat} {c : Ch} (h : s[i]? = some c) : inlP A B (s.drop i) k = flatB (part B k c.b.toNat) ++ (markB [91, 45] (part A c.a.toNat (c.a + c.n).toNat) [45, 93] ++ (markB [123, 43] (part B c.b.toNat (c.b + c.m).toNat) [43, 125] ++ inlP A B (s.drop (i + 1)) (c.b + c.m).toNat)) := by
  obtain ⟨hi, he⟩ := List.getElem?_eq_some_iff.1 h
  rw [List.drop_eq_getElem_cons hi, he]
  rfl
theorem markB_le (o c : Sd.Bs) (L : List ByteArray) : (flatB L).length ≤ (markB o L c).length := by
  unfold markB
  split
  · rename_i h; rw [List.length_eq_zero_iff.1 h]; simp [flatB]
  · simp; omega
theorem val_at : ∀ {s : List Ch} {a b n m : Int} {i : Nat} {c : Ch}, Ed.val (s.drop i) a b n m = true → s[i]? = some c → Ed.okC a b n m c ∧ Ed.val (s.drop (i + 1)) (c.a + c.n) (c.b + c.m) n m = true := by
  intro s a b n m i c h hc
  obtain ⟨hi, he⟩ := List.getElem?_eq_some_iff.1 hc
  rw [List.drop_eq_getElem_cons hi, he] at h
  exact Ed.val_cons.1 h
theorem part_len {L : List ByteArray} {x y : Nat} (hy : y ≤ L.length) : (part L x y).length = y - x := by unfold part; rw [List.length_take, List.length_drop]; omega
end Go.Proofs.YtjgjfnmljmmplaaDoor
