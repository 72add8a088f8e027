/-
  Builders: what writing keeps; the walks of writePieces, writeMarked; the laws' same.
-/
import Derived.Test.YtjgjfnmljmmplaaDoorS4
import Derived.Test.YtjgjfnmljmmplaaDoorShelf
import Derived.Shelf.Strings.BuilderK
import Derived.Lib.OthersKept
namespace Go.Proofs.YtjgjfnmljmmplaaDoor
open Go.RowKit

/-- a builder and what it holds -/
def BfAt (B b : Nat) (l : Sd.Bs) (w : World) : Prop := Lib.IsBuilderF 57 5 B b (Lib.byteCells l) w
/-- what writing leaves as it was -/
structure Frm (B b : Nat) (w w' : World) : Prop where
  below : Below B w w'
  others : Lib.OthersKept 5 (some b) w w'
theorem Frm.refl (B b : Nat) (w : World) : Frm B b w w := ⟨Below.refl _ _, Lib.OthersKept.refl _ _ _⟩
theorem Frm.trans {B b : Nat} {x y z : World} (h : Frm B b x y) (k : Frm B b y z) : Frm B b x z := ⟨h.below.trans k.below, h.others.trans k.others⟩
theorem Frm.of {B b : Nat} {w w' : World} (h : Below w.heap.size w w') (hB : B ≤ w.heap.size) : Frm B b w w' :=
  ⟨h.mono hB, fun k _ hk _ _ => (h.block k (lt_of_heap hk)).trans hk⟩
theorem Frm.box {B b k : Nat} {w w' : World} {cs : Array Value} {t : TypeId} (h : Frm B b w w') (hk : w.heap[k]? = some (.cells cs t)) (hne : k ≠ b) (ht : t ≠ 5) : w'.heap[k]? = some (.cells cs t) :=
  h.others k _ hk (fun e => hne (Option.some.inj e)) (fun c fz e => ht (by injection e))
theorem BfAt.below {B b : Nat} {l : Sd.Bs} {w w' : World} (h : BfAt B b l w) (hb : Below w.heap.size w w') : BfAt B b l w' := by
  have key : ∀ p, Lib.BuilderAtF 57 5 B b p (Lib.byteCells l) w → Lib.BuilderAtF 57 5 B b p (Lib.byteCells l) w' := by
    rintro p ⟨hB, v, hbk, hown, hne⟩
    refine ⟨hB, v, (hb.block b (lt_of_heap hbk)).trans hbk, ⟨hown.1, ?_⟩, hne⟩
    rcases hown.2 with h | ⟨g, cap, cur, fz, hv, hg, hh, r⟩
    · exact .inl h
    · exact .inr ⟨g, cap, cur, fz, hv, hg, (hb.block g (lt_of_heap hh)).trans hh, r⟩
  rcases h with h | h
  · exact .inl (key _ h)
  · exact .inr (key _ h)
theorem BfAt.lt {B b : Nat} {l : Sd.Bs} {w : World} (h : BfAt B b l w) : b < w.heap.size ∧ B ≤ b := by
  rcases h with ⟨hB, v, hbk, _⟩ | ⟨hB, v, hbk, _⟩
  · exact ⟨lt_of_heap hbk, hB⟩
  · exact ⟨lt_of_heap hbk, hB⟩
theorem ws_any {B b : Nat} {l : Sd.Bs} {w : World} (s : ByteArray) (h : BfAt B b l w) (hl : l.length + s.size ≤ 140737488355328) (hB : B ≤ w.heap.size) :
    Calls Tryd.prog 29 #[.pointer (some ⟨b, 0, none⟩), .string s] w fun e w' => e = .returned (.tuple #[.int .i64 s.size, .nilIface]) ∧ BfAt B b (l ++ s.data.toList) w' ∧ Frm B b w w' := by
  refine (Any.Builder_WriteString_k Tryd.laysm166 Tryd.Extra_m166 B b (Lib.byteCells l) s w h (by rw [Lib.byteCells_length]; exact hl) hB).mono ?_
  rintro e w' ⟨rfl, hA, hb, ho⟩
  refine ⟨rfl, .inr ?_, hb, ho⟩
  rw [Lib.byteCells_append]
  exact hA

/-- strings one behind the other -/
def flatB (L : List ByteArray) : Sd.Bs := (L.map (·.data.toList)).flatten
theorem flatB_take {L : List ByteArray} {k : Nat} {x : ByteArray} (h : L[k]? = some x) : flatB (L.take (k + 1)) = flatB (L.take k) ++ x.data.toList := by
  unfold flatB
  rw [List.take_add_one, h, List.map_append, List.flatten_append]
  simp
theorem flatB_le (L : List ByteArray) (k : Nat) : (flatB (L.take k)).length ≤ (flatB L).length := by
  have e : flatB L = flatB (L.take k) ++ flatB (L.drop k) := by
    unfold flatB
    rw [← List.flatten_append, ← List.map_append, List.take_append_drop]
  rw [e, List.length_append]
  omega

/-- strings between two marks; of none nothing -/
def markB (o : Sd.Bs) (L : List ByteArray) (c : Sd.Bs) : Sd.Bs := if L.length = 0 then [] else o ++ flatB L ++ c

end Go.Proofs.YtjgjfnmljmmplaaDoor
