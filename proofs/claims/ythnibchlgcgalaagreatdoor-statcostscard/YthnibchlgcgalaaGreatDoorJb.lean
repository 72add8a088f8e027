/-
  The walk of ofGroup.
-/
import Derived.Test.YthnibchlgcgalaaGreatDoorGrJ9
namespace Go.Proofs.YthnibchlgcgalaaGreatDoor
open Go.RowKit
open Hu (Rw Hk)
open Ed (Ch)

/-- where ofGroup keeps its first and last change, and what it answers -/
def GrI (w wc : World) (R F L : Nat) (c d : Ch) : Prop := wc.heap[F]? = some (.cells #[.int .i64 c.a, .int .i64 c.n, .int .i64 c.b, .int .i64 c.m] 68) ∧ wc.heap[L]? = some (.cells #[.int .i64 d.a, .int .i64 d.n, .int .i64 d.b, .int .i64 d.m] 68) ∧ wc.heap[R]? = some (.cells #[.int .i64 0, .int .i64 0, .int .i64 0, .int .i64 0, .string ⟨#[]⟩, .slice none 0 0] 48) ∧ F ≠ R ∧ L ≠ R ∧ F ≠ L ∧ Below w.heap.size w wc
theorem gr_one {w w1 : World} {R : Nat} {c d : Ch} (hb : Below w.heap.size w w1) (hR : R = w.heap.size) (hk : w1.heap[R]? = some (.cells #[.int .i64 0, .int .i64 0, .int .i64 0, .int .i64 0, .string ⟨#[]⟩, .slice none 0 0] 48)) :
    GrI w ((w1.alloc (.cells #[.int .i64 c.a, .int .i64 c.n, .int .i64 c.b, .int .i64 c.m] 68)).alloc (.cells #[.int .i64 d.a, .int .i64 d.n, .int .i64 d.b, .int .i64 d.m] 68)).drew R w1.heap.size (w1.heap.size + 1) c d ∧
    GrI w ((w1.alloc (.cells #[.int .i64 d.a, .int .i64 d.n, .int .i64 d.b, .int .i64 d.m] 68)).alloc (.cells #[.int .i64 c.a, .int .i64 c.n, .int .i64 c.b, .int .i64 c.m] 68)).drew R (w1.heap.size + 1) w1.heap.size c d := by
  have hlt := lt_of_heap hk
  have two : ∀ X Y : Obj, ((w1.alloc X).alloc Y).drew.heap[w1.heap.size]? = some X ∧ ((w1.alloc X).alloc Y).drew.heap[w1.heap.size + 1]? = some Y ∧ ((w1.alloc X).alloc Y).drew.heap[R]? = w1.heap[R]? ∧ Below w.heap.size w ((w1.alloc X).alloc Y).drew := by
    intro X Y
    have h1 := (Below.refl w1.heap.size w1).alloc (Nat.le_refl _) X
    have h2 : Below (w1.alloc X).heap.size (w1.alloc X) ((w1.alloc X).alloc Y) := (Below.refl _ _).alloc (Nat.le_refl _) Y
    refine ⟨(h2.block w1.heap.size (by simp)).trans (heap_alloc_new w1 X), ?_, (h2.block R (by simp; omega)).trans (h1.block R hlt), ?_⟩
    · show ((w1.alloc X).alloc Y).heap[w1.heap.size + 1]? = some Y
      have := heap_alloc_new (w1.alloc X) Y
      simpa using this
    · have h3 := (hb.alloc hb.size X).alloc (by simp; have := hb.size; omega) Y
      exact ⟨h3.os, h3.tape, h3.output, h3.size, h3.block⟩
  obtain ⟨a1, a2, a3, a4⟩ := two (.cells #[.int .i64 c.a, .int .i64 c.n, .int .i64 c.b, .int .i64 c.m] 68) (.cells #[.int .i64 d.a, .int .i64 d.n, .int .i64 d.b, .int .i64 d.m] 68)
  obtain ⟨b1, b2, b3, b4⟩ := two (.cells #[.int .i64 d.a, .int .i64 d.n, .int .i64 d.b, .int .i64 d.m] 68) (.cells #[.int .i64 c.a, .int .i64 c.n, .int .i64 c.b, .int .i64 c.m] 68)
  exact ⟨⟨a1, a2, a3.trans hk, by omega, by omega, by omega, a4⟩, ⟨b2, b1, b3.trans hk, by omega, by omega, by omega, b4⟩⟩
theorem rowsG_cons {a b : List ByteArray} {p q : Int} {c : Ch} {r : List Ch} : Hu.rowsG a b p (c :: r) q = Hu.mk 1 (Hu.sl a p c.a) ++ (Hu.mk 2 (Hu.sl a c.a (c.a + c.n)) ++ (Hu.mk 3 (Hu.sl b c.b (c.b + c.m)) ++ Hu.rowsG a b (c.a + c.n) r q)) := rfl
theorem drop_atC {l : List Ch} {k : Nat} {x : Ch} (h : l[k]? = some x) : l.drop k = x :: l.drop (k + 1) := by
  obtain ⟨h1, h2⟩ := List.getElem?_eq_some_iff.1 h
  rw [List.drop_eq_getElem_cons h1, h2]
end Go.Proofs.YthnibchlgcgalaaGreatDoor
