/-
  Several texts in one: J6, J8.
-/
import Derived.Test.YtkolgglllladfaaGreatDoorGrJ3
/-
  The walks of ahead, begin, lacksEnd, Order.
-/
namespace Go.Proofs.YtkolgglllladfaaGreatDoor
open Go.RowKit
open Hu (Rw Hk)

theorem below_set {B g k : Nat} {w w' : World} {u : Value} (h : Below B w w') (hg : B ≤ g) : Below B w (w'.setCell ⟨g, k, none⟩ u) :=
  ⟨h.os, h.tape, h.output, by rw [set_size]; exact h.size, fun j hj => (set_other w' (by omega)).trans (h.block j hj)⟩
/-- a hunk whose places are numbers -/
def PlH (h : Hk) : Prop := (0 < h.n → -9223372036854775808 < h.a) ∧ h.a ≤ 9223372036854775807 ∧ (0 < h.m → -9223372036854775808 < h.b) ∧ h.b ≤ 9223372036854775807
theorem vld_pl {h : Hk} (hv : Hu.vld h = true) : PlH h := by
  obtain ⟨_, h1, h2, h3, _, h4, h5, h6, _, _⟩ := Hu.vld_parts hv
  unfold PlH
  refine ⟨fun _ => ?_, ?_, fun _ => ?_, ?_⟩ <;> omega
def SpV (x y : Int) : Value := .agg #[.int .i64 x, .int .i64 y]
theorem whole_any2 (s : ByteArray) (w : World) (hs : s.size ≤ maxLen) : Calls Tryz.prog 73 #[.string s] w fun e w' => e = .returned (.bool (Hu.whT s)) ∧ w' = w := Cx.whole_any s w hs
theorem lack_at {s : List ByteArray} {x : ByteArray} (h : s[s.length - 1]? = some x) : Hu.lack s = !Hu.whT x := by
  unfold Hu.lack
  rw [List.getLast?_eq_getElem?, h]
end Go.Proofs.YtkolgglllladfaaGreatDoor
/-
  The walks of isContext, groupLength, appendRows, told, behind, hunk (made by wip/genj8.py).
-/
namespace Go.Proofs.YtkolgglllladfaaGreatDoor
open Go.RowKit
open Hu (Rw Hk)
open Ed (Ch)

def ctxOk (c : Int) : Bool := decide (0 ≤ c) && decide (c ≤ 2147483647)
/-- changes whose numbers are those of texts -/
def InC (t : List Ch) : Prop := ∀ c ∈ t, 0 ≤ c.a ∧ 0 ≤ c.n ∧ c.a + c.n ≤ 4194304 ∧ 0 ≤ c.b ∧ 0 ≤ c.m ∧ c.b + c.m ≤ 4194304
/-- what an append may write: its own row alone, where that lies then -/
def OwnOnly (w w' : World) (v v' : Value) : Prop := (∀ k, k < w.heap.size → v.ownBlock ≠ some k → w'.heap[k]? = w.heap[k]?) ∧ Lies w v v'
theorem OwnOnly.refl (w : World) (v : Value) : OwnOnly w w v v := ⟨fun _ _ _ => rfl, fun _ h => .inl h⟩
theorem OwnOnly.step {w w1 w2 w3 : World} {v v1 v3 : Value} (h : OwnOnly w w1 v v1) (hb : Below w1.heap.size w1 w2) (hs : w.heap.size ≤ w1.heap.size) (hg : w2.grownBy w3 v1.ownBlock) (hl : Lies w2 v1 v3) : OwnOnly w w3 v v3 := by
  refine ⟨fun k hk hn => ?_, fun k hk => ?_⟩
  · refine (hg.block k (Nat.lt_of_lt_of_le hk (Nat.le_trans hs hb.size)) (fun e => ?_)).trans ((hb.block k (Nat.lt_of_lt_of_le hk hs)).trans (h.1 k hk hn))
    rcases h.2 k e.symm with h3 | h3
    · exact hn h3
    · omega
  · rcases hl k hk with h3 | h3
    · exact h.2 k h3
    · exact .inr (Nat.le_trans hs (Nat.le_trans hb.size h3))
theorem mk_take {ts : List ByteArray} {k : Nat} {x : ByteArray} {kd : Int} (h : ts[k]? = some x) : Hu.mk kd (ts.take (k + 1)) = Hu.mk kd (ts.take k) ++ [⟨kd, x⟩] := by
  unfold Hu.mk
  rw [List.take_add_one, h, List.map_append]
  rfl
theorem olds_take_len {l : List Rw} {k : Nat} {x : Rw} (h : l[k]? = some x) : ((Hu.olds (l.take (k + 1))).length : Int) = (Hu.olds (l.take k)).length + if Hu.isO x then 1 else 0 := by
  rw [olds_take h]
  split <;> simp
theorem fres_take_len {l : List Rw} {k : Nat} {x : Rw} (h : l[k]? = some x) : ((Hu.fres (l.take (k + 1))).length : Int) = (Hu.fres (l.take k)).length + if Hu.isF x then 1 else 0 := by
  rw [fres_take h]
  split <;> simp
/-- rows of the three kinds -/
def Kd (l : List Rw) : Prop := ∀ r ∈ l, r.k = 1 ∨ r.k = 2 ∨ r.k = 3
end Go.Proofs.YtkolgglllladfaaGreatDoor
