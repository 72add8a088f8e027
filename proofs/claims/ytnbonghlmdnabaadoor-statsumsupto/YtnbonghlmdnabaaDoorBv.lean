/-
  The program's Sum (ST6): a map from names to places.
-/
import Derived.Test.YtnbonghlmdnabaaDoorBu
import Derived.Maps.OwnSet
import Derived.Maps.AppendAt
namespace Go.Proofs.YtnbonghlmdnabaaDoor.Sx
open Go.RowKit
open Go.Maps (Keyed Tidy)

theorem strLaw : Keyed Tryd.prog 9 := Maps.string_keyed Tryd.underlying9
theorem zeroInt (w : World) : (zeroValue 3).run Tryd.prog w = .ok (.int .i64 0) w := by kernel_rfl

/-- a map's datum that has these keys' places -/
def Knows (D : DataW Unit) (ks : List (List UInt8)) : Prop :=
  Tidy D ∧ Maps.size D = ks.length ∧ ∀ k, Maps.has D (.string k) = decide (k ∈ ks) ∧ (k ∈ ks → D.atKey (.string k) (.lit (.int .i64 0)) = .lit (.int .i64 (ks.idxOf k)))
theorem knows_nil : Knows (.map []) [] := ⟨Maps.tidy_empty, rfl, fun k => ⟨rfl, fun h => by cases h⟩⟩
theorem isKey_string (k : List UInt8) : WideAt.IsKeyLit (.string k) := by first | exact ⟨_, rfl⟩ | trivial | simp [WideAt.IsKeyLit]
theorem Knows.put {D : DataW Unit} {ks : List (List UInt8)} (h : Knows D ks) {k : List UInt8} (hk : k ∉ ks) : Knows (D.put (.string k) (.lit (.int .i64 ks.length))) (ks ++ [k]) := by
  obtain ⟨ht, hs, hk'⟩ := h
  have hno : Maps.has D (.string k) = false := by rw [(hk' k).1]; exact decide_eq_false hk
  refine ⟨ht.put (isKey_string k) _, ?_, fun j => ?_⟩
  · rw [Maps.size_put ht, hno, hs]; simp
  · by_cases hj : j = k
    · subst hj
      refine ⟨?_, fun _ => ?_⟩
      · rw [Maps.has_put_same ht.isMap (isKey_string j)]; simp
      · rw [Maps.atKey_put_same ht.isMap (isKey_string j), List.idxOf_append, if_neg hk]; simp
    · have hne : (Lit.string j) ≠ .string k := fun e => hj (by cases e; rfl)
      refine ⟨?_, fun hm => ?_⟩
      · rw [Maps.has_put_other hne, (hk' j).1]; simp [hj]
      · have hm' : j ∈ ks := by simpa [hj] using hm
        rw [Maps.atKey_put_other hne, (hk' j).2 hm', List.idxOf_append, if_pos hm']

/-- block M is such a map -/
def MapAt (w : World) (M : Nat) (ks : List (List UInt8)) : Prop := ∃ D : DataW Unit, w.ownsMap Tryd.prog 9 (plainElem Tryd.prog 3) M ks.length D ∧ Knows D ks
theorem grown_of_below {w w' : World} (h : Below w.heap.size w w') (row : Option Nat) : w.grownBy w' row := ⟨h.os, h.tape, h.output, h.size, fun i hi _ => h.block i hi⟩
theorem MapAt.kept {w w' : World} {M : Nat} {ks : List (List UInt8)} {row : Option Nat} (h : MapAt w M ks) (hg : w.grownBy w' row) (hne : some M ≠ row) : MapAt w' M ks := by
  obtain ⟨D, h1, h2⟩ := h
  exact ⟨D, h1.kept hg hne, h2⟩
theorem MapAt.stays {w w' : World} {M : Nat} {ks : List (List UInt8)} (h : MapAt w M ks) (hb : Below w.heap.size w w') : MapAt w' M ks := h.kept (grown_of_below hb none) (by simp)
theorem MapAt.lt {w : World} {M : Nat} {ks : List (List UInt8)} (h : MapAt w M ks) : M < w.heap.size := by
  obtain ⟨D, h1, _⟩ := h
  exact h1.lt
theorem MapAt.new (w : World) : MapAt (w.alloc (.map #[] 0)) w.heap.size [] := ⟨.map [], World.ownsMap_made _ _ _ _, knows_nil⟩

/-- the names, as keys -/
def kys (R : List Ct) : List (List UInt8) := R.map fun c => c.nm.data.toList
theorem kys_len (R : List Ct) : (kys R).length = R.length := List.length_map _
theorem kys_mem {R : List Ct} {x : ByteArray} : x.data.toList ∈ kys R ↔ x ∈ nms R := by
  constructor
  · intro h
    obtain ⟨c, hc, e⟩ := List.mem_map.1 h
    have : c.nm = x := ba_ext (by first | exact e | simpa using e)
    rw [← this]
    exact List.mem_map_of_mem hc
  · intro h
    obtain ⟨c, hc, e⟩ := List.mem_map.1 h
    rw [← e]
    exact List.mem_map_of_mem (f := fun c : Ct => c.nm.data.toList) hc
theorem kys_add {R : List Ct} {c : Ct} (h : c.nm ∈ nms R) : kys (addK R c) = kys R := by
  have e : ∀ L : List Ct, kys L = (nms L).map (·.data.toList) := fun L => by unfold kys nms; rw [List.map_map]; rfl
  rw [e, e, nms_add h]
theorem kys_new {R : List Ct} {c : Ct} (h : c.nm ∉ nms R) : kys (addK R c) = kys R ++ [c.nm.data.toList] := by
  rw [addK_new h]
  unfold kys
  rw [List.map_append]
  rfl
/-- where a name is: its first place -/
theorem kys_at {R : List Ct} {x : ByteArray} (h : x ∈ nms R) : ∃ (j : Nat) (y : Ct), (kys R).idxOf x.data.toList = j ∧ R[j]? = some y ∧ y.nm = x ∧ ∀ i z, i < j → R[i]? = some z → z.nm ≠ x := by
  induction R with
  | nil => cases h
  | cons c r ih =>
    by_cases hc : c.nm = x
    · refine ⟨0, c, ?_, rfl, hc, fun i z hi => by omega⟩
      rw [← hc]
      exact List.idxOf_cons_self
    · have h2 : x ∈ nms r := by
        rcases List.mem_cons.1 h with h | h
        · exact absurd h.symm hc
        · exact h
      obtain ⟨j, y, h3, h4, h5, h6⟩ := ih h2
      refine ⟨j + 1, y, ?_, by simpa using h4, h5, fun i z hi hz => ?_⟩
      · have hne : c.nm.data.toList ≠ x.data.toList := fun e => hc (ba_ext (by first | exact e | simpa using e))
        show List.idxOf x.data.toList (c.nm.data.toList :: kys r) = j + 1
        rw [List.idxOf_cons, show (c.nm.data.toList == x.data.toList) = false from beq_eq_false_iff_ne.2 hne, h3]
        rfl
      · cases i with
        | zero => cases hz; exact hc
        | succ i => exact h6 i z (by omega) (by simpa using hz)
end Go.Proofs.YtnbonghlmdnabaaDoor.Sx
