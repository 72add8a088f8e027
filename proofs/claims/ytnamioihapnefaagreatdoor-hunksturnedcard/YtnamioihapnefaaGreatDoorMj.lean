/-
  The program's Narrow.
-/
import Derived.Test.YtnamioihapnefaaGreatDoorMi
import Derived.Test.YtnamioihapnefaaGreatDoorGrKc
import Derived.Test.YtnamioihapnefaaGreatDoorMc
import Derived.Test.YtnamioihapnefaaGreatDoorGrJd
namespace Go.Proofs.YtnamioihapnefaaGreatDoor
open Go.RowKit
open Hu (Rw Hk)

theorem nD_len (c N : Nat) : ∀ (l : List Rw) (i : Nat) (fr : Option Nat) (last : Nat), (nD c N l i fr last).length ≤ l.length + 1
  | [], i, fr, last => by rw [nD]; simp
  | r :: l, i, fr, last => by
    rw [List.length_cons]
    by_cases h : r.k = 1
    · rw [nD_both h]; have := nD_len c N l (i + 1) fr last; omega
    · cases fr with
      | none => rw [nD_none h]; have := nD_len c N l (i + 1) (some (i - min c i)) (i + 1); omega
      | some f =>
        rw [nD_some h]
        split
        · have := nD_len c N l (i + 1) (some (i - min c i)) (i + 1); rw [List.length_cons]; omega
        · have := nD_len c N l (i + 1) (some f) (i + 1); omega
theorem headed_len (hd : ByteArray) (l : List Hk) : (headed hd l).length = l.length := by cases l <;> rfl
theorem narN_zero {h : Hk} {ctx : Int} (hn : narN h ctx = 0) : ctxOk ctx = true ∧ Hu.vld h = true := by
  unfold narN at hn
  split at hn
  · split at hn
    · exact ⟨by assumption, by assumption⟩
    · cases hn
  · cases hn
/-- a hunk that may be is small -/
theorem vld_small {h : Hk} (hv : Hu.vld h = true) : h.rows.length ≤ 4294967294 ∧ Kd h.rows ∧ (0 ≤ Hu.plc h.a h.n ∧ Hu.plc h.a h.n ≤ 4294967296 ∧ 0 ≤ Hu.plc h.b h.m ∧ Hu.plc h.b h.m ≤ 4294967296) := by
  obtain ⟨y1, y2, y3, y4, _, y5, y6, y7, _, _⟩ := Hu.vld_parts hv
  refine ⟨?_, ?_, ?_⟩
  · have y9 := y1
    unfold Hu.areR at y9
    rw [Bool.and_eq_true] at y9
    have := rows_le y9.1
    omega
  · intro r hr
    unfold Hu.areR at y1
    rw [Bool.and_eq_true, List.all_eq_true] at y1
    have := y1.1 r hr
    unfold Hu.isC at this
    simp at this
    exact this
  · unfold Hu.plc
    split <;> split <;> omega
theorem narA_len {h : Hk} {ctx : Int} : (narA h ctx).length < 1954687338260 := by
  unfold narA
  split
  · rename_i hn
    rw [headed_len, List.length_map]
    have := nD_len ctx.toNat h.rows.length h.rows 0 none 0
    have := (vld_small (narN_zero hn).2).1
    omega
  · simp
theorem sub_mem {l : List Rw} {f t : Nat} {r : Rw} (h : r ∈ Hu.sub l f t) : r ∈ l := by
  unfold Hu.sub at h
  exact List.mem_of_mem_drop (List.mem_of_mem_take h)
theorem sub_len (l : List Rw) (f t : Nat) : (Hu.sub l f t).length ≤ l.length := by
  unfold Hu.sub
  rw [List.length_take, List.length_drop]
  omega
theorem cutP_sz {h : Hk} {f t : Nat} (hz : SzH h) : SzH (cutP h f t) := by
  obtain ⟨h1, h2, h3⟩ := hz
  refine ⟨?_, fun r hr => h2 r (sub_mem hr), by show ByteArray.empty.size ≤ maxLen; decide⟩
  have := sub_len h.rows f t
  show (Hu.sub h.rows f t).length < _
  omega
theorem headed_sz {hd : ByteArray} {l : List Hk} (hh : hd.size ≤ maxLen) (hz : ∀ x ∈ l, SzH x) : ∀ x ∈ headed hd l, SzH x := by
  cases l with
  | nil => exact fun x hx => by cases hx
  | cons y l =>
    intro x hx
    rcases List.mem_cons.1 hx with rfl | hx
    · exact ⟨(hz y (by simp)).1, (hz y (by simp)).2.1, hh⟩
    · exact hz x (by simp [hx])
theorem narA_sz {h : Hk} {ctx : Int} (hz : SzH h) : ∀ x ∈ narA h ctx, SzH x := by
  unfold narA
  split
  · refine headed_sz hz.2.2 (fun x hx => ?_)
    obtain ⟨s, _, rfl⟩ := List.mem_map.1 hx
    exact cutP_sz hz
  · intro x hx; cases hx
end Go.Proofs.YtnamioihapnefaaGreatDoor
