/-
  The walks of the program's readQuoted and Unquote: for every string.
-/
import Derived.Test.YtnbonghlmdnabaaDoorXQ5
import Derived.Deep.RegionWith
namespace Go.Proofs.YtnbonghlmdnabaaDoor.Cx
open Go.RowKit

/-- what is answered: a name and the rest, or the error -/
def tup : Option (List UInt8 × List UInt8) → Value
  | none => .tuple #[.string ⟨#[]⟩, .string ⟨#[]⟩, .iface 57 (.int .i64 20)]
  | some (a, r) => .tuple #[.string ⟨a.toArray⟩, .string ⟨r.toArray⟩, .nilIface]
def lenOf : Value → Nat
  | .string x => x.size
  | _ => 0

theorem bytes_etaQ (x : ByteArray) : ByteArray.mk x.data.toList.toArray = x := by simp
theorem ext_drop (x : ByteArray) (k : Nat) (_h : k ≤ x.size) : (x.extract k x.size).data.toList = x.data.toList.drop k := by
  rw [Lib.extract_data]
  rw [List.take_of_length_le (by rw [List.length_drop, size_data]; exact Nat.le_refl _)]
theorem ext_drop' (x : ByteArray) (k : Nat) (h : k ≤ x.size) : x.extract k x.size = ⟨(x.data.toList.drop k).toArray⟩ := by
  rw [← ext_drop x k h, bytes_etaQ]

theorem below_drewN {B : Nat} {a w : World} (h : Below B a w) (m : Nat) : Below B a (w.drewN m) := ⟨h.os, h.tape, h.output, h.size, h.block⟩
theorem builder_stays {T e : TypeId} {B b : Nat} {bs : List Value} {w w' : World} (h : Lib.IsBuilder T e B b bs w) (hb : Below w.heap.size w w') : Lib.IsBuilder T e B b bs w' := by
  have key : ∀ p, Lib.BuilderAt T e B b p bs w → Lib.BuilderAt T e B b p bs w' := by
    rintro p ⟨hB, v, hbk, hown, hne⟩
    have h1 : b < w.heap.size := by
      rcases Nat.lt_or_ge b w.heap.size with k | k
      · exact k
      · rw [Array.getElem?_eq_none k] at hbk; cases hbk
    refine ⟨hB, v, (hb.block b h1).trans hbk, ⟨hown.1, ?_⟩, hne⟩
    rcases hown.2 with h | ⟨g, cap, cur, hv, hg, hh, r⟩
    · exact .inl h
    · have h2 : g < w.heap.size := by
        rcases Nat.lt_or_ge g w.heap.size with k | k
        · exact k
        · rw [Array.getElem?_eq_none k] at hh; cases hh
      exact .inr ⟨g, cap, cur, hv, hg, (hb.block g h2).trans hh, r⟩
  rcases h with h | h
  · exact .inl (key _ h)
  · exact .inr (key _ h)

theorem rq_byte (x : ByteArray) (out : List UInt8) (h : 1 ≤ x.size) (h10 : x[0].toNat ≠ 10) (h34 : x[0].toNat ≠ 34) :
    ((rbV x).2 = 0 ∧ Pq.rq out x.data.toList = none) ∨ (1 ≤ (rbV x).2 ∧ (rbV x).2 ≤ x.size ∧ Pq.rq out x.data.toList = Pq.rq (out ++ [(rbV x).1]) (x.data.toList.drop (rbV x).2)) := by
  have n10 : x[0] ≠ 10 := fun e => h10 (by rw [e]; rfl)
  have n34 : x[0] ≠ 34 := fun e => h34 (by rw [e]; rfl)
  cases hb : Pq.rb x.data.toList with
  | none =>
    refine .inl ⟨by rw [rbV_none hb], ?_⟩
    rw [data1 x h] at hb ⊢
    exact Pq.rq_none _ _ _ n34 hb
  | some bk =>
    obtain ⟨b, k⟩ := bk
    obtain ⟨h1, h2⟩ := Pq.rb_len _ _ _ hb
    rw [size_data] at h2
    rw [rbV_some hb]
    refine .inr ⟨h1, h2, ?_⟩
    rw [data1 x h] at hb ⊢
    exact Pq.rq_some _ _ _ _ _ n10 n34 hb

theorem ret_threeQ {a b c d e f : Value} (h1 : a = d) (h2 : b = e) (h3 : c = f) : Ending.returned (.tuple #[a, b, c]) = .returned (.tuple #[d, e, f]) := by rw [h1, h2, h3]

theorem unq_yes (s : ByteArray) (h : 1 ≤ s.size) (h34 : s[0].toNat = 34) : Pq.unq s.data.toList = Pq.rq [] (s.data.toList.drop 1) := by
  unfold Pq.unq
  have e : s[0] = 34 := UInt8.toNat_inj.1 (show s[0].toNat = (34 : UInt8).toNat from h34)
  rw [data1 s h, e]
  simp
theorem unq_no (s : ByteArray) (h : s.size = 0 ∨ ∃ h1 : 1 ≤ s.size, s[0].toNat ≠ 34) : Pq.unq s.data.toList = some (s.data.toList.take (pl s), s.data.toList.drop (pl s)) := by
  have hh : s.data.toList.head? ≠ some 34 := by
    rcases h with h | ⟨h1, h34⟩
    · rw [List.length_eq_zero_iff.1 (show s.data.toList.length = 0 by rw [size_data]; exact h)]; simp
    · rw [data1 s h1]
      intro e
      exact h34 (by rw [Option.some.inj e]; rfl)
  unfold Pq.unq
  rw [if_neg hh]
  have e := List.takeWhile_append_dropWhile (p := Pq.plain) (l := s.data.toList)
  have e1 : s.data.toList.take (pl s) = s.data.toList.takeWhile Pq.plain := by
    conv => lhs; rw [← e]
    exact List.take_left' rfl
  have e2 : s.data.toList.drop (pl s) = s.data.toList.dropWhile Pq.plain := by
    conv => lhs; rw [← e]
    exact List.drop_left' rfl
  rw [e1, e2]
theorem ext_take' (x : ByteArray) (k : Nat) : x.extract 0 k = ⟨(x.data.toList.take k).toArray⟩ := by
  rw [← bytes_etaQ (x.extract 0 k), Lib.extract_data]
  simp

end Go.Proofs.YtnbonghlmdnabaaDoor.Cx
