/-
  Several texts in one: Jd, Je.
-/
import Derived.Test.YthnibchlgcgalaaGreatDoorJb
import Derived.Test.YthnibchlgcgalaaGreatDoorGrPl
import Derived.Test.YthnibchlgcgalaaGreatDoorGrD5
/-
  The walks of endsFit and Build.
-/
namespace Go.Proofs.YthnibchlgcgalaaGreatDoor
open Go.RowKit
open Hu (Rw Hk)
open Ed (Ch)

theorem rdC_sliced {w : World} {a : Option Addr} {c : Nat} {l : List Ch} (h : RdC w (.slice a l.length c) l) {x y : Nat} (hxy : x ≤ y) (hy : y ≤ l.length) :
    RdC w (.slice (if c = x then a else a.map (·.add (x * 4))) (y - x) (c - x)) ((l.drop x).take (y - x)) := by
  have hlen : ((l.drop x).take (y - x)).length = y - x := by rw [List.length_take, List.length_drop]; omega
  show RdX _ _ _ _
  rw [hlen]
  rcases Nat.eq_or_lt_of_le hxy with rfl | hlt
  · rw [Nat.sub_self]
    exact .inl ⟨rfl, _, _, rfl⟩
  · rcases h with ⟨hn, _⟩ | ⟨b, o, c', hv, hc, hb, hX⟩
    · omega
    · cases hv
      rw [if_neg (by omega)]
      refine .inr ⟨b, o + x * 4, c - x, ?_, by omega, hb, fun j u hj => ?_⟩
      · show Value.slice (some ((⟨b, o, none⟩ : Addr).add (x * 4))) _ _ = _
        rw [Go.WideShapes.add_plain]
      · have hj' : (csC l)[x * 4 + j]? = some u := by
          have hjl : j < (csC ((l.drop x).take (y - x))).length := (List.getElem?_eq_some_iff.1 hj).1
          rw [csC_length, hlen] at hjl
          have hk : j / 4 < y - x := by omega
          obtain ⟨r, hr⟩ : ∃ r, l[x + j / 4]? = some r := ⟨_, List.getElem?_eq_getElem (by omega)⟩
          have h1 := csC_get hr (j % 4) (Nat.mod_lt _ (by omega))
          have h2 := csC_get (l := (l.drop x).take (y - x)) (k := j / 4) (c := r) (by rw [List.getElem?_take, if_pos hk, List.getElem?_drop]; exact hr) (j % 4) (Nat.mod_lt _ (by omega))
          rw [show j / 4 * 4 + j % 4 = j by omega] at h2
          rw [show (x + j / 4) * 4 + j % 4 = x * 4 + j by omega] at h1
          rw [h1, ← h2]
          exact hj
        have := hX (x * 4 + j) u hj'
        rw [Nat.add_assoc]; exact this
theorem getD_at {a : List ByteArray} {k : Nat} {x : ByteArray} (h : a[k]? = some x) : a.getD k .empty = x := by rw [List.getD_eq_getElem?_getD, h]; rfl
set_option maxHeartbeats 4000000 in
set_option maxRecDepth 100000 in
/-- the last test of endsFit, wherever it is asked -/
theorem ends_zero {a b : List ByteArray} {y : Int} : Hu.ends2 a b (0, y) = true := rfl
theorem ends_at {a b : List ByteArray} {X Y : Nat} {p q : ByteArray} (hp : a[X]? = some p) (hq : b[Y]? = some q) : Hu.ends2 a b ((X : Int) + 1, (Y : Int) + 1) = (Hu.whT p == Hu.whT q) := by
  unfold Hu.ends2
  dsimp only
  rw [if_neg (by omega), show ((X : Int) + 1 - 1).toNat = X by omega, show ((Y : Int) + 1 - 1).toNat = Y by omega, getD_at hp, getD_at hq]
end Go.Proofs.YthnibchlgcgalaaGreatDoor
/-
  The walk of Build.
-/
namespace Go.Proofs.YthnibchlgcgalaaGreatDoor
open Go.RowKit
open Hu (Rw Hk)
open Ed (Ch)

def slLen : Value → Nat
  | .slice _ n _ => n
  | _ => 0
theorem rdC_take {w : World} {a : Option Addr} {c n : Nat} {l : List Ch} (h : RdC w (.slice a l.length c) l) (hn : n ≤ l.length) : RdC w (.slice a n c) (l.take n) := by
  have hlen : (l.take n).length = n := by rw [List.length_take]; omega
  show RdX _ _ _ _
  rw [hlen]
  rcases Nat.eq_zero_or_pos n with rfl | hpos
  · exact .inl ⟨rfl, _, _, rfl⟩
  · rcases h with ⟨h0, _⟩ | ⟨b, o, c', hv, hc, hb, hX⟩
    · omega
    · cases hv
      refine .inr ⟨b, o, c, rfl, by omega, hb, fun j u hj => hX j u ?_⟩
      have hjl : j < (csC (l.take n)).length := (List.getElem?_eq_some_iff.1 hj).1
      have e : csC l = csC (l.take n) ++ csC (l.drop n) := by rw [← csC_append, List.take_append_drop]
      rw [e, List.getElem?_append_left hjl]
      exact hj
/-- what Build answers: the error's number, the hunks -/
def bldN (s : List Ch) (a b : List ByteArray) (ctx : Int) : Nat :=
  if ctxOk ctx then (if Hu.valS a && Hu.valS b then (if Ed.validN s a.length b.length = 0 then (if Hu.endsP (Ed.normal s a.length b.length) a b then 0 else 61) else Ed.validN s a.length b.length) else 3) else 1
def bldA (s : List Ch) (a b : List ByteArray) (ctx : Int) : List Hk := if bldN s a b ctx = 0 then Hu.bld ctx a b (Ed.normal s a.length b.length) else []
theorem errV_pos {n : Nat} (h : n ≠ 0) : errV n = .iface 51 (.int .i64 n) := by unfold errV; rw [if_neg h]
theorem bldA_no {s : List Ch} {a b : List ByteArray} {ctx : Int} (h : bldN s a b ctx ≠ 0) : bldA s a b ctx = [] := if_neg h
theorem normal_apart {s : List Ch} {n m : Int} (h : Ed.Val s n m) : Ed.apart (Ed.normal s n m) := by rw [Ed.normal_eq]; exact Ed.ofL_apart h.rise
theorem inC_of {t : List Ch} {n m : Int} (h : Ed.Val t n m) : InC t := by
  have hn := Ed.cnt_iff.1 h.1
  have hm := Ed.cnt_iff.1 h.2.1
  intro c hc
  have := Hu.inc_in (Hu.inc_val h.2.2 (by omega) (by omega)) c hc
  omega
end Go.Proofs.YthnibchlgcgalaaGreatDoor
