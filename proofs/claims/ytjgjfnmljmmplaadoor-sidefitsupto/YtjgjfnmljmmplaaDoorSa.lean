/-
  Lines in memory: read, of the call's own; append of one; bytes.
-/
import Derived.Test.YtjgjfnmljmmplaaDoorS0
import Derived.Test.YtjgjfnmljmmplaaDoorC2
namespace Go.Proofs.YtjgjfnmljmmplaaDoor
open Go.RowKit

theorem dsize (x : ByteArray) : x.data.toList.length = x.size := by rw [Array.length_toList]; rfl
theorem ba_ext {x y : ByteArray} (h : x.data.toList = y.data.toList) : x = y := by
  obtain ⟨⟨a⟩⟩ := x
  obtain ⟨⟨b⟩⟩ := y
  simp at h
  rw [h]
def bB (l : Sd.Bs) : ByteArray := ⟨l.toArray⟩
theorem bB_data (l : Sd.Bs) : (bB l).data.toList = l := rfl
theorem ext_bB (s : ByteArray) (x y : Nat) : s.extract x y = bB ((s.data.toList.drop x).take (y - x)) := by
  apply ba_ext
  rw [bB_data]
  simp [ByteArray.data_extract]
theorem get_data {s : ByteArray} {k : Nat} (h : k < s.size) : s.data.toList[k]? = some s[k] := by
  rw [List.getElem?_eq_getElem (by rw [dsize]; exact h)]
  rfl
/-! ### lines -/
def stC (l : List ByteArray) : List Value := l.map Value.string
theorem stC_length (l : List ByteArray) : (stC l).length = l.length := List.length_map _
theorem stC_get {l : List ByteArray} {k : Nat} {x : ByteArray} (h : l[k]? = some x) : (stC l)[k]? = some (.string x) := by unfold stC; rw [List.getElem?_map, h]; rfl
theorem stC_append (l m : List ByteArray) : stC (l ++ m) = stC l ++ stC m := List.map_append
theorem stC_one (l : List ByteArray) : ∀ u ∈ stC l, u.oneCell' = true := by
  intro u hu
  obtain ⟨x, _, rfl⟩ := List.mem_map.1 hu
  rfl
abbrev RdT (w : World) (v : Value) (l : List ByteArray) : Prop := RdX w v l.length (stC l)
abbrev OwnT (w : World) (B : Nat) (v : Value) (l : List ByteArray) : Prop := w.ownsRow B 9 1 v l.length (stC l)
theorem rdT_at {w : World} {a : Option Addr} {n c : Nat} {l : List ByteArray} (h : RdT w (.slice a n c) l) {k : Nat} {x : ByteArray} (hk : l[k]? = some x) :
    ∃ b o, a = some ⟨b, o, none⟩ ∧ b < w.heap.size ∧ w.cell? ⟨b, o + k, none⟩ = some (.string x) := by
  rcases h with ⟨hn, _⟩ | ⟨b, o, c', hv, _, hb, hX⟩
  · rw [List.length_eq_zero_iff.1 hn] at hk; simp at hk
  · cases hv
    exact ⟨b, o, rfl, hb, hX k _ (stC_get hk)⟩
/-- a part of lines -/
theorem rdT_sliced {w : World} {a : Option Addr} {c : Nat} {l : List ByteArray} (h : RdT w (.slice a l.length c) l) {x y : Nat} (hxy : x ≤ y) (hy : y ≤ l.length) :
    RdT w (.slice (if c = x then a else a.map (·.add x)) (y - x) (c - x)) ((l.drop x).take (y - x)) := by
  have hlen : ((l.drop x).take (y - x)).length = y - x := by rw [List.length_take, List.length_drop]; omega
  show RdX _ _ _ _
  rw [hlen]
  rcases Nat.eq_or_lt_of_le hxy with rfl | hlt
  · rw [Nat.sub_self]
    exact .inl ⟨rfl, _, _, rfl⟩
  · rcases h with ⟨hn, _⟩ | ⟨b, o, c', hv, hc, hb, hX⟩
    · omega
    · cases hv
      rw [if_neg (by omega)]
      refine .inr ⟨b, o + x, c - x, ?_, by omega, hb, fun j u hj => ?_⟩
      · show Value.slice (some ((⟨b, o, none⟩ : Addr).add x)) _ _ = _
        rw [Go.WideShapes.add_plain]
      · have hj' : (stC l)[x + j]? = some u := by
          unfold stC at hj ⊢
          rw [List.getElem?_map] at hj ⊢
          rw [List.getElem?_take] at hj
          split at hj
          · rw [List.getElem?_drop] at hj; exact hj
          · cases hj
        have := hX (x + j) u hj'
        rw [Nat.add_assoc]; exact this
theorem rd_cap {w : World} {a : Option Addr} {n c : Nat} {cs : List Value} (h : RdX w (.slice a n c) n cs) : n ≤ c := by
  rcases h with ⟨h0, _⟩ | ⟨_, _, _, hv, hc, _⟩
  · omega
  · cases hv; exact hc

theorem Tryd.infoStr : (Tryd.prog.info? 9).map (fun i => (i.zero, i.size, i.bytes)) = some (some (.string .empty), 1, 16) := by kernel_rfl
/-- where an append's row lies -/
def Lies (w : World) (v v' : Value) : Prop := ∀ k, v'.ownBlock = some k → v.ownBlock = some k ∨ w.heap.size ≤ k
theorem wpList_append_st {w : World} {ops : Array Oper} {rest : List Oper} {o : Oper} {a : Act} {Q : Exit → Act → World → Prop} (hgd : o.guard = none) (s x : Operand)
    (ho : o.op = .call { callee := .builtin .append, args := #[s, x], argTypes := #[23, 23] }) (B : Nat) (v : Value) (l : List ByteArray) (hs : a.eval s = v) (hown : OwnT w B v l)
    (g : Nat) (t : ByteArray) (hx : a.eval x = .slice (some ⟨g, 0, none⟩) 1 1) (hg : w.heap[g]? = some (.cells #[.string t] 9)) (hfit : l.length < 8796093022200) (hB : B ≤ w.heap.size)
    (h : ∀ v' w', OwnT w' B v' (l ++ [t]) → w.grownBy w' v.ownBlock → Lies w v v' → Below B w w' → wpList Tryd.prog ops Q rest (a.put o.dst v') w') : wpList Tryd.prog ops Q (o :: rest) a w := by
  obtain ⟨i0, hi, hz0, hz1, hz2⟩ := info_parts Tryd.infoStr
  refine wpList_append_lies _ hgd s x 23 ho B 9 i0 (.string .empty) 1 16 Tryd.underlying23 hi hz0 hz1 hz2 rfl (by decide) v l.length (stC l) hs hown ⟨g, 0, none⟩ 1 1 [.string t] hx rfl ?_ ?_ (by decide) ?_ ?_ hB w.heap.size rfl ?_
  · exact World.news_of_block (cs := #[.string t]) hg
  · have := stC_one [t]
    simpa [stC] using this
  · unfold maxLen; omega
  · omega
  · intro g' cap w' g2 g3 g4 _
    refine h _ w' ?_ g3 ?_ ((Below.refl _ _).grown g3 hB (own_ge hown))
    · show w'.ownsRow _ _ _ _ _ _
      rw [List.length_append, stC_append]
      exact g2
    · intro k hk
      cases hk
      rcases g4 with g4 | g4
      · exact .inl g4
      · exact .inr (Nat.le_of_eq g4.symm)
end Go.Proofs.YtjgjfnmljmmplaaDoor
