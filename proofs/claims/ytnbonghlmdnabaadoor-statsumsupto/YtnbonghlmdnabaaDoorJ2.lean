/-
  Rows, hunks, lines in memory: read, of the call's own; append of one.
-/
import Derived.Test.YtnbonghlmdnabaaDoorJ1
import Derived.Test.YtnbonghlmdnabaaDoorC2
namespace Go.Proofs.YtnbonghlmdnabaaDoor
open Go.RowKit
open Hu (Rw Hk)

/-! ### lines -/
def stC (l : List ByteArray) : List Value := l.map Value.string
theorem stC_length (l : List ByteArray) : (stC l).length = l.length := List.length_map _
theorem stC_get {l : List ByteArray} {k : Nat} {x : ByteArray} (h : l[k]? = some x) : (stC l)[k]? = some (.string x) := by unfold stC; rw [List.getElem?_map, h]; rfl
theorem stC_append (l m : List ByteArray) : stC (l ++ m) = stC l ++ stC m := List.map_append
theorem stC_one (l : List ByteArray) : ∀ u ∈ stC l, u.oneCell' = true := by
  intro u hu
  obtain ⟨x, _, rfl⟩ := List.mem_map.1 hu
  rfl
abbrev RdT (w : World) (v : Value) (l : List ByteArray) : Prop := RdX w v l.length (stC l)
abbrev OwnT (w : World) (B : Nat) (v : Value) (l : List ByteArray) : Prop := w.ownsRow B 9 1 v l.length (stC l)
theorem rdT_at {w : World} {a : Option Addr} {n c : Nat} {l : List ByteArray} (h : RdT w (.slice a n c) l) {k : Nat} {x : ByteArray} (hk : l[k]? = some x) :
    ∃ b o, a = some ⟨b, o, none⟩ ∧ b < w.heap.size ∧ w.cell? ⟨b, o + k, none⟩ = some (.string x) := by
  rcases h with ⟨hn, _⟩ | ⟨b, o, c', hv, _, hb, hX⟩
  · rw [List.length_eq_zero_iff.1 hn] at hk; simp at hk
  · cases hv
    exact ⟨b, o, rfl, hb, hX k _ (stC_get hk)⟩
/-- a part of lines -/
theorem rdT_sliced {w : World} {a : Option Addr} {c : Nat} {l : List ByteArray} (h : RdT w (.slice a l.length c) l) {x y : Nat} (hxy : x ≤ y) (hy : y ≤ l.length) :
    RdT w (.slice (if c = x then a else a.map (·.add x)) (y - x) (c - x)) ((l.drop x).take (y - x)) := by
  have hlen : ((l.drop x).take (y - x)).length = y - x := by rw [List.length_take, List.length_drop]; omega
  show RdX _ _ _ _
  rw [hlen]
  rcases Nat.eq_or_lt_of_le hxy with rfl | hlt
  · rw [Nat.sub_self]
    exact .inl ⟨rfl, _, _, rfl⟩
  · rcases h with ⟨hn, _⟩ | ⟨b, o, c', hv, hc, hb, hX⟩
    · omega
    · cases hv
      rw [if_neg (by omega)]
      refine .inr ⟨b, o + x, c - x, ?_, by omega, hb, fun j u hj => ?_⟩
      · show Value.slice (some ((⟨b, o, none⟩ : Addr).add x)) _ _ = _
        rw [Go.WideShapes.add_plain]
      · have hj' : (stC l)[x + j]? = some u := by
          unfold stC at hj ⊢
          rw [List.getElem?_map] at hj ⊢
          rw [List.getElem?_take] at hj
          split at hj
          · rw [List.getElem?_drop] at hj; exact hj
          · cases hj
        have := hX (x + j) u hj'
        rw [Nat.add_assoc]; exact this
theorem rd_cap {w : World} {a : Option Addr} {n c : Nat} {cs : List Value} (h : RdX w (.slice a n c) n cs) : n ≤ c := by
  rcases h with ⟨h0, _⟩ | ⟨_, _, _, hv, hc, _⟩
  · omega
  · cases hv; exact hc

/-! ### rows -/
def rwC (r : Rw) : List Value := [.int .i64 r.k, .string r.t]
def rwsC (l : List Rw) : List Value := l.flatMap rwC
theorem rwsC_length (l : List Rw) : (rwsC l).length = l.length * 2 := by
  induction l with
  | nil => rfl
  | cons c l ih => show (rwC c ++ rwsC l).length = _; rw [List.length_append, ih, List.length_cons]; show 2 + _ = _; omega
theorem rwsC_get {l : List Rw} {k : Nat} {c : Rw} (h : l[k]? = some c) (i : Nat) (hi : i < 2) : (rwsC l)[k * 2 + i]? = (rwC c)[i]? := flat_get rwC 2 (fun _ => rfl) l k i c h hi
theorem rwsC_append (l m : List Rw) : rwsC (l ++ m) = rwsC l ++ rwsC m := List.flatMap_append
theorem rwsC_one (l : List Rw) : ∀ u ∈ rwsC l, u.oneCell' = true := by
  intro u hu
  obtain ⟨c, _, hc⟩ := List.mem_flatMap.1 hu
  unfold rwC at hc
  simp at hc
  rcases hc with rfl | rfl <;> rfl
abbrev RdW (w : World) (v : Value) (l : List Rw) : Prop := RdX w v l.length (rwsC l)
def RwV (r : Rw) : Value := .agg #[.int .i64 r.k, .string r.t]
theorem rdW_at {w : World} {a : Option Addr} {n c : Nat} {l : List Rw} (h : RdW w (.slice a n c) l) {k : Nat} {x : Rw} (hk : l[k]? = some x) :
    ∃ b o, a = some ⟨b, o, none⟩ ∧ b < w.heap.size ∧ w.cell? ⟨b, o + k * 2, none⟩ = some (.int .i64 x.k) ∧ w.cell? ⟨b, o + k * 2 + 1, none⟩ = some (.string x.t) := by
  rcases h with ⟨hn, _⟩ | ⟨b, o, c', hv, _, hb, hX⟩
  · rw [List.length_eq_zero_iff.1 hn] at hk; simp at hk
  · cases hv
    refine ⟨b, o, rfl, hb, ?_, ?_⟩
    · exact hX (k * 2) _ (rwsC_get hk 0 (by omega))
    · rw [Nat.add_assoc]; exact hX (k * 2 + 1) _ (rwsC_get hk 1 (by omega))
/-- a part of rows -/
theorem rdW_sliced {w : World} {a : Option Addr} {c : Nat} {l : List Rw} (h : RdW w (.slice a l.length c) l) {x y : Nat} (hxy : x ≤ y) (hy : y ≤ l.length) :
    RdW w (.slice (if c = x then a else a.map (·.add (x * 2))) (y - x) (c - x)) ((l.drop x).take (y - x)) := by
  have hlen : ((l.drop x).take (y - x)).length = y - x := by rw [List.length_take, List.length_drop]; omega
  show RdX _ _ _ _
  rw [hlen]
  rcases Nat.eq_or_lt_of_le hxy with rfl | hlt
  · rw [Nat.sub_self]
    exact .inl ⟨rfl, _, _, rfl⟩
  · rcases h with ⟨hn, _⟩ | ⟨b, o, c', hv, hc, hb, hX⟩
    · omega
    · cases hv
      rw [if_neg (by omega)]
      refine .inr ⟨b, o + x * 2, c - x, ?_, by omega, hb, fun j u hj => ?_⟩
      · show Value.slice (some ((⟨b, o, none⟩ : Addr).add (x * 2))) _ _ = _
        rw [Go.WideShapes.add_plain]
      · have hj' : (rwsC l)[x * 2 + j]? = some u := by
          have hjl : j < (rwsC ((l.drop x).take (y - x))).length := (List.getElem?_eq_some_iff.1 hj).1
          rw [rwsC_length, hlen] at hjl
          have hk : j / 2 < y - x := by omega
          obtain ⟨r, hr⟩ : ∃ r, l[x + j / 2]? = some r := ⟨_, List.getElem?_eq_getElem (by omega)⟩
          have h1 := rwsC_get hr (j % 2) (Nat.mod_lt _ (by omega))
          have h2 := rwsC_get (l := (l.drop x).take (y - x)) (k := j / 2) (c := r) (by rw [List.getElem?_take, if_pos hk, List.getElem?_drop]; exact hr) (j % 2) (Nat.mod_lt _ (by omega))
          rw [show j / 2 * 2 + j % 2 = j by omega] at h2
          rw [show (x + j / 2) * 2 + j % 2 = x * 2 + j by omega] at h1
          rw [h1, ← h2]
          exact hj
        have := hX (x * 2 + j) u hj'
        rw [Nat.add_assoc]; exact this

/-! ### hunks -/
def hkC (q : Hk × Value) : List Value := [.int .i64 q.1.a, .int .i64 q.1.n, .int .i64 q.1.b, .int .i64 q.1.m, .string q.1.head, q.2]
def hksC (p : List (Hk × Value)) : List Value := p.flatMap hkC
def HkV (h : Hk) (v : Value) : Value := .agg #[.int .i64 h.a, .int .i64 h.n, .int .i64 h.b, .int .i64 h.m, .string h.head, v]
theorem hksC_length (l : List (Hk × Value)) : (hksC l).length = l.length * 6 := by
  induction l with
  | nil => rfl
  | cons c l ih => show (hkC c ++ hksC l).length = _; rw [List.length_append, ih, List.length_cons]; show 6 + _ = _; omega
theorem hksC_get {l : List (Hk × Value)} {k : Nat} {c : Hk × Value} (h : l[k]? = some c) (i : Nat) (hi : i < 6) : (hksC l)[k * 6 + i]? = (hkC c)[i]? := flat_get hkC 6 (fun _ => rfl) l k i c h hi
theorem hksC_append (l m : List (Hk × Value)) : hksC (l ++ m) = hksC l ++ hksC m := List.flatMap_append
/-- a list of hunks that is read -/
def RdH (w : World) (v : Value) (l : List Hk) : Prop := ∃ p : List (Hk × Value), p.map Prod.fst = l ∧ RdX w v l.length (hksC p) ∧ ∀ q ∈ p, RdW w q.2 q.1.rows
theorem RdH.shape {w : World} {v : Value} {l : List Hk} (h : RdH w v l) : ∃ a c, v = .slice a l.length c := by
  obtain ⟨p, _, h, _⟩ := h
  exact h.shape
theorem RdH.below {w w' : World} {v : Value} {l : List Hk} (h : RdH w v l) (hb : Below w.heap.size w w') : RdH w' v l := by
  obtain ⟨p, h1, h2, h3⟩ := h
  exact ⟨p, h1, h2.below hb, fun q hq => (h3 q hq).below hb⟩
theorem rdH_at {w : World} {a : Option Addr} {n c : Nat} {l : List Hk} (h : RdH w (.slice a n c) l) {k : Nat} {x : Hk} (hk : l[k]? = some x) :
    ∃ b o v, a = some ⟨b, o, none⟩ ∧ b < w.heap.size ∧ w.cell? ⟨b, o + k * 6, none⟩ = some (.int .i64 x.a) ∧ w.cell? ⟨b, o + k * 6 + 1, none⟩ = some (.int .i64 x.n) ∧ w.cell? ⟨b, o + k * 6 + 2, none⟩ = some (.int .i64 x.b) ∧ w.cell? ⟨b, o + k * 6 + 3, none⟩ = some (.int .i64 x.m) ∧ w.cell? ⟨b, o + k * 6 + 4, none⟩ = some (.string x.head) ∧ w.cell? ⟨b, o + k * 6 + 5, none⟩ = some v ∧ RdW w v x.rows := by
  obtain ⟨p, h1, h2, h3⟩ := h
  have hk' := hk
  rw [← h1, List.getElem?_map] at hk'
  cases hq : p[k]? with
  | none => rw [hq] at hk'; cases hk'
  | some q =>
    rw [hq] at hk'
    obtain ⟨h', v⟩ := q
    simp at hk'
    subst hk'
    rcases h2 with ⟨hn, _⟩ | ⟨b, o, c', hv, _, hb, hX⟩
    · rw [List.length_eq_zero_iff.1 hn] at hk; simp at hk
    · cases hv
      refine ⟨b, o, v, rfl, hb, ?_, ?_, ?_, ?_, ?_, ?_, h3 _ (List.mem_of_getElem? hq)⟩
      · exact hX (k * 6) _ (hksC_get hq 0 (by omega))
      · rw [Nat.add_assoc]; exact hX (k * 6 + 1) _ (hksC_get hq 1 (by omega))
      · rw [Nat.add_assoc]; exact hX (k * 6 + 2) _ (hksC_get hq 2 (by omega))
      · rw [Nat.add_assoc]; exact hX (k * 6 + 3) _ (hksC_get hq 3 (by omega))
      · rw [Nat.add_assoc]; exact hX (k * 6 + 4) _ (hksC_get hq 4 (by omega))
      · rw [Nat.add_assoc]; exact hX (k * 6 + 5) _ (hksC_get hq 5 (by omega))
theorem own_by_type {w w' : World} {B1 B2 n1 n2 s1 s2 : Nat} {e1 e2 : TypeId} {v1 v2 : Value} {xs1 xs2 : List Value} (h1 : w.ownsRow B1 e1 s1 v1 n1 xs1) (h2 : w.ownsRow B2 e2 s2 v2 n2 xs2) (hne : e1 ≠ e2) (hg : w.grownBy w' v2.ownBlock) : w'.ownsRow B1 e1 s1 v1 n1 xs1 :=
  World.ownsRow.kept h1 hg (by
    rcases h1.2 with ⟨hv, _⟩ | ⟨g, cap, cur, hv, _, hh, _⟩
    · subst hv; exact .inl rfl
    · subst hv
      refine .inr fun e => ?_
      rcases h2.2 with ⟨hv2, _⟩ | ⟨g2, cap2, cur2, hv2, _, hh2, _⟩
      · subst hv2; cases e
      · subst hv2
        have e2 : g = g2 := Option.some.inj e
        subst e2
        rw [hh] at hh2
        injection hh2 with e3
        injection e3 with _ e4 _
        exact hne e4)

/-! ### append of one -/
theorem Tryd.infoStr : (Tryd.prog.info? 9).map (fun i => (i.zero, i.size, i.bytes)) = some (some (.string .empty), 1, 16) := by kernel_rfl
/-- where an append's row lies -/
def Lies (w : World) (v v' : Value) : Prop := ∀ k, v'.ownBlock = some k → v.ownBlock = some k ∨ w.heap.size ≤ k
theorem wpList_append_st {w : World} {ops : Array Oper} {rest : List Oper} {o : Oper} {a : Act} {Q : Exit → Act → World → Prop} (hgd : o.guard = none) (s x : Operand)
    (ho : o.op = .call { callee := .builtin .append, args := #[s, x], argTypes := #[81, 81] }) (B : Nat) (v : Value) (l : List ByteArray) (hs : a.eval s = v) (hown : OwnT w B v l)
    (g : Nat) (t : ByteArray) (hx : a.eval x = .slice (some ⟨g, 0, none⟩) 1 1) (hg : w.heap[g]? = some (.cells #[.string t] 9)) (hfit : l.length < 8796093022200) (hB : B ≤ w.heap.size)
    (h : ∀ v' w', OwnT w' B v' (l ++ [t]) → w.grownBy w' v.ownBlock → Lies w v v' → Below B w w' → wpList Tryd.prog ops Q rest (a.put o.dst v') w') : wpList Tryd.prog ops Q (o :: rest) a w := by
  obtain ⟨i0, hi, hz0, hz1, hz2⟩ := info_parts Tryd.infoStr
  refine wpList_append_lies _ hgd s x 81 ho B 9 i0 (.string .empty) 1 16 Tryd.underlying81 hi hz0 hz1 hz2 rfl (by decide) v l.length (stC l) hs hown ⟨g, 0, none⟩ 1 1 [.string t] hx rfl ?_ ?_ (by decide) ?_ ?_ hB w.heap.size rfl ?_
  · exact World.news_of_block (cs := #[.string t]) hg
  · have := stC_one [t]
    simpa [stC] using this
  · unfold maxLen; omega
  · omega
  · intro g' cap w' g2 g3 g4 _
    refine h _ w' ?_ g3 ?_ ((Below.refl _ _).grown g3 hB (own_ge hown))
    · show w'.ownsRow _ _ _ _ _ _
      rw [List.length_append, stC_append]
      exact g2
    · intro k hk
      cases hk
      rcases g4 with g4 | g4
      · exact .inl g4
      · exact .inr (Nat.le_of_eq g4.symm)
/-- two rows of the call's own that share no block -/
def Apart (u v : Value) : Prop := ∀ k, u.ownBlock = some k → v.ownBlock ≠ some k
theorem Apart.symm {u v : Value} (h : Apart u v) : Apart v u := fun k h1 h2 => h k h2 h1
theorem kept_row {w w' : World} {base n size : Nat} {e : TypeId} {v u : Value} {xs : List Value} (h : w.ownsRow base e size u n xs) (hg : w.grownBy w' v.ownBlock) (ha : Apart v u) : w'.ownsRow base e size u n xs :=
  World.ownsRow.kept h hg (by
    cases hu : u.ownBlock with
    | none => exact .inl rfl
    | some k => exact .inr fun e => ha k e.symm hu)
theorem apart_new {w : World} {base n size : Nat} {e : TypeId} {v v' u : Value} {xs : List Value} (h : w.ownsRow base e size u n xs) (ha : Apart v u) (hl : Lies w v v') : Apart v' u := by
  intro k h1 h2
  rcases hl k h1 with h3 | h3
  · exact ha k h3 h2
  · have := own_lt h k h2
    omega
end Go.Proofs.YtnbonghlmdnabaaDoor
