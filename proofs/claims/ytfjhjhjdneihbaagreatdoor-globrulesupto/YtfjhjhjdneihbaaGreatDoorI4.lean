/-
  Rows of pieces and of rules as the document holds them.
-/
import Derived.Test.YtfjhjhjdneihbaaGreatDoorI3
import Derived.Test.YtfjhjhjdneihbaaGreatDoorRv
import Derived.Deep.DeepCutAuto
import Derived.Deep.Cut
import Derived.Deep.CutRange
namespace Go.Proofs.YtfjhjhjdneihbaaGreatDoor
open Go.RowKit

def pceR (r : Bool) (x : List UInt8) : Option Pg.Pi := if r = true ∧ x = [42, 42] then some none else (cmp x).map some
def pcsR (r : Bool) : List (List UInt8) → Option (List Pg.Pi)
  | [] => some []
  | x :: l => match pceR r x with
    | none => none
    | some q => (pcsR r l).map (q :: ·)
def pcsRN (r : Bool) : List (List UInt8) → Nat
  | [] => 0
  | x :: l => match pceR r x with
    | none => cmpN x
    | some _ => pcsRN r l
theorem pceR_true (x : List UInt8) : pceR true x = pce x := by unfold pceR pce; simp
theorem pcsR_true : ∀ l, pcsR true l = pcs l
  | [] => rfl
  | x :: l => by unfold pcsR pcs; rw [pceR_true, pcsR_true l]; cases pce x <;> rfl
theorem pcsRN_true : ∀ l, pcsR true l = none → pcsRN true l = pcsN l
  | [], h => by cases h
  | x :: l, h => by
    unfold pcsR at h
    unfold pcsRN pcsN
    rw [pceR_true] at h ⊢
    cases hx : pce x with
    | none =>
      have : x ≠ [42, 42] := fun e => by unfold pce at hx; rw [if_pos e] at hx; cases hx
      show cmpN x = pceN x
      unfold pceN; rw [if_neg this]
    | some q =>
      rw [hx] at h
      exact pcsRN_true l (by cases hl : pcsR true l with | none => rfl | some _ => simp [hl] at h)
theorem pcsR_snoc (r : Bool) : ∀ (l : List (List UInt8)) (ps : List Pg.Pi) (x : List UInt8) (q : Pg.Pi), pcsR r l = some ps → pceR r x = some q → pcsR r (l ++ [x]) = some (ps ++ [q])
  | [], ps, x, q, h1, h2 => by cases h1; simp [pcsR, h2]
  | y :: l, ps, x, q, h1, h2 => by
    unfold pcsR at h1
    cases hy : pceR r y with
    | none => rw [hy] at h1; cases h1
    | some t =>
      rw [hy] at h1
      cases hl : pcsR r l with
      | none => simp [hl] at h1
      | some ps' =>
        simp [hl] at h1
        subst h1
        rw [List.cons_append, pcsR, hy, pcsR_snoc r l ps' x q hl h2]; rfl
theorem pcsR_bad (r : Bool) : ∀ (l : List (List UInt8)) (ps : List Pg.Pi) (x : List UInt8) (t : List (List UInt8)), pcsR r l = some ps → pceR r x = none → pcsR r (l ++ x :: t) = none ∧ pcsRN r (l ++ x :: t) = cmpN x
  | [], ps, x, t, h1, h2 => by simp [pcsR, pcsRN, h2]
  | y :: l, ps, x, t, h1, h2 => by
    unfold pcsR at h1
    cases hy : pceR r y with
    | none => rw [hy] at h1; cases h1
    | some q =>
      rw [hy] at h1
      cases hl : pcsR r l with
      | none => simp [hl] at h1
      | some ps' =>
        obtain ⟨i1, i2⟩ := pcsR_bad r l ps' x t hl h2
        rw [List.cons_append, pcsR, pcsRN, hy, i1]
        exact ⟨rfl, i2⟩
theorem pcsR_len (r : Bool) : ∀ (l : List (List UInt8)) (ps : List Pg.Pi), pcsR r l = some ps → ps.length = l.length
  | [], ps, h => by cases h; rfl
  | y :: l, ps, h => by
    unfold pcsR at h
    cases hy : pceR r y with
    | none => rw [hy] at h; cases h
    | some q =>
      rw [hy] at h
      cases hl : pcsR r l with
      | none => simp [hl] at h
      | some ps' =>
        simp [hl] at h
        subst h
        rw [List.length_cons, List.length_cons, pcsR_len r l ps' hl]
/-- the texts of a rule's pieces -/
def txt (t : List UInt8) : List (List UInt8) := if (47 : UInt8) ∈ t then Pp.pieces (Lib.trimPrefix t [47]) else [t]
theorem dpc_txt (t : List UInt8) : dpc t = pcsR (decide ((47 : UInt8) ∈ t)) (txt t) := by
  unfold dpc txt
  by_cases h : (47 : UInt8) ∈ t
  · rw [if_pos h, if_pos h, decide_eq_true h, pcsR_true]
  · rw [if_neg h, if_neg h, decide_eq_false h]
    unfold pcsR pceR
    rw [if_neg (by simp)]
    cases cmp t <;> rfl
theorem pctN_txt (t : List UInt8) (h : dpc t = none) : pctN t = pcsRN (decide ((47 : UInt8) ∈ t)) (txt t) := by
  rw [dpc_txt] at h
  unfold pctN txt
  unfold txt at h
  by_cases h2 : (47 : UInt8) ∈ t
  · rw [if_pos h2] at h
    rw [if_pos h2, if_pos h2, decide_eq_true h2, pcsRN_true _ (by rw [decide_eq_true h2] at h; exact h)]
  · rw [if_neg h2] at h
    rw [if_neg h2, if_neg h2]
    unfold pcsR at h
    unfold pcsRN
    cases hx : pceR (decide ((47 : UInt8) ∈ t)) t with
    | none => rfl
    | some q => rw [hx] at h; cases h

/-! ### rows -/
theorem own_by_type {w w' : World} {B1 B2 n1 n2 s1 s2 : Nat} {e1 e2 : TypeId} {v1 v2 : Value} {xs1 xs2 : List Value} (h1 : w.ownsRow B1 e1 s1 v1 n1 xs1) (h2 : w.ownsRow B2 e2 s2 v2 n2 xs2) (hne : e1 ≠ e2) (hg : w.grownBy w' v2.ownBlock) : w'.ownsRow B1 e1 s1 v1 n1 xs1 :=
  World.ownsRow.kept h1 hg (by
    rcases h1.2 with ⟨hv, _⟩ | ⟨g, cap, cur, hv, _, hh, _⟩
    · subst hv; exact .inl rfl
    · subst hv
      refine .inr fun e => ?_
      rcases h2.2 with ⟨hv2, _⟩ | ⟨g2, cap2, cur2, hv2, _, hh2, _⟩
      · subst hv2; cases e
      · subst hv2
        have e2 : g = g2 := Option.some.inj e
        subst e2
        rw [hh] at hh2
        injection hh2 with e3
        injection e3 with _ e4 _
        exact hne e4)
theorem Tryz.infoRPiece : (Tryz.prog.info? 74).map (fun i => (i.zero, i.size, i.bytes)) = some (some (.agg #[.bool false, .slice none 0 0]), 2, 32) := by kernel_rfl
/-- a piece by its two cells -/
def PcOk (w : World) (B : Nat) (u v : Value) (q : Pg.Pi) : Prop := u = .bool q.isNone ∧ (∃ a n c, v = .slice a n c) ∧ ∀ P, q = some P → OwnP w B v P ∧ P.length ≤ 1024
def PcsC (w : World) (B : Nat) (cs : List Value) (ps : List Pg.Pi) : Prop := ∀ (j : Nat) q, ps[j]? = some q → ∃ u v, cs[j * 2]? = some u ∧ cs[j * 2 + 1]? = some v ∧ PcOk w B u v q
def OwnDp (w : World) (B : Nat) (v : Value) (ps : List Pg.Pi) : Prop := ∃ cs, w.ownsRow B 74 2 v ps.length cs ∧ PcsC w B cs ps
theorem PcsC.later {w w' : World} {B : Nat} {cs : List Value} {ps : List Pg.Pi} (h : PcsC w B cs ps) (hb : Below w.heap.size w w') : PcsC w' B cs ps := fun j q hj => by
  obtain ⟨u, v, h1, h2, h3, h4, h5⟩ := h j q hj
  exact ⟨u, v, h1, h2, h3, h4, fun P hP => ⟨(h5 P hP).1.stays hb, (h5 P hP).2⟩⟩
theorem OwnDp.later {w w' : World} {B : Nat} {v : Value} {ps : List Pg.Pi} (h : OwnDp w B v ps) (hb : Below w.heap.size w w') : OwnDp w' B v ps := by
  obtain ⟨cs, h1, h2⟩ := h
  exact ⟨cs, own_stays h1 hb, h2.later hb⟩
theorem OwnDp.nil (w : World) (B : Nat) : OwnDp w B (.slice none 0 0) [] := ⟨[], World.ownsRow_nil _ _ _ _, fun j q h => by simp at h⟩
theorem PcsC.grown {w w' : World} {B B2 n s : Nat} {e : TypeId} {cs xs : List Value} {v : Value} {ps : List Pg.Pi} (h : PcsC w B cs ps) (ho : w.ownsRow B2 e s v n xs) (he : 130 ≠ e) (hg : w.grownBy w' v.ownBlock) : PcsC w' B cs ps := fun j q hj => by
  obtain ⟨u, v', h1, h2, h3, h4, h5⟩ := h j q hj
  exact ⟨u, v', h1, h2, h3, h4, fun P hP => ⟨own_by_type (h5 P hP).1 ho he hg, (h5 P hP).2⟩⟩
theorem OwnDp.shape {w : World} {B : Nat} {v : Value} {ps : List Pg.Pi} (h : OwnDp w B v ps) : ∃ a c, v = .slice a ps.length c := by
  obtain ⟨cs, h1, _⟩ := h
  rcases h1.2 with ⟨hv, hn⟩ | ⟨g, cap, cur, hv, _⟩
  · exact ⟨none, 0, by rw [hv, hn]⟩
  · exact ⟨_, cap, hv⟩
/-- a piece more -/
theorem wpList_append_dp {w : World} {ops : Array Oper} {rest : List Oper} {o : Oper} {a : Act} {Q : Exit → Act → World → Prop} (hgd : o.guard = none) (s x : Operand)
    (ho : o.op = .call { callee := .builtin .append, args := #[s, x], argTypes := #[50, 50] }) (B : Nat) (v : Value) (ps : List Pg.Pi) (hs : a.eval s = v) (hown : OwnDp w B v ps)
    (g : Nat) (u t : Value) (q : Pg.Pi) (hx : a.eval x = .slice (some ⟨g, 0, none⟩) 1 1) (hg : w.heap[g]? = some (.cells #[u, t] 74 (0, 0))) (hq : PcOk w B u t q) (hfit : ps.length ≤ 1000000000) (hB : B ≤ w.heap.size)
    (h : ∀ v' w', OwnDp w' B v' (ps ++ [q]) → w.grownBy w' v.ownBlock → (∀ i, v.ownBlock = some i → B ≤ i ∧ w.heap[i]? ≠ none) → wpList Tryz.prog ops Q rest (a.put o.dst v') w') : wpList Tryz.prog ops Q (o :: rest) a w := by
  obtain ⟨i0, hi, hz0, hz1, hz2⟩ := info_parts Tryz.infoRPiece
  obtain ⟨cs, h1, h2⟩ := hown
  have hu : u.oneCell' = true := by rw [hq.1]; rfl
  have ht : t.oneCell' = true := by obtain ⟨_, ⟨a', n, c, rfl⟩, _⟩ := hq; rfl
  have hcl : cs.length = ps.length * 2 := h1.1
  refine wpList_append_lies _ hgd s x 50 ho B 74 i0 (.agg #[.bool false, .slice none 0 0]) 2 32 Tryz.underlying50 hi hz0 hz1 hz2 rfl (by decide) v ps.length cs hs h1 ⟨g, 0, none⟩ 1 1 [u, t] hx rfl ?_ ?_ (by decide) ?_ ?_ hB w.heap.size rfl ?_
  · exact World.news_of_block (cs := #[u, t]) hg
  · intro y hy
    simp at hy
    rcases hy with rfl | rfl
    · exact hu
    · exact ht
  · unfold maxLen; omega
  · omega
  · intro g' cap w' g2 g3 _ _
    refine h _ w' ⟨cs ++ [u, t], by rw [List.length_append]; exact g2, fun j p hj => ?_⟩ g3 (fun i hi => ?_)
    · have h2' := h2.grown h1 (by decide) g3
      rcases Nat.lt_or_ge j ps.length with r | r
      · rw [List.getElem?_append_left r] at hj
        obtain ⟨u', v', e1, e2, e3⟩ := h2' j p hj
        exact ⟨u', v', by rw [List.getElem?_append_left (by omega)]; exact e1, by rw [List.getElem?_append_left (by omega)]; exact e2, e3⟩
      · rw [List.getElem?_append_right r] at hj
        have hj0 : j - ps.length = 0 := by
          rcases Nat.eq_zero_or_pos (j - ps.length) with z | z
          · exact z
          · rw [List.getElem?_eq_none (by simp; omega)] at hj; cases hj
        rw [hj0] at hj
        simp at hj
        subst hj
        refine ⟨u, t, by rw [List.getElem?_append_right (by omega), show j * 2 - cs.length = 0 by omega]; rfl, by rw [List.getElem?_append_right (by omega), show j * 2 + 1 - cs.length = 1 by omega]; rfl, hq.1, hq.2.1, fun P hP => ⟨own_by_type (hq.2.2 P hP).1 h1 (by decide) g3, (hq.2.2 P hP).2⟩⟩
    · rcases h1.2 with ⟨hv, _⟩ | ⟨g1, cap1, cur1, hv, hb, hh, _⟩
      · subst hv; cases hi
      · subst hv
        cases hi
        exact ⟨hb, by rw [hh]; simp⟩
end Go.Proofs.YtfjhjhjdneihbaaGreatDoor
