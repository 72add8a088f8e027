/-
  Rows of pieces of the call's own; the walk of readPieces.
-/
import Derived.Test.YtfjhjhjdneihbaaGreatDoorGu
namespace Go.Proofs.YtfjhjhjdneihbaaGreatDoor
open Go.RowKit

theorem Tryz.infoPiece : (Tryz.prog.info? 126).map (fun i => (i.zero, i.size, i.bytes)) = some (some (.agg #[.pointer none, .bool false]), 2, 16) := by kernel_rfl
/-- the cells of pieces -/
def PcC (w : World) (B : Nat) (cs : List Value) (ps : List Pg.Pi) : Prop := ∀ (j : Nat) q, ps[j]? = some q → (∃ a, cs[j * 2]? = some (.pointer a)) ∧ cs[j * 2 + 1]? = some (.bool q.isNone) ∧ ∀ P, q = some P → ∃ bg, cs[j * 2]? = some (.pointer (some ⟨bg, 0, none⟩)) ∧ GlobB w B bg P
def HeadP (w : World) (v : Value) : Prop := ∀ g, v.ownBlock = some g → ∃ q, w.cell? ⟨g, 0, none⟩ = some (.pointer q)
def OwnPc (w : World) (B : Nat) (v : Value) (ps : List Pg.Pi) : Prop := ∃ cs, w.ownsRow B 126 2 v ps.length cs ∧ PcC w B cs ps ∧ HeadP w v
theorem PcC.later {w w' : World} {B : Nat} {cs : List Value} {ps : List Pg.Pi} (h : PcC w B cs ps) (hb : Below w.heap.size w w') : PcC w' B cs ps := by
  intro j q hj
  obtain ⟨h1, h2, h3⟩ := h j q hj
  refine ⟨h1, h2, fun P hP => ?_⟩
  obtain ⟨bg, h4, h5⟩ := h3 P hP
  exact ⟨bg, h4, h5.later hb⟩
theorem OwnPc.later {w w' : World} {B : Nat} {v : Value} {ps : List Pg.Pi} (h : OwnPc w B v ps) (hb : Below w.heap.size w w') : OwnPc w' B v ps := by
  obtain ⟨cs, h1, h2, h3⟩ := h
  refine ⟨cs, own_stays h1 hb, h2.later hb, fun g hg => ?_⟩
  obtain ⟨q, hq⟩ := h3 g hg
  exact ⟨q, (hb.cell (p := ⟨g, 0, none⟩) (lt_of_cell hq)).trans hq⟩
theorem GlobAt.grown {w w' : World} {bg : Nat} {P : List Pg.Pt} {row : Option Nat} (h : GlobAt w bg P) (hg : w.grownBy w' row) (hr : ∀ g, row = some g → ∃ q, w.cell? ⟨g, 0, none⟩ = some (.pointer q)) : GlobAt w' bg P := by
  obtain ⟨a, c, h1, h2, h3⟩ := h
  have hne : some bg ≠ row := fun e => by
    obtain ⟨q, hq⟩ := hr bg e.symm
    rw [h1] at hq; cases hq
  refine ⟨a, c, hg.cell h1 hne, h2, ?_⟩
  rcases h3 with h3 | ⟨b, ha, hl, h3⟩
  · exact .inl h3
  · by_cases hP : P = []
    · exact .inl hP
    · obtain ⟨p0, hp0⟩ : ∃ p, P[0]? = some p := ⟨_, List.getElem?_eq_getElem (List.length_pos_iff.2 hP)⟩
      have hb : some b ≠ row := fun e => by
        obtain ⟨q, hq⟩ := hr b e.symm
        have := (h3 0 p0 hp0).1 0 (by omega)
        simp only [Nat.zero_mul, Nat.add_zero] at this
        rw [this] at hq; cases hq
      exact .inr ⟨b, ha, Nat.lt_of_lt_of_le hl hg.size, fun j p hj => ⟨fun i hi => hg.cell ((h3 j p hj).1 i hi) hb, hg.cell (h3 j p hj).2 hb⟩⟩
theorem GlobB.grown {w w' : World} {B bg : Nat} {P : List Pg.Pt} {row : Option Nat} (h : GlobB w B bg P) (hg : w.grownBy w' row) (hr : ∀ g, row = some g → ∃ q, w.cell? ⟨g, 0, none⟩ = some (.pointer q)) : GlobB w' B bg P := by
  obtain ⟨h1, h2, h3⟩ := h
  refine ⟨h1.grown hg hr, h2, fun a n c hc => ?_⟩
  obtain ⟨a', c', k1, _⟩ := h1
  have hne : some bg ≠ row := fun e => by
    obtain ⟨q, hq⟩ := hr bg e.symm
    rw [k1] at hq; cases hq
  have := hg.cell k1 hne
  rw [this] at hc
  have e := Option.some.inj hc
  exact h3 a n c (by rw [k1, e])
/-- the pieces of a rule lie there, in blocks from B on -/
def PcB (w : World) (B b : Nat) (ps : List Pg.Pi) : Prop := B ≤ b ∧ ∀ (j : Nat) (q : Pg.Pi), ps[j]? = some q → w.cell? ⟨b, j * 2 + 1, none⟩ = some (.bool q.isNone) ∧ ∀ P, q = some P → ∃ bg, w.cell? ⟨b, j * 2, none⟩ = some (.pointer (some ⟨bg, 0, none⟩)) ∧ GlobB w B bg P
theorem PcB.at {w : World} {B b : Nat} {ps : List Pg.Pi} (h : PcB w B b ps) : PcAt w b ps := fun j q hj => by
  obtain ⟨h1, h2⟩ := h.2 j q hj
  refine ⟨h1, fun P hP => ?_⟩
  obtain ⟨bg, h3, h4⟩ := h2 P hP
  exact ⟨bg, h3, h4.1⟩
theorem PcB.mono {w : World} {B B' b : Nat} {ps : List Pg.Pi} (h : PcB w B b ps) (hB : B' ≤ B) : PcB w B' b ps := ⟨Nat.le_trans hB h.1, fun j q hj => by
  obtain ⟨h1, h2⟩ := h.2 j q hj
  refine ⟨h1, fun P hP => ?_⟩
  obtain ⟨bg, h3, h4⟩ := h2 P hP
  exact ⟨bg, h3, h4.mono hB⟩⟩
theorem PcB.set {w : World} {B b g k : Nat} {ps : List Pg.Pi} {u : Value} (h : PcB w B b ps) (hg : g < B) : PcB (w.setCell ⟨g, k, none⟩ u) B b ps := by
  obtain ⟨h0, h⟩ := h
  have hne : b ≠ g := by omega
  refine ⟨h0, fun j q hj => ?_⟩
  obtain ⟨h1, h2⟩ := h j q hj
  refine ⟨(cell_far hne).trans h1, fun P hP => ?_⟩
  obtain ⟨bg, h3, h4⟩ := h2 P hP
  exact ⟨bg, (cell_far hne).trans h3, h4.set hg⟩
theorem OwnPc.pcAt {w : World} {B : Nat} {v : Value} {ps : List Pg.Pi} (h : OwnPc w B v ps) (hne : ps ≠ []) : ∃ b c, v = .slice (some ⟨b, 0, none⟩) ps.length c ∧ b < w.heap.size ∧ PcB w B b ps := by
  obtain ⟨cs, h1, h2, _⟩ := h
  have h1' := h1
  rcases h1.2 with ⟨hv, hn⟩ | ⟨g, cap, cur, hv, hg, hh, _⟩
  · exact absurd (List.length_eq_zero_iff.1 hn) hne
  · subst hv
    refine ⟨g, cap, rfl, lt_of_heap hh, hg, fun j q hj => ?_⟩
    have hjl : j < ps.length := by
      rcases Nat.lt_or_ge j ps.length with k | k
      · exact k
      · rw [List.getElem?_eq_none k] at hj; cases hj
    obtain ⟨_, h4, h5⟩ := h2 j q hj
    refine ⟨?_, fun P hP => ?_⟩
    · rw [World.ownsRow.cellAt h1' (j * 2 + 1) (by omega)]; exact h4
    · obtain ⟨bg, h6, h7⟩ := h5 P hP
      exact ⟨bg, by rw [World.ownsRow.cellAt h1' (j * 2) (by omega)]; exact h6, h7⟩
/-- a piece's two cells -/
def PieceC (w : World) (B : Nat) (x y : Value) (q : Pg.Pi) : Prop := (q = none ∧ x = .pointer none ∧ y = .bool true) ∨ ∃ P bg, q = some P ∧ x = .pointer (some ⟨bg, 0, none⟩) ∧ y = .bool false ∧ GlobB w B bg P
theorem PieceC.later {w w' : World} {B : Nat} {x y : Value} {q : Pg.Pi} (h : PieceC w B x y q) (hb : Below w.heap.size w w') : PieceC w' B x y q := by
  rcases h with h | ⟨P, bg, h1, h2, h3, h4⟩
  · exact .inl h
  · exact .inr ⟨P, bg, h1, h2, h3, h4.later hb⟩
theorem wpList_append_piece {w : World} {ops : Array Oper} {rest : List Oper} {o : Oper} {a : Act} {Q : Exit → Act → World → Prop} (hgd : o.guard = none) (s x : Operand)
    (ho : o.op = .call { callee := .builtin .append, args := #[s, x], argTypes := #[44, 44] }) (B : Nat) (v : Value) (ps : List Pg.Pi) (hs : a.eval s = v) (hown : OwnPc w B v ps)
    (ad : Addr) (cp : Nat) (u1 u2 : Value) (q : Pg.Pi) (hq : PieceC w B u1 u2 q) (hx : a.eval x = .slice (some ad) 1 cp) (hy1 : w.cell? (ad.add 0) = some u1) (hy2 : w.cell? (ad.add 1) = some u2) (hfit : ps.length ≤ 1000000000) (hB : B ≤ w.heap.size)
    (h : ∀ v' w', OwnPc w' B v' (ps ++ [q]) → Below B w w' → wpList Tryz.prog ops Q rest (a.put o.dst v') w') : wpList Tryz.prog ops Q (o :: rest) a w := by
  obtain ⟨i0, hi, hz0, hz1, hz2⟩ := info_parts Tryz.infoPiece
  obtain ⟨cs, h1, h2, h3⟩ := hown
  have hp1 : u1.oneCell' = true := by rcases hq with ⟨_, rfl, rfl⟩ | ⟨P, bg, _, rfl, rfl, _⟩ <;> rfl
  have hp2 : u2.oneCell' = true := by rcases hq with ⟨_, rfl, rfl⟩ | ⟨P, bg, _, rfl, rfl, _⟩ <;> rfl
  refine wpList_append_lies _ hgd s x 44 ho B 126 i0 (.agg #[.pointer none, .bool false]) 2 16 Tryz.underlying44 hi hz0 hz1 hz2 rfl (by decide) v ps.length cs hs h1 ad 1 cp [u1, u2] hx rfl ?_ ?_ (by decide) ?_ ?_ hB w.heap.size rfl ?_
  · intro j u hj
    match j, hj with
    | 0, hj => simp at hj; subst hj; exact hy1
    | 1, hj => simp at hj; subst hj; exact hy2
  · intro u hu; simp at hu; rcases hu with rfl | rfl <;> assumption
  · unfold maxLen; omega
  · omega
  · intro g cap w' g2 g3 g4 _
    have hl := h1.1
    refine h _ w' ⟨cs ++ [u1, u2], by rw [List.length_append]; exact g2, ?_, ?_⟩ ((Below.refl _ _).grown g3 hB (own_ge h1))
    · intro j r hj
      by_cases hjl : j < ps.length
      · rw [List.getElem?_append_left hjl] at hj
        obtain ⟨k1, k2, k3⟩ := h2 j r hj
        rw [List.getElem?_append_left (by omega), List.getElem?_append_left (by omega)]
        refine ⟨k1, k2, fun P hP => ?_⟩
        obtain ⟨bg, k4, k5⟩ := k3 P hP
        exact ⟨bg, k4, k5.grown g3 h3⟩
      · have hjl2 : j < (ps ++ [q]).length := by
          rcases Nat.lt_or_ge j (ps ++ [q]).length with k | k
          · exact k
          · rw [List.getElem?_eq_none k] at hj; cases hj
        have hje : j = ps.length := by rw [List.length_append, List.length_singleton] at hjl2; omega
        subst hje
        rw [List.getElem?_append_right (Nat.le_refl _), Nat.sub_self] at hj
        have hr : q = r := by simpa using hj
        subst hr
        rw [List.getElem?_append_right (by omega), List.getElem?_append_right (by omega), hl, Nat.sub_self, show ps.length * 2 + 1 - ps.length * 2 = 1 by omega]
        rcases hq with ⟨e1, e2, e3⟩ | ⟨P, bg, e1, e2, e3, e4⟩
        · subst e1 e2 e3
          exact ⟨⟨_, rfl⟩, rfl, fun P hP => by cases hP⟩
        · subst e1 e2 e3
          exact ⟨⟨_, rfl⟩, rfl, fun P' hP' => by cases hP'; exact ⟨bg, rfl, e4.grown g3 h3⟩⟩
    · intro g' hg'
      cases hg'
      have hc := World.ownsRow.cellAt g2 0 (by omega)
      rw [hc]
      by_cases h0 : ps.length = 0
      · have hcs : cs = [] := List.length_eq_zero_iff.1 (by rw [hl, h0])
        rw [hcs]
        rcases hq with ⟨_, e2, _⟩ | ⟨P, bg, _, e2, _, _⟩
        · subst e2; exact ⟨_, rfl⟩
        · subst e2; exact ⟨_, rfl⟩
      · obtain ⟨q0, hq0⟩ : ∃ q0, ps[0]? = some q0 := ⟨_, List.getElem?_eq_getElem (by omega)⟩
        obtain ⟨⟨a0, k1⟩, _⟩ := h2 0 q0 hq0
        rw [List.getElem?_append_left (by omega)]
        exact ⟨a0, by simpa using k1⟩

/-! ### what readPieces answers -/
def pcs : List (List UInt8) → Option (List Pg.Pi)
  | [] => some []
  | x :: r => match pce x with
    | none => none
    | some q => (pcs r).map (q :: ·)
def pcsN : List (List UInt8) → Nat
  | [] => 0
  | x :: r => match pce x with
    | none => pceN x
    | some _ => pcsN r
theorem pcs_snoc : ∀ (l : List (List UInt8)) (ps : List Pg.Pi) (x : List UInt8) (q : Pg.Pi), pcs l = some ps → pce x = some q → pcs (l ++ [x]) = some (ps ++ [q])
  | [], ps, x, q, h1, h2 => by cases h1; simp [pcs, h2]
  | y :: l, ps, x, q, h1, h2 => by
    unfold pcs at h1
    cases hy : pce y with
    | none => rw [hy] at h1; cases h1
    | some r =>
      rw [hy] at h1
      cases hl : pcs l with
      | none => simp [hl] at h1
      | some ps' =>
        simp [hl] at h1
        subst h1
        rw [List.cons_append, pcs, hy, pcs_snoc l ps' x q hl h2]; rfl
theorem pcs_bad : ∀ (l : List (List UInt8)) (ps : List Pg.Pi) (x : List UInt8) (r : List (List UInt8)), pcs l = some ps → pce x = none → pcs (l ++ x :: r) = none ∧ pcsN (l ++ x :: r) = pceN x
  | [], ps, x, r, h1, h2 => by simp [pcs, pcsN, h2]
  | y :: l, ps, x, r, h1, h2 => by
    unfold pcs at h1
    cases hy : pce y with
    | none => rw [hy] at h1; cases h1
    | some q =>
      rw [hy] at h1
      cases hl : pcs l with
      | none => simp [hl] at h1
      | some ps' =>
        obtain ⟨i1, i2⟩ := pcs_bad l ps' x r hl h2
        rw [List.cons_append, pcs, pcsN, hy, i1]
        exact ⟨rfl, i2⟩
/-- the pieces of a rule's text -/
def pctP (l : List UInt8) : Option (List Pg.Pi) := if (47 : UInt8) ∈ l then (pcs (Pp.pieces (Lib.trimPrefix l [47]))).map Pg.own else (cmp l).map fun P => [none, some P]
def pctN (l : List UInt8) : Nat := if (47 : UInt8) ∈ l then pcsN (Pp.pieces (Lib.trimPrefix l [47])) else cmpN l
def PctP (B : Nat) (l : List UInt8) (e : Ending) (w' : World) : Prop :=
  (pctP l = none ∧ (pctN l = 2 ∨ pctN l = 40) ∧ ∃ a n c, e = .returned (.tuple #[.slice a n c, .iface 36 (.int .i64 (pctN l))])) ∨ ∃ ps b c, pctP l = some ps ∧ e = .returned (.tuple #[.slice (some ⟨b, 0, none⟩) ps.length c, .nilIface]) ∧ b < w'.heap.size ∧ PcB w' B b ps
end Go.Proofs.YtfjhjhjdneihbaaGreatDoor
