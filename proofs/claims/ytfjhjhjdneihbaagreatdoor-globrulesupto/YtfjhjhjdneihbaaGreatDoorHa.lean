/-
  Rows of rules of the call's own; the walk of Read.
-/
import Derived.Test.YtfjhjhjdneihbaaGreatDoorGz
namespace Go.Proofs.YtfjhjhjdneihbaaGreatDoor
open Go.RowKit

/-- a pattern lies there, in blocks of which S holds -/
def GlobS (w : World) (S : Nat → Prop) (bg : Nat) (P : List Pg.Pt) : Prop := GlobAt w bg P ∧ S bg ∧ (P ≠ [] → ∀ a n c, w.cell? ⟨bg, 0, none⟩ = some (.slice (some a) n c) → S a.block)
def PcS (w : World) (S : Nat → Prop) (b : Nat) (ps : List Pg.Pi) : Prop := S b ∧ b < w.heap.size ∧ ∀ (j : Nat) (q : Pg.Pi), ps[j]? = some q → w.cell? ⟨b, j * 2 + 1, none⟩ = some (.bool q.isNone) ∧ ∀ P, q = some P → ∃ bg, w.cell? ⟨b, j * 2, none⟩ = some (.pointer (some ⟨bg, 0, none⟩)) ∧ GlobS w S bg P
theorem PcB.s {w : World} {B b : Nat} {ps : List Pg.Pi} (h : PcB w B b ps) (hb : b < w.heap.size) : PcS w (fun i => B ≤ i) b ps := ⟨h.1, hb, fun j q hj => by
  obtain ⟨h1, h2⟩ := h.2 j q hj
  refine ⟨h1, fun P hP => ?_⟩
  obtain ⟨bg, h3, h4⟩ := h2 P hP
  exact ⟨bg, h3, h4.1, h4.2.1, fun _ => h4.2.2⟩⟩
theorem PcS.at {w : World} {S : Nat → Prop} {b : Nat} {ps : List Pg.Pi} (h : PcS w S b ps) : PcAt w b ps := fun j q hj => by
  obtain ⟨h1, h2⟩ := h.2.2 j q hj
  refine ⟨h1, fun P hP => ?_⟩
  obtain ⟨bg, h3, h4⟩ := h2 P hP
  exact ⟨bg, h3, h4.1⟩
/-- the blocks are there -/
theorem GlobS.imp {w : World} {S S' : Nat → Prop} {bg : Nat} {P : List Pg.Pt} (h : GlobS w S bg P) (hS : ∀ i, i < w.heap.size → S i → S' i) : GlobS w S' bg P := by
  obtain ⟨h1, h2, h3⟩ := h
  have h1' := h1
  obtain ⟨a, c, k1, k2, k3⟩ := h1
  refine ⟨h1', hS bg (lt_of_cell k1) h2, fun hP a' n' c' hc => hS _ ?_ (h3 hP a' n' c' hc)⟩
  rcases k3 with k3 | ⟨b, ha, hl, _⟩
  · exact absurd k3 hP
  · rw [k1, ha] at hc
    cases hc
    exact hl
theorem PcS.imp {w : World} {S S' : Nat → Prop} {b : Nat} {ps : List Pg.Pi} (h : PcS w S b ps) (hS : ∀ i, i < w.heap.size → S i → S' i) : PcS w S' b ps := by
  obtain ⟨h1, h2, h3⟩ := h
  refine ⟨hS b h2 h1, h2, fun j q hj => ?_⟩
  obtain ⟨k1, k2⟩ := h3 j q hj
  refine ⟨k1, fun P hP => ?_⟩
  obtain ⟨bg, k3, k4⟩ := k2 P hP
  exact ⟨bg, k3, k4.imp hS⟩
theorem GlobS.grown {w w' : World} {S : Nat → Prop} {bg : Nat} {P : List Pg.Pt} {row : Option Nat} (h : GlobS w S bg P) (hg : w.grownBy w' row) (hr : ∀ i, S i → some i ≠ row) : GlobS w' S bg P := by
  obtain ⟨⟨a, c, k1, k2, k3⟩, h2, h3⟩ := h
  have hc := hg.cell k1 (hr bg h2)
  refine ⟨⟨a, c, hc, k2, ?_⟩, h2, fun hP a' n' c' hc' => h3 hP a' n' c' (by rw [hc] at hc'; rw [k1]; exact hc')⟩
  by_cases hP : P = []
  · exact .inl hP
  · rcases k3 with k3 | ⟨b, ha, hl, k4⟩
    · exact .inl k3
    · have hb := hr b (by have := h3 hP ⟨b, 0, none⟩ _ _ (by rw [k1, ha]); exact this)
      exact .inr ⟨b, ha, Nat.lt_of_lt_of_le hl hg.size, fun j p hj => ⟨fun i hi => hg.cell ((k4 j p hj).1 i hi) hb, hg.cell (k4 j p hj).2 hb⟩⟩
theorem PcS.grown {w w' : World} {S : Nat → Prop} {b : Nat} {ps : List Pg.Pi} {row : Option Nat} (h : PcS w S b ps) (hg : w.grownBy w' row) (hr : ∀ i, S i → some i ≠ row) : PcS w' S b ps := by
  obtain ⟨h1, h2, h3⟩ := h
  refine ⟨h1, Nat.lt_of_lt_of_le h2 hg.size, fun j q hj => ?_⟩
  obtain ⟨k1, k2⟩ := h3 j q hj
  refine ⟨hg.cell k1 (hr b h1), fun P hP => ?_⟩
  obtain ⟨bg, k3, k4⟩ := k2 P hP
  exact ⟨bg, hg.cell k3 (hr b h1), k4.grown hg hr⟩
theorem Tryz.infoRule : (Tryz.prog.info? 46).map (fun i => (i.zero, i.size, i.bytes)) = some (some (.agg #[.slice none 0 0, .bool false, .bool false]), 3, 32) := by kernel_rfl
/-- blocks that are neither the row's nor the rules' own -/
def Away (v : Value) (br : Nat) (i : Nat) : Prop := v.ownBlock ≠ some i ∧ i ≠ br
def RuC (w : World) (S : Nat → Prop) (cs : List Value) (rs : List Ru) : Prop := ∀ (j : Nat) r, rs[j]? = some r → ∃ bp c, cs[j * 3]? = some (.slice (some ⟨bp, 0, none⟩) r.ps.length c) ∧ cs[j * 3 + 1]? = some (.bool r.dirs) ∧ cs[j * 3 + 2]? = some (.bool r.back) ∧ PcS w S bp r.ps
def OwnRu (w : World) (B br : Nat) (v : Value) (rs : List Ru) : Prop := ∃ cs, w.ownsRow B 46 3 v rs.length cs ∧ RuC w (Away v br) cs rs ∧ v.ownBlock ≠ some br
theorem OwnRu.nil (w : World) (B br : Nat) : OwnRu w B br (.slice none 0 0) [] := ⟨[], World.ownsRow_nil _ _ _ _, fun j r hj => by simp at hj, by simp [Value.ownBlock]⟩
theorem OwnRu.later {w w' : World} {B br : Nat} {v : Value} {rs : List Ru} (h : OwnRu w B br v rs) (hb : Below w.heap.size w w') : OwnRu w' B br v rs := by
  obtain ⟨cs, h1, h2, h3⟩ := h
  refine ⟨cs, own_stays h1 hb, fun j r hj => ?_, h3⟩
  obtain ⟨bp, c, k1, k2, k3, k4⟩ := h2 j r hj
  exact ⟨bp, c, k1, k2, k3, k4.grown (grown_of_below hb none) (fun i _ => by simp)⟩
/-- the rules lie in a block as Read makes it -/
theorem OwnRu.at {w : World} {B br : Nat} {v : Value} {rs : List Ru} (h : OwnRu w B br v rs) (hc : w.cell? ⟨br, 0, none⟩ = some v) : RulesAt w br rs := by
  obtain ⟨cs, h1, h2, _⟩ := h
  have h1' := h1
  rcases h1.2 with ⟨hv, hn⟩ | ⟨g, cap, cur, hv, hg, hh, hcp, _⟩
  · exact ⟨none, 0, by rw [hc, hv, hn], by omega, .inl (List.length_eq_zero_iff.1 hn)⟩
  · subst hv
    refine ⟨_, cap, hc, hcp, .inr ⟨g, rfl, lt_of_heap hh, fun j r hj => ?_⟩⟩
    have hjl : j < rs.length := by
      rcases Nat.lt_or_ge j rs.length with k | k
      · exact k
      · rw [List.getElem?_eq_none k] at hj; cases hj
    obtain ⟨bp, c, k1, k2, k3, k4⟩ := h2 j r hj
    refine ⟨bp, c, ?_, ?_, ?_, k4.2.1, k4.at⟩
    · rw [World.ownsRow.cellAt h1' (j * 3) (by omega)]; exact k1
    · rw [World.ownsRow.cellAt h1' (j * 3 + 1) (by omega)]; exact k2
    · rw [World.ownsRow.cellAt h1' (j * 3 + 2) (by omega)]; exact k3
theorem wpList_append_rule {w : World} {ops : Array Oper} {rest : List Oper} {o : Oper} {a : Act} {Q : Exit → Act → World → Prop} (hgd : o.guard = none) (s x : Operand)
    (ho : o.op = .call { callee := .builtin .append, args := #[s, x], argTypes := #[37, 37] }) (B br : Nat) (v : Value) (rs : List Ru) (hs : a.eval s = v) (hown : OwnRu w B br v rs)
    (ad : Addr) (cp : Nat) (r : Ru) (bp c : Nat) (hq : PcS w (Away v br) bp r.ps) (hx : a.eval x = .slice (some ad) 1 cp) (hy1 : w.cell? (ad.add 0) = some (.slice (some ⟨bp, 0, none⟩) r.ps.length c)) (hy2 : w.cell? (ad.add 1) = some (.bool r.dirs)) (hy3 : w.cell? (ad.add 2) = some (.bool r.back)) (hfit : rs.length ≤ 1000000000) (hB : B ≤ w.heap.size) (hbr : br < w.heap.size)
    (h : ∀ a' n' c' w', OwnRu w' B br (.slice a' n' c') (rs ++ [r]) → w.grownBy w' v.ownBlock → wpList Tryz.prog ops Q rest (a.put o.dst (.slice a' n' c')) w') : wpList Tryz.prog ops Q (o :: rest) a w := by
  obtain ⟨i0, hi, hz0, hz1, hz2⟩ := info_parts Tryz.infoRule
  obtain ⟨cs, h1, h2, h3⟩ := hown
  refine wpList_append_lies _ hgd s x 37 ho B 46 i0 (.agg #[.slice none 0 0, .bool false, .bool false]) 3 32 Tryz.underlying37 hi hz0 hz1 hz2 rfl (by decide) v rs.length cs hs h1 ad 1 cp [.slice (some ⟨bp, 0, none⟩) r.ps.length c, .bool r.dirs, .bool r.back] hx rfl ?_ ?_ (by decide) ?_ ?_ hB w.heap.size rfl ?_
  · intro j u hj
    match j, hj with
    | 0, hj => simp at hj; subst hj; exact hy1
    | 1, hj => simp at hj; subst hj; exact hy2
    | 2, hj => simp at hj; subst hj; exact hy3
  · intro u hu; simp at hu; rcases hu with rfl | rfl | rfl <;> rfl
  · unfold maxLen; omega
  · omega
  · intro g cap w' g2 g3 g4 _
    have hl := h1.1
    have hS : ∀ i, i < w.heap.size → Away v br i → Away (.slice (some ⟨g, 0, none⟩) (rs.length + 1) cap) br i := by
      intro i hi hA
      refine ⟨fun e => ?_, hA.2⟩
      have e' : g = i := by cases e; rfl
      rcases g4 with g4 | g4
      · exact hA.1 (by rw [g4, e'])
      · omega
    have hgr : ∀ i, Away v br i → some i ≠ v.ownBlock := fun i hA e => hA.1 e.symm
    have hfin : ∀ q : Ru, ∀ b, PcS w (Away v br) b q.ps → PcS w' (Away (.slice (some ⟨g, 0, none⟩) (rs.length + 1) cap) br) b q.ps := fun q b hb => by
      have h4 := (PcS.imp hb (S' := fun i => Away v br i ∧ Away (.slice (some ⟨g, 0, none⟩) (rs.length + 1) cap) br i) (fun i hi hA => ⟨hA, hS i hi hA⟩)).grown g3 (fun i hA => hgr i hA.1)
      exact h4.imp fun i _ hA => hA.2
    refine h _ _ _ w' ⟨_, by rw [List.length_append]; exact g2, ?_, ?_⟩ g3
    · intro j q hj
      by_cases hjl : j < rs.length
      · rw [List.getElem?_append_left hjl] at hj
        obtain ⟨bq, cq, k1, k2, k3, k4⟩ := h2 j q hj
        rw [List.getElem?_append_left (by omega), List.getElem?_append_left (by omega), List.getElem?_append_left (by omega)]
        exact ⟨bq, cq, k1, k2, k3, hfin q bq k4⟩
      · have hjl2 : j < (rs ++ [r]).length := by
          rcases Nat.lt_or_ge j (rs ++ [r]).length with k | k
          · exact k
          · rw [List.getElem?_eq_none k] at hj; cases hj
        have hje : j = rs.length := by rw [List.length_append, List.length_singleton] at hjl2; omega
        subst hje
        rw [List.getElem?_append_right (Nat.le_refl _), Nat.sub_self] at hj
        have hr : r = q := by simpa using hj
        subst hr
        rw [List.getElem?_append_right (by omega), List.getElem?_append_right (by omega), List.getElem?_append_right (by omega), hl, Nat.sub_self, show rs.length * 3 + 1 - rs.length * 3 = 1 by omega, show rs.length * 3 + 2 - rs.length * 3 = 2 by omega]
        exact ⟨bp, c, rfl, rfl, rfl, hfin r bp hq⟩
    · intro e
      have e' : g = br := by cases e; rfl
      rcases g4 with g4 | g4
      · exact h3 (by rw [g4, e'])
      · omega
end Go.Proofs.YtfjhjhjdneihbaaGreatDoor
