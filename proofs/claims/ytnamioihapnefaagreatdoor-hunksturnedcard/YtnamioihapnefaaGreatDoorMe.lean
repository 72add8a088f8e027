/-
  The document's pieces and the program's groups: the same spans.
-/
import Derived.Test.YtnamioihapnefaaGreatDoorMd
import Derived.Test.YtnamioihapnefaaGreatDoorGrKc
import Derived.Test.YtnamioihapnefaaGreatDoorMc
namespace Go.Proofs.YtnamioihapnefaaGreatDoor
open Go.RowKit
open Hu (Rw Hk)

/-- the groups, from the front -/
def gR (c : Nat) : List Sp → Option Sp → List Sp
  | [], none => []
  | [], some q => [q]
  | r :: rs, none => gR c rs (some r)
  | r :: rs, some q => if r.1 ≤ q.2 + 2 * c then gR c rs (some (q.1, r.2)) else q :: gR c rs (some r)
theorem gR_none (c : Nat) (r : Sp) (rs : List Sp) : gR c (r :: rs) none = gR c rs (some r) := by rw [gR]
theorem gR_some (c : Nat) (r q : Sp) (rs : List Sp) : gR c (r :: rs) (some q) = if r.1 ≤ q.2 + 2 * c then gR c rs (some (q.1, r.2)) else q :: gR c rs (some r) := by rw [gR]
theorem gR_fold (c : Nat) (rs : List Sp) : (∀ A q, rs.foldl (gstep c) (A ++ [q]) = A ++ gR c rs (some q)) ∧ rs.foldl (gstep c) [] = gR c rs none := by
  induction rs with
  | nil => exact ⟨fun A q => rfl, rfl⟩
  | cons r rs ih =>
    refine ⟨fun A q => ?_, ?_⟩
    · rw [List.foldl_cons]
      unfold gstep
      rw [List.getLast?_concat]
      dsimp only
      rw [gR]
      by_cases h : r.1 ≤ q.2 + 2 * c
      · rw [if_pos h, if_pos (by omega), List.dropLast_concat]
        exact ih.1 A (q.1, r.2)
      · rw [if_neg h, if_neg (by omega)]
        refine (ih.1 (A ++ [q]) r).trans ?_
        rw [List.append_assoc]
        rfl
    · rw [List.foldl_cons, gR]
      exact ih.1 [] r
theorem gfold_gR (c : Nat) (rs : List Sp) : gfold c rs = gR c rs none := (gR_fold c rs).2
/-- a run that is under way -/
theorem runs_open (l : List Rw) (i : Nat) : ∃ t rs, ∀ f, f < i → Hu.runsR l i f = (f, t) :: rs := by
  induction l generalizing i with
  | nil => exact ⟨i, [], fun f h => by rw [Hu.runsR, Hu.run1, if_pos h]⟩
  | cons r l ih =>
    by_cases e : Hu.isC r = true
    · obtain ⟨t, rs, h⟩ := ih (i + 1)
      exact ⟨t, rs, fun f hf => by rw [Hu.runsR, if_pos e]; exact h f (by omega)⟩
    · exact ⟨i, Hu.runsR l (i + 1) (i + 1), fun f hf => by rw [Hu.runsR, if_neg e, Hu.run1, if_pos hf]; rfl⟩
theorem run1_none (i : Nat) : Hu.run1 i i = [] := by rw [Hu.run1, if_neg (Nat.lt_irrefl i)]
/-- a group with its context -/
def widS (c N : Nat) (s : Sp) : Sp := (s.1 - c, min (s.2 + c) N)
theorem nD_gR (c N : Nat) (l : List Rw) : ∀ i, i + l.length = N → l.all (fun r => r.k == 1 || Hu.isC r) = true →
    (∀ last, l.any Hu.isC = true → nD c N l i none last = (gR c (Hu.runsR l i i) none).map (widS c N)) ∧
    (∀ q : Sp, q.1 ≤ q.2 → q.2 ≤ i → nD c N l i (some (q.1 - min c q.1)) q.2 = (gR c (Hu.runsR l i i) (some q)).map (widS c N)) ∧
    (∀ g, g < i → nD c N l i (some (g - min c g)) i = (gR c (Hu.runsR l i g) none).map (widS c N)) := by
  induction l with
  | nil =>
    intro i hi _
    rw [List.length_nil] at hi
    refine ⟨fun last h => (by cases h), fun q h1 h2 => ?_, fun g hg => ?_⟩
    · rw [Hu.runsR, run1_none, gR, nD]
      simp only [Option.getD_some, List.map_cons, List.map_nil, widS]
      congr 2 <;> omega
    · rw [Hu.runsR, Hu.run1, if_pos hg, gR, gR, nD]
      simp only [Option.getD_some, List.map_cons, List.map_nil, widS]
      congr 2 <;> omega
  | cons r l ih =>
    intro i hi ha
    rw [List.length_cons] at hi
    rw [List.all_cons, Bool.and_eq_true] at ha
    obtain ⟨p0, p1, p2⟩ := ih (i + 1) (by omega) ha.2
    by_cases hk : r.k = 1
    · have hc : ¬ Hu.isC r = true := by unfold Hu.isC; rw [hk]; decide
      refine ⟨fun last h => ?_, fun q h1 h2 => ?_, fun g hg => ?_⟩
      · rw [nD_both hk, Hu.runsR, if_neg hc, run1_none, List.nil_append]
        refine p0 last ?_
        rw [List.any_cons, Bool.or_eq_true] at h
        rcases h with h | h
        · exact absurd h hc
        · exact h
      · rw [nD_both hk, Hu.runsR, if_neg hc, run1_none, List.nil_append]
        exact p1 q h1 (by omega)
      · rw [nD_both hk, Hu.runsR, if_neg hc, Hu.run1, if_pos hg]
        show _ = (gR c ((g, i) :: Hu.runsR l (i + 1) (i + 1)) none).map _
        rw [gR]
        exact p1 (g, i) (by show g ≤ i; omega) (by show i ≤ i + 1; omega)
    · have hc : Hu.isC r = true := by
        have := ha.1
        rw [Bool.or_eq_true] at this
        rcases this with h | h
        · exact absurd (by simpa using h) hk
        · exact h
      refine ⟨fun last _ => ?_, fun q h1 h2 => ?_, fun g hg => ?_⟩
      · rw [nD_none hk, Hu.runsR, if_pos hc]
        exact p2 i (by omega)
      · rw [nD_some hk, Hu.runsR, if_pos hc]
        obtain ⟨t, rs, ho⟩ := runs_open l (i + 1)
        have q0 := p2 i (by omega)
        have q1 := p2 q.1 (by omega)
        rw [ho i (by omega)] at q0 ⊢
        rw [ho q.1 (by omega)] at q1
        rw [gR_none] at q0 q1
        rw [gR_some]
        by_cases hg : q.2 + 2 * c < i
        · rw [if_pos hg, if_neg (by show ¬ i ≤ _; omega), List.map_cons, q0]
          unfold widS
          congr 2 <;> omega
        · rw [if_neg hg, if_pos (by show i ≤ _; omega)]
          exact q1
      · rw [nD_some hk, Hu.runsR, if_pos hc, if_neg (by omega)]
        exact p2 g (by omega)
theorem nD_groups {c : Nat} {l : List Rw} (h : Hu.areR l = true) : nD c l.length l 0 none 0 = (gfold c (Hu.runsR l 0 0)).map (widS c l.length) := by
  unfold Hu.areR at h
  rw [Bool.and_eq_true] at h
  rw [gfold_gR]
  exact (nD_gR c l.length l 0 (by omega) h.1).1 0 h.2
end Go.Proofs.YtnamioihapnefaaGreatDoor
