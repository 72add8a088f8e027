/-
  The program's Narrow: its spans, plain.
-/
import Derived.Test.YtnamioihapnefaaGreatDoorMh
import Derived.Test.YtnamioihapnefaaGreatDoorGrKc
import Derived.Test.YtnamioihapnefaaGreatDoorMc
namespace Go.Proofs.YtnamioihapnefaaGreatDoor
open Go.RowKit
open Hu (Rw Hk)

/-- spans one behind the other, from a row on -/
def Chn (N : Nat) : Nat → List Sp → Prop
  | _, [] => True
  | lo, s :: l => lo ≤ s.1 ∧ s.1 < s.2 ∧ s.2 ≤ N ∧ Chn N s.2 l
theorem Chn.low {N lo lo' : Nat} {l : List Sp} (h : Chn N lo l) (hl : lo' ≤ lo) : Chn N lo' l := by
  cases l with
  | nil => trivial
  | cons s l => exact ⟨Nat.le_trans hl h.1, h.2⟩
theorem runs_chn : ∀ (l : List Rw) (i f : Nat), f ≤ i → Chn (i + l.length) f (Hu.runsR l i f)
  | [], i, f, h => by
    rw [Hu.runsR, Hu.run1]
    split
    · exact ⟨Nat.le_refl _, by assumption, Nat.le_refl _, trivial⟩
    · trivial
  | r :: l, i, f, h => by
    rw [Hu.runsR, List.length_cons]
    split
    · have := runs_chn l (i + 1) f (by omega)
      rwa [show i + 1 + l.length = i + (l.length + 1) by omega] at this
    · have := runs_chn l (i + 1) (i + 1) (Nat.le_refl _)
      rw [show i + 1 + l.length = i + (l.length + 1) by omega] at this
      rw [Hu.run1]
      split
      · exact ⟨Nat.le_refl _, by assumption, by show i ≤ _; omega, this.low (by show i ≤ _; omega)⟩
      · exact this.low (by omega)
theorem gR_chn (c N : Nat) : ∀ (rs : List Sp) (lo : Nat), (Chn N lo rs → Chn N lo (gR c rs none)) ∧ ∀ q : Sp, lo ≤ q.1 → q.1 < q.2 → q.2 ≤ N → Chn N q.2 rs → Chn N lo (gR c rs (some q))
  | [], lo => ⟨fun _ => trivial, fun q h1 h2 h3 _ => ⟨h1, h2, h3, trivial⟩⟩
  | r :: rs, lo => by
    refine ⟨fun h => ?_, fun q h1 h2 h3 h => ?_⟩
    · rw [gR_none]
      exact (gR_chn c N rs lo).2 r h.1 h.2.1 h.2.2.1 h.2.2.2
    · rw [gR_some]
      split
      · exact (gR_chn c N rs lo).2 (q.1, r.2) h1 (by show q.1 < r.2; have := h.1; have := h.2.1; omega) h.2.2.1 h.2.2.2
      · exact ⟨h1, h2, h3, (gR_chn c N rs q.2).2 r h.1 h.2.1 h.2.2.1 h.2.2.2⟩
theorem chn_in {N : Nat} : ∀ {l : List Sp} {lo : Nat}, Chn N lo l → ∀ s ∈ l, lo ≤ s.1 ∧ s.1 < s.2 ∧ s.2 ≤ N
  | [], _, _, s, hs => by simp at hs
  | q :: l, lo, h, s, hs => by
    rcases List.mem_cons.1 hs with rfl | hs
    · exact ⟨h.1, h.2.1, h.2.2.1⟩
    · have := chn_in h.2.2.2 s hs
      have := h.1
      have := h.2.1
      omega
theorem chn_ord {N : Nat} : ∀ {l : List Sp} {lo : Nat}, Chn N lo l → ∀ (i : Nat) (s t : Sp), l[i]? = some s → l[i + 1]? = some t → s.2 ≤ t.1
  | [], _, _, i, s, t, hs, _ => by simp at hs
  | q :: l, lo, h, 0, s, t, hs, ht => by
    simp at hs ht
    subst hs
    exact (chn_in h.2.2.2 t (List.mem_of_getElem? ht)).1
  | q :: l, lo, h, i + 1, s, t, hs, ht => by
    rw [List.getElem?_cons_succ] at hs ht
    exact chn_ord h.2.2.2 i s t hs ht
theorem nD_ne (c N : Nat) : ∀ (l : List Rw) (i : Nat) (fr : Option Nat) (last : Nat), nD c N l i fr last ≠ []
  | [], i, fr, last => by rw [nD]; simp
  | r :: l, i, fr, last => by
    by_cases h : r.k = 1
    · rw [nD_both h]; exact nD_ne c N l _ _ _
    · cases fr with
      | none => rw [nD_none h]; exact nD_ne c N l _ _ _
      | some f =>
        rw [nD_some h]
        split
        · simp
        · exact nD_ne c N l _ _ _
theorem wid_in {c : Nat} {l : List Rw} {s : Sp} (h : s ∈ (gfold c (Hu.runsR l 0 0)).map (widS c l.length)) : s.1 < s.2 ∧ s.2 ≤ l.length := by
  obtain ⟨q, hq, rfl⟩ := List.mem_map.1 h
  rw [gfold_gR] at hq
  have h1 := runs_chn l 0 0 (Nat.le_refl _)
  rw [Nat.zero_add] at h1
  have := chn_in ((gR_chn c l.length _ 0).1 h1) q hq
  unfold widS
  simp only
  omega
theorem wid_ord {c : Nat} {l : List Rw} (i : Nat) (s t : Sp) (hs : ((gfold c (Hu.runsR l 0 0)).map (widS c l.length))[i]? = some s) (ht : ((gfold c (Hu.runsR l 0 0)).map (widS c l.length))[i + 1]? = some t) : s.1 ≤ t.1 := by
  rw [List.getElem?_map, Option.map_eq_some_iff] at hs ht
  obtain ⟨q, hq, rfl⟩ := hs
  obtain ⟨r, hr, rfl⟩ := ht
  have hq2 := hq
  rw [gfold_gR] at hq hr
  have h1 := runs_chn l 0 0 (Nat.le_refl _)
  rw [Nat.zero_add] at h1
  have h2 := (gR_chn c l.length _ 0).1 h1
  have h3 := chn_ord h2 i q r hq hr
  have h4 := chn_in h2 q (List.mem_of_getElem? hq)
  unfold widS
  simp only
  omega
end Go.Proofs.YtnamioihapnefaaGreatDoor
