/-
  Unified diffs, plain: numbers, ranges, a hunk's first line: as the program cuts it, and as the document reads it.
-/
namespace Go.Proofs.YtkolgglllladfaaGreatDoor.Un

abbrev Bs := List UInt8

/-! ### cutting -/
def pre (p s : Bs) : Option Bs := if p.isPrefixOf s then some (s.drop p.length) else none
theorem pre_some {p s r : Bs} : pre p s = some r ↔ s = p ++ r := by
  unfold pre
  constructor
  · intro h
    split at h
    · rename_i hp
      obtain ⟨t, rfl⟩ := List.isPrefixOf_iff_prefix.1 hp
      simp at h
      rw [h]
    · cases h
  · rintro rfl
    rw [if_pos (List.isPrefixOf_iff_prefix.2 (List.prefix_append _ _))]
    simp
theorem pre_none {p s : Bs} (h : pre p s = none) : ∀ r, s ≠ p ++ r := fun r e => by rw [pre_some.2 e] at h; cases h
/-- a text at the first place of another one in it -/
def cutS (sep : Bs) : Bs → Bs × Bs × Bool
  | [] => ([], [], sep.isEmpty)
  | c :: r => match pre sep (c :: r) with
    | some t => ([], t, true)
    | none => (c :: (cutS sep r).1, (cutS sep r).2.1, (cutS sep r).2.2)
theorem cut_yes {sep : Bs} : ∀ {s a b : Bs}, cutS sep s = (a, b, true) → s = a ++ (sep ++ b)
  | [], a, b, h => by
    unfold cutS at h
    simp only [Prod.mk.injEq] at h
    obtain ⟨rfl, rfl, h3⟩ := h
    cases sep with
    | nil => rfl
    | cons => cases h3
  | c :: r, a, b, h => by
    unfold cutS at h
    split at h
    · rename_i t ht
      simp only [Prod.mk.injEq] at h
      obtain ⟨rfl, rfl, _⟩ := h
      rw [List.nil_append]
      exact pre_some.1 ht
    · simp only [Prod.mk.injEq] at h
      obtain ⟨rfl, h2, h3⟩ := h
      have := cut_yes (s := r) (a := (cutS sep r).1) (b := b) (by rw [← h2, ← h3])
      rw [List.cons_append, ← this]
theorem cut_no {sep : Bs} : ∀ {s a b : Bs}, cutS sep s = (a, b, false) → a = s ∧ b = []
  | [], a, b, h => by
    unfold cutS at h
    simp only [Prod.mk.injEq] at h
    exact ⟨h.1.symm, h.2.1.symm⟩
  | c :: r, a, b, h => by
    unfold cutS at h
    split at h
    · simp at h
    · simp only [Prod.mk.injEq] at h
      obtain ⟨rfl, h2, h3⟩ := h
      have := cut_no (s := r) (a := (cutS sep r).1) (b := b) (by rw [← h2, ← h3])
      exact ⟨by rw [this.1], this.2⟩
theorem cut_at {d : UInt8} {sep : Bs} : ∀ {x : Bs} (y : Bs), d ∉ x → cutS (d :: sep) (x ++ (d :: sep ++ y)) = (x, y, true)
  | [], y, _ => by
    show cutS (d :: sep) (d :: (sep ++ y)) = _
    unfold cutS
    rw [pre_some.2 (show d :: (sep ++ y) = (d :: sep) ++ y from rfl)]
  | c :: x, y, h => by
    have hc : d ≠ c := fun e => h (by rw [e]; exact List.mem_cons_self)
    show cutS (d :: sep) (c :: (x ++ (d :: sep ++ y))) = _
    unfold cutS
    have hp : pre (d :: sep) (c :: (x ++ (d :: sep ++ y))) = none := by
      unfold pre
      rw [if_neg]
      simp [List.isPrefixOf, hc]
    rw [hp]
    simp only
    rw [cut_at y (fun hm => h (List.mem_cons_of_mem _ hm))]
theorem cut_none {d : UInt8} {sep : Bs} : ∀ {x : Bs}, d ∉ x → cutS (d :: sep) x = (x, [], false)
  | [], _ => rfl
  | c :: x, h => by
    have hc : d ≠ c := fun e => h (by rw [e]; exact List.mem_cons_self)
    unfold cutS
    have hp : pre (d :: sep) (c :: x) = none := by
      unfold pre
      rw [if_neg]
      simp [List.isPrefixOf, hc]
    rw [hp]
    simp only
    rw [cut_none (fun hm => h (List.mem_cons_of_mem _ hm))]
/-! ### numbers -/
def dg (c : UInt8) : Bool := decide (48 ≤ c.toNat) && decide (c.toNat ≤ 57)
def val (l : Bs) : Nat := l.foldl (fun n c => n * 10 + (c.toNat - 48)) 0
def numP (l : Bs) : Option Nat := if l ≠ [] ∧ l.all dg = true ∧ val l ≤ 2147483647 then some (val l) else none
def rngP (t : Bs) : Option (Nat × Nat) := match cutS [44] t with
  | (a, b, true) => match numP a, numP b with
    | some x, some n => some (x, n)
    | _, _ => none
  | (a, _, false) => (numP a).map fun x => (x, 1)
def numD (s : Bs) : Option (Nat × Bs) := if s.takeWhile dg ≠ [] ∧ val (s.takeWhile dg) ≤ 2147483647 then some (val (s.takeWhile dg), s.dropWhile dg) else none
def spD (s : Bs) : Option (Nat × Nat × Bs) := match numD s with
  | none => none
  | some (x, r) => match pre [44] r with
    | none => some (x, 1, r)
    | some r' => (numD r').map fun p => (x, p.1, p.2)
/-- no digit and no comma stands there -/
def off (z : Bs) : Prop := ∀ c, z.head? = some c → dg c = false ∧ c ≠ 44
theorem all_tw {p : UInt8 → Bool} : ∀ {l : Bs}, l.all p = true → ∀ z : Bs, (∀ c, z.head? = some c → p c = false) → (l ++ z).takeWhile p = l ∧ (l ++ z).dropWhile p = z
  | [], _, z, hz => by
    cases z with
    | nil => exact ⟨rfl, rfl⟩
    | cons c z =>
      have := hz c rfl
      simp [this]
  | a :: l, h, z, hz => by
    rw [List.all_cons, Bool.and_eq_true] at h
    have ih := all_tw h.2 z hz
    rw [List.cons_append, List.takeWhile_cons, List.dropWhile_cons, h.1]
    simp only [if_true]
    exact ⟨by rw [ih.1], ih.2⟩
theorem numD_of {l : Bs} {x : Nat} (h : numP l = some x) {z : Bs} (hz : ∀ c, z.head? = some c → dg c = false) : numD (l ++ z) = some (x, z) := by
  unfold numP at h
  split at h
  · rename_i hh
    obtain ⟨h1, h2, h3⟩ := hh
    cases h
    obtain ⟨e1, e2⟩ := all_tw h2 z hz
    unfold numD
    rw [e1, e2, if_pos ⟨h1, h3⟩]
  · cases h
theorem numP_of {s r : Bs} {x : Nat} (h : numD s = some (x, r)) : ∃ l, s = l ++ r ∧ numP l = some x ∧ l.all dg = true ∧ ∀ c, r.head? = some c → dg c = false := by
  unfold numD at h
  split at h
  · rename_i hh
    simp only [Option.some.injEq, Prod.mk.injEq] at h
    obtain ⟨rfl, rfl⟩ := h
    have ha : (s.takeWhile dg).all dg = true := List.all_takeWhile ..
    refine ⟨s.takeWhile dg, (List.takeWhile_append_dropWhile ..).symm, ?_, ha, fun c hc => ?_⟩
    · unfold numP
      rw [if_pos ⟨hh.1, ha, hh.2⟩]
    · have := List.head?_dropWhile_not dg s
      rw [hc] at this
      simpa using this
  · cases h
theorem dg_44 : dg 44 = false := by decide
theorem dg_32 : dg 32 = false := by decide
theorem no44 {l : Bs} (h : l.all dg = true) : (44 : UInt8) ∉ l := fun hm => by
  have := List.all_eq_true.1 h 44 hm
  rw [dg_44] at this
  cases this
theorem numP_all {l : Bs} {x : Nat} (h : numP l = some x) : l.all dg = true := by
  unfold numP at h
  split at h
  · rename_i hh; exact hh.2.1
  · cases h
/-- what the program takes for a range, the document reads -/
theorem spD_of {x : Bs} {a n : Nat} (h : rngP x = some (a, n)) {z : Bs} (hz : off z) : spD (x ++ z) = some (a, n, z) := by
  unfold rngP at h
  split at h
  · rename_i u v hc
    have hx := cut_yes hc
    split at h
    · rename_i p q hp hq
      simp only [Option.some.injEq, Prod.mk.injEq] at h
      obtain ⟨rfl, rfl⟩ := h
      rw [hx, List.append_assoc, List.append_assoc]
      unfold spD
      rw [numD_of hp (z := [44] ++ (v ++ z)) (fun c hc => by simp at hc; subst hc; exact dg_44)]
      simp only
      rw [pre_some.2 (show [44] ++ (v ++ z) = [44] ++ (v ++ z) from rfl)]
      simp only
      rw [numD_of hq (fun c hc => (hz c hc).1)]
      rfl
    · cases h
  · rename_i u v hc
    have hx := (cut_no hc).1
    subst hx
    cases hp : numP u with
    | none => rw [hp] at h; cases h
    | some p =>
      rw [hp] at h
      simp only [Option.map_some, Option.some.injEq, Prod.mk.injEq] at h
      obtain ⟨rfl, rfl⟩ := h
      unfold spD
      rw [numD_of hp (fun c hc => (hz c hc).1)]
      simp only
      have : pre [44] z = none := by
        cases hh : pre [44] z with
        | none => rfl
        | some r =>
          have e := pre_some.1 hh
          exact absurd rfl (hz 44 (by rw [e]; rfl)).2
      rw [this]
/-- what the document reads, the program takes for a range -/
theorem rngP_of {s r : Bs} {a n : Nat} (h : spD s = some (a, n, r)) : ∃ x, s = x ++ r ∧ rngP x = some (a, n) ∧ (32 : UInt8) ∉ x := by
  have h32 : ∀ {l : Bs}, l.all dg = true → (32 : UInt8) ∉ l := fun {l} hl hm => by
    have := List.all_eq_true.1 hl 32 hm
    rw [dg_32] at this
    cases this
  unfold spD at h
  split at h
  · cases h
  · rename_i x r1 hn
    obtain ⟨l, hs, hl, hla, hr⟩ := numP_of hn
    split at h
    · rename_i hp
      simp only [Option.some.injEq, Prod.mk.injEq] at h
      obtain ⟨rfl, rfl, rfl⟩ := h
      refine ⟨l, hs, ?_, h32 hla⟩
      unfold rngP
      rw [cut_none (no44 hla)]
      simp only
      rw [hl]
      rfl
    · rename_i r2 hp
      have hr2 := pre_some.1 hp
      cases hq : numD r2 with
      | none => rw [hq] at h; cases h
      | some p =>
        obtain ⟨y, r3⟩ := p
        rw [hq] at h
        simp only [Option.map_some, Option.some.injEq, Prod.mk.injEq] at h
        obtain ⟨rfl, rfl, rfl⟩ := h
        obtain ⟨l2, hs2, hl2, hla2, _⟩ := numP_of hq
        refine ⟨l ++ ([44] ++ l2), by rw [hs, hr2, hs2]; simp, ?_, ?_⟩
        · unfold rngP
          rw [cut_at l2 (no44 hla)]
          simp only
          rw [hl, hl2]
        · intro hm
          rcases List.mem_append.1 hm with hm | hm
          · exact h32 hla hm
          · rcases List.mem_cons.1 hm with hm | hm
            · cases hm
            · exact h32 hla2 hm
/-! ### a hunk's first line -/
structure Plc where
  a : Nat
  n : Nat
  b : Nat
  m : Nat
  head : Bs
def mkB : Bs := [64, 64, 32, 45]
def mkM : Bs := [32, 43]
def mkC : Bs := [32, 64, 64]
def headP (t : Bs) : Option Bs := match t with
  | [] => some []
  | c :: r => if c = 32 then some r else none
/-- as the program cuts it -/
def placeP (s : Bs) : Option Plc := match pre mkB s with
  | none => none
  | some s1 => match cutS mkC (cutS mkM s1).2.1 with
    | (_, _, false) => none
    | (f, t, true) => match headP t, rngP (cutS mkM s1).1, rngP f with
      | some h, some o, some q => some ⟨o.1, o.2, q.1, q.2, h⟩
      | _, _, _ => none
/-- as the document reads it -/
def placeD (s : Bs) : Option Plc := match pre mkB s with
  | none => none
  | some s1 => match spD s1 with
    | none => none
    | some (a, n, r1) => match pre mkM r1 with
      | none => none
      | some s2 => match spD s2 with
        | none => none
        | some (b, m, r2) => match pre mkC r2 with
          | none => none
          | some t => (headP t).map fun h => ⟨a, n, b, m, h⟩
theorem off_32 (z : Bs) : off (32 :: z) := fun c hc => by
  simp at hc
  subst hc
  exact ⟨dg_32, by decide⟩
theorem placeD_of {s : Bs} {p : Plc} (h : placeP s = some p) : placeD s = some p := by
  unfold placeP at h
  unfold placeD
  split at h
  · cases h
  · rename_i s1 hs1
    split at h
    · cases h
    · rename_i f t hc2
      split at h
      · rename_i hd o q hh ho hq
        cases h
        have e2 := cut_yes hc2
        cases hc1 : cutS mkM s1 with
        | mk u vb =>
          obtain ⟨v, fl⟩ := vb
          rw [hc1] at hc2 ho e2
          simp only at hc2 ho e2
          cases fl with
          | false =>
            have := (cut_no hc1).2
            rw [this] at e2
            have := congrArg List.length e2
            simp [mkC] at this
          | true =>
            have e1 := cut_yes hc1
            rw [e1, spD_of (a := o.1) (n := o.2) ho (z := mkM ++ v) (off_32 _)]
            simp only
            rw [pre_some.2 (show mkM ++ v = mkM ++ v from rfl)]
            simp only
            rw [e2, spD_of (a := q.1) (n := q.2) hq (z := mkC ++ t) (off_32 _)]
            simp only
            rw [pre_some.2 (show mkC ++ t = mkC ++ t from rfl)]
            simp only
            rw [hh]
            rfl
      · cases h
theorem placeP_of {s : Bs} {p : Plc} (h : placeD s = some p) : placeP s = some p := by
  unfold placeD at h
  unfold placeP
  split at h
  · cases h
  · rename_i s1 hs1
    split at h
    · cases h
    · rename_i a n r1 h1
      split at h
      · cases h
      · rename_i s2 h2
        split at h
        · cases h
        · rename_i b m r2 h3
          split at h
          · cases h
          · rename_i t h4
            cases hh : headP t with
            | none => rw [hh] at h; cases h
            | some hd =>
              rw [hh] at h
              simp only [Option.map_some, Option.some.injEq] at h
              subst h
              obtain ⟨x, e1, hx, nx⟩ := rngP_of h1
              obtain ⟨y, e3, hy, ny⟩ := rngP_of h3
              have e2 := pre_some.1 h2
              have e4 := pre_some.1 h4
              have c1 : cutS mkM s1 = (x, s2, true) := by rw [e1, e2]; exact cut_at s2 nx
              have c2 : cutS mkC s2 = (y, t, true) := by rw [e3, e4]; exact cut_at t ny
              rw [c1]
              simp only
              rw [c2]
              simp only
              rw [hh, hx, hy]
/-- the same -/
theorem place_eq (s : Bs) : placeP s = placeD s := by
  cases h : placeP s with
  | some p => rw [placeD_of h]
  | none =>
    cases h2 : placeD s with
    | none => rfl
    | some p => rw [placeP_of h2] at h; cases h
end Go.Proofs.YtkolgglllladfaaGreatDoor.Un
