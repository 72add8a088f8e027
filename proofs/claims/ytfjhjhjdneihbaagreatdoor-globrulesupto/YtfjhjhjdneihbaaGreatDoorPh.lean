/-
  Rules of paths over lists of names: what pieces mean, as the document says it and as the program asks it, all beginnings at once.
-/
import Derived.Test.YtfjhjhjdneihbaaGreatDoorPe
namespace Go.Proofs.YtfjhjhjdneihbaaGreatDoor.Pg

/-- a piece: any number of names (none), or one name, by a pattern -/
abbrev Pi := Option (List Pt)
/-- do pieces mean names? -/
def M : List Pi → List (List UInt8) → Bool
  | [], ns => ns.isEmpty
  | some _ :: _, [] => false
  | some P :: r, n :: ns => mt P n && M r ns
  | none :: r, [] => M r []
  | none :: r, n :: ns => M r (n :: ns) || M (none :: r) ns
termination_by ps ns => ps.length + ns.length
theorem M_nil (ns : List (List UInt8)) : M [] ns = ns.isEmpty := by rw [M]
theorem M_one_nil (P : List Pt) (r : List Pi) : M (some P :: r) [] = false := by rw [M]
theorem M_one (P : List Pt) (r : List Pi) (n : List UInt8) (ns : List (List UInt8)) : M (some P :: r) (n :: ns) = (mt P n && M r ns) := by rw [M]
theorem M_many_nil (r : List Pi) : M (none :: r) [] = M r [] := by rw [M]
theorem M_many (r : List Pi) (n : List UInt8) (ns : List (List UInt8)) : M (none :: r) (n :: ns) = (M r (n :: ns) || M (none :: r) ns) := by rw [M]
theorem M_skip (r : List Pi) (ns : List (List UInt8)) (h : M r ns = true) : M (none :: r) ns = true := by
  cases ns with
  | nil => rw [M_many_nil]; exact h
  | cons n ns => rw [M_many, h]; rfl
theorem M_many_iff (r : List Pi) : ∀ ns : List (List UInt8), M (none :: r) ns = true ↔ ∃ i, i ≤ ns.length ∧ M r (ns.drop i) = true
  | [] => by
    rw [M_many_nil]
    constructor
    · intro h; exact ⟨0, by simp, by simpa using h⟩
    · rintro ⟨i, _, h⟩; simpa using h
  | n :: ns => by
    rw [M_many, Bool.or_eq_true, M_many_iff r ns]
    constructor
    · rintro (h | ⟨i, hi, h⟩)
      · exact ⟨0, by simp, by simpa using h⟩
      · exact ⟨i + 1, by simp; omega, by simpa using h⟩
    · rintro ⟨i, hi, h⟩
      cases i with
      | zero => exact .inl (by simpa using h)
      | succ i => exact .inr ⟨i, by simp at hi; omega, by simpa using h⟩
/-- do pieces mean names, as the document asks; several: the rule has more than one piece -/
def D (several : Bool) : List Pi → List (List UInt8) → Bool
  | [], ns => ns.isEmpty
  | some _ :: _, [] => false
  | some P :: r, n :: ns => mt P n && D several r ns
  | [none], ns => !ns.isEmpty || !several
  | none :: p :: r, ns => (List.range (ns.length + 1)).any fun i => D several (p :: r) (ns.drop i)
/-- the program's pieces: behind any number of names at the end, one -/
def endB (ps : List Pi) : Bool := match ps.getLast? with | some none => true | _ => false
def tail (ps : List Pi) : List Pi := if endB ps then [some [star]] else []
def own (ps : List Pi) : List Pi := if 1 < ps.length then ps ++ tail ps else ps
theorem mt_star_all (n : List UInt8) : mt [star] n = true := by
  rw [mt_star_iff _ _ rfl]
  exact ⟨n.length, Nat.le_refl _, by simp [mt_nil]⟩
theorem M_last (ns : List (List UInt8)) : M [none, some [star]] ns = !ns.isEmpty := by
  rw [Bool.eq_iff_iff, M_many_iff]
  constructor
  · rintro ⟨i, hi, h⟩
    cases ns with
    | nil => simp [M_one_nil] at h
    | cons n ns => rfl
  · intro h
    cases ns with
    | nil => cases h
    | cons n ns =>
      refine ⟨ns.length, by simp, ?_⟩
      have e : ∃ m, (n :: ns).drop ns.length = [m] := by
        have hl : ((n :: ns).drop ns.length).length = 1 := by simp
        match hd : (n :: ns).drop ns.length, hl with
        | [m], _ => exact ⟨m, rfl⟩
      obtain ⟨m, e⟩ := e
      rw [e, M_one, mt_star_all, M_nil]; rfl
theorem endB_cons (p q : Pi) (r : List Pi) : endB (p :: q :: r) = endB (q :: r) := by unfold endB; rw [List.getLast?_cons_cons]
theorem D_own : ∀ (ps : List Pi) (ns : List (List UInt8)), D true ps ns = M (ps ++ tail ps) ns
  | [], ns => by rw [show tail [] = [] from rfl, List.append_nil, M_nil, D]
  | [none], ns => by
    rw [show tail [none] = [some [star]] from rfl]
    show D true [none] ns = M [none, some [star]] ns
    rw [M_last, D]; simp
  | [some P], ns => by
    rw [show tail [some P] = [] from rfl, List.append_nil]
    cases ns with
    | nil => rw [M_one_nil, D]
    | cons n ns => rw [M_one, M_nil, D, D]
  | none :: p :: r, ns => by
    have ih := D_own (p :: r)
    have et : tail (none :: p :: r) = tail (p :: r) := by unfold tail; rw [endB_cons]
    rw [et]
    show D true (none :: p :: r) ns = M (none :: ((p :: r) ++ tail (p :: r))) ns
    rw [D, Bool.eq_iff_iff, M_many_iff, List.any_eq_true]
    constructor
    · rintro ⟨i, hi, h⟩
      exact ⟨i, by have := List.mem_range.1 hi; omega, by rw [← ih]; exact h⟩
    · rintro ⟨i, hi, h⟩
      exact ⟨i, List.mem_range.2 (by omega), by rw [ih]; exact h⟩
  | some P :: p :: r, ns => by
    have ih := D_own (p :: r)
    have et : tail (some P :: p :: r) = tail (p :: r) := by unfold tail; rw [endB_cons]
    rw [et]
    show D true (some P :: p :: r) ns = M (some P :: ((p :: r) ++ tail (p :: r))) ns
    cases ns with
    | nil => rw [M_one_nil, D]
    | cons n ns => rw [M_one, D, ih]
theorem fits_own (ps : List Pi) (ns : List (List UInt8)) : D (decide (1 < ps.length)) ps ns = M (own ps) ns := by
  unfold own
  by_cases h : 1 < ps.length
  · rw [if_pos h, decide_eq_true h]; exact D_own ps ns
  · rw [if_neg h, decide_eq_false h]
    match ps, h with
    | [], _ => rw [M_nil, D]
    | [some P], _ =>
      cases ns with
      | nil => rw [M_one_nil, D]
      | cons n ns => rw [M_one, M_nil, D, D]
    | [none], _ =>
      have : M [none] ns = true := (M_many_iff [] ns).2 ⟨ns.length, Nat.le_refl _, by simp [M_nil]⟩
      rw [this, D]; simp
    | _ :: _ :: _, h => simp at h
/-- a rule that is not rooted: the last name alone -/
theorem M_base (P : List Pt) (ns : List (List UInt8)) (n : List UInt8) : M [none, some P] (ns ++ [n]) = mt P n := by
  rw [Bool.eq_iff_iff, M_many_iff]
  constructor
  · rintro ⟨i, hi, h⟩
    match hd : (ns ++ [n]).drop i with
    | [] => rw [hd, M_one_nil] at h; cases h
    | [m] =>
      rw [hd, M_one, M_nil] at h
      have e : m = n := by
        have h1 : ((ns ++ [n]).drop i).getLast? = (ns ++ [n]).getLast? := by
          rw [List.getLast?_drop]
          have : ¬ (ns ++ [n]).length ≤ i := by
            intro hc
            rw [List.drop_eq_nil_of_le hc] at hd
            cases hd
          rw [if_neg this]
        rw [hd] at h1
        simpa using h1
      subst e
      simpa using h
    | m :: m' :: r =>
      rw [hd, M_one, M_nil] at h
      simp at h
  · intro h
    exact ⟨ns.length, by simp, by rw [List.drop_left, M_one, h, M_nil]; rfl⟩

/-! ### all beginnings at once -/
/-- how far one comes from a place without a name -/
def nn : List Pi → Nat
  | none :: r => nn r + 1
  | _ => 0
theorem nn_le : ∀ r : List Pi, nn r ≤ r.length
  | [] => by simp [nn]
  | none :: r => by have := nn_le r; simp [nn]; omega
  | some _ :: r => by simp [nn]
def up (ps : List Pi) (a : Nat) : Nat := a + nn (ps.drop a)
theorem up_none {ps : List Pi} {a : Nat} (h : ps[a]? = some none) : up ps a = up ps (a + 1) := by
  unfold up
  have e : ps.drop a = none :: ps.drop (a + 1) := by
    rw [List.drop_eq_getElem?_toList_append, h]; rfl
  rw [e, nn]
  omega
theorem up_stop {ps : List Pi} {a : Nat} (h : ps[a]? ≠ some none) : up ps a = a := by
  unfold up
  cases hp : ps[a]? with
  | none => rw [List.drop_eq_nil_of_le (by simpa using hp)]; simp [nn]
  | some x =>
    cases x with
    | none => exact absurd hp h
    | some P =>
      have e : ps.drop a = some P :: ps.drop (a + 1) := by rw [List.drop_eq_getElem?_toList_append, hp]; rfl
      rw [e]; simp [nn]
theorem up_ge (ps : List Pi) (a : Nat) : a ≤ up ps a := by unfold up; omega
/-- within a run the end is the same -/
theorem up_in {ps : List Pi} : ∀ (d a : Nat), a + d ≤ up ps a → up ps (a + d) = up ps a
  | 0, a, _ => rfl
  | d + 1, a, h => by
    have hn : ps[a]? = some none := by
      by_cases hc : ps[a]? = some none
      · exact hc
      · rw [up_stop hc] at h; omega
    have e := up_none hn
    have := up_in (ps := ps) d (a + 1) (by omega)
    rw [show a + (d + 1) = a + 1 + d by omega, this, e]
theorem up_le {ps : List Pi} {a : Nat} (h : a ≤ ps.length) : up ps a ≤ ps.length := by
  unfold up
  have := nn_le (ps.drop a)
  rw [List.length_drop] at this
  omega
/-- the places of a run -/
def run (ps : List Pi) (a : Nat) : List Nat := (List.range (nn (ps.drop a) + 1)).map (a + ·)
theorem mem_run {ps : List Pi} {a k : Nat} : k ∈ run ps a ↔ a ≤ k ∧ k ≤ up ps a := by
  unfold run up
  rw [List.mem_map]
  constructor
  · rintro ⟨d, hd, rfl⟩
    have := List.mem_range.1 hd
    omega
  · rintro ⟨h1, h2⟩
    exact ⟨k - a, List.mem_range.2 (by omega), by omega⟩
theorem run_last (ps : List Pi) (a : Nat) : (run ps a).getLast? = some (up ps a) := by
  unfold run up
  rw [List.range_succ, List.map_append, List.map_cons, List.map_nil, List.getLast?_append]
  rfl
theorem run_rises (ps : List Pi) (a : Nat) : (run ps a).Pairwise (· < ·) := by
  unfold run
  rw [List.pairwise_map]
  exact List.pairwise_lt_range.imp fun h => by omega
/-- a place and those behind it, where they are not there already -/
def reachL (ps : List Pi) (pl : List Nat) (a : Nat) : List Nat := match pl.getLast? with
  | none => pl ++ run ps a
  | some e => if a ≤ e then pl else pl ++ run ps a
/-- places that rise; the last ones are a run that begins no later than at c -/
structure Fine (ps : List Pi) (pl : List Nat) (c : Nat) : Prop where
  rises : pl.Pairwise (· < ·)
  last : ∀ e, pl.getLast? = some e → ∃ b, b ≤ c ∧ b ≤ e ∧ e = up ps b ∧ (∀ x, b ≤ x → x ≤ e → x ∈ pl) ∧ ∀ x ∈ pl, x ≤ e
theorem Fine.nil (ps : List Pi) (c : Nat) : Fine ps [] c := ⟨List.Pairwise.nil, by simp⟩
theorem Fine.mono {ps : List Pi} {pl : List Nat} {c d : Nat} (h : Fine ps pl c) (hd : c ≤ d) : Fine ps pl d :=
  ⟨h.rises, fun e he => by obtain ⟨b, h1, h2⟩ := h.last e he; exact ⟨b, by omega, h2⟩⟩
theorem reach_fine {ps : List Pi} {pl : List Nat} {c a : Nat} (h : Fine ps pl c) (ha : c ≤ a) : Fine ps (reachL ps pl a) a ∧ ∀ k, k ∈ reachL ps pl a ↔ k ∈ pl ∨ (a ≤ k ∧ k ≤ up ps a) := by
  have key : (∀ x ∈ pl, x < a) → Fine ps (pl ++ run ps a) a ∧ ∀ k, k ∈ pl ++ run ps a ↔ k ∈ pl ∨ (a ≤ k ∧ k ≤ up ps a) := by
    intro hlt
    refine ⟨⟨List.pairwise_append.2 ⟨h.rises, run_rises ps a, fun x hx y hy => ?_⟩, fun e he => ?_⟩, fun k => by rw [List.mem_append, mem_run]⟩
    · have := hlt x hx
      have := (mem_run.1 hy).1
      omega
    · rw [List.getLast?_append, run_last] at he
      simp at he
      subst he
      refine ⟨a, Nat.le_refl _, up_ge ps a, rfl, fun x h1 h2 => List.mem_append.2 (.inr (mem_run.2 ⟨h1, h2⟩)), fun x hx => ?_⟩
      rcases List.mem_append.1 hx with hx | hx
      · have := hlt x hx; have := up_ge ps a; omega
      · exact (mem_run.1 hx).2
  unfold reachL
  cases hl : pl.getLast? with
  | none =>
    rw [List.getLast?_eq_none_iff] at hl
    subst hl
    exact key (by simp)
  | some e =>
    obtain ⟨b, h1, h2, h3, h4, h5⟩ := h.last e hl
    by_cases hae : a ≤ e
    · simp only [hae, if_true]
      have eu : up ps a = e := by
        have := up_in (ps := ps) (a - b) b (by omega)
        rw [show b + (a - b) = a by omega] at this
        omega
      refine ⟨h.mono ha, fun k => ⟨.inl, ?_⟩⟩
      rintro (hk | ⟨k1, k2⟩)
      · exact hk
      · exact h4 k (by omega) (by omega)
    · simp only [hae, if_false]
      exact key fun x hx => by have := h5 x hx; omega
/-- what one name does -/
def stepG (ps : List Pi) (n : List UInt8) : List Nat → List Nat → List Nat
  | nx, [] => nx
  | nx, a :: r => match ps[a]? with
    | none => nx
    | some none => stepG ps n (reachL ps nx a) r
    | some (some P) => if mt P n then stepG ps n (reachL ps nx (a + 1)) r else stepG ps n nx r
/-- a place is reached from another by a name -/
def Goes (ps : List Pi) (n : List UInt8) (a k : Nat) : Prop := (ps[a]? = some none ∧ a ≤ k ∧ k ≤ up ps a) ∨ ∃ P, ps[a]? = some (some P) ∧ mt P n = true ∧ a + 1 ≤ k ∧ k ≤ up ps (a + 1)
theorem goes_lt {ps : List Pi} {n : List UInt8} {a k : Nat} (h : Goes ps n a k) : a < ps.length := by
  rcases Nat.lt_or_ge a ps.length with h' | h'
  · exact h'
  · have e := List.getElem?_eq_none h'
    rcases h with ⟨h, _⟩ | ⟨P, h, _⟩ <;> (rw [e] at h; cases h)
theorem stepG_spec {ps : List Pi} {n : List UInt8} : ∀ (pl nx : List Nat) (c : Nat), pl.Pairwise (· < ·) → Fine ps nx c → (∀ a ∈ pl, c ≤ a) →
    (∃ d, Fine ps (stepG ps n nx pl) d) ∧ ∀ k, k ∈ stepG ps n nx pl ↔ k ∈ nx ∨ ∃ a ∈ pl, Goes ps n a k
  | [], nx, c, _, hf, _ => ⟨⟨c, hf⟩, fun k => by simp [stepG]⟩
  | a :: r, nx, c, hp, hf, hc => by
    have hca := hc a (by simp)
    obtain ⟨hp1, hp2⟩ := List.pairwise_cons.1 hp
    unfold stepG
    cases ha : ps[a]? with
    | none =>
      have hge : ps.length ≤ a := by simpa using ha
      refine ⟨⟨c, hf⟩, fun k => ⟨.inl, ?_⟩⟩
      rintro (h | ⟨x, hx, hg⟩)
      · exact h
      · have := goes_lt hg
        rcases List.mem_cons.1 hx with rfl | hx
        · omega
        · have := hp1 x hx; omega
    | some q =>
      cases q with
      | none =>
        obtain ⟨hf', hm⟩ := reach_fine hf hca
        obtain ⟨h1, h2⟩ := stepG_spec r (reachL ps nx a) a hp2 hf' (fun x hx => Nat.le_of_lt (hp1 x hx))
        refine ⟨h1, fun k => ?_⟩
        simp only
        rw [h2, hm]
        constructor
        · rintro ((h | h) | ⟨x, hx, hg⟩)
          · exact .inl h
          · exact .inr ⟨a, by simp, .inl ⟨ha, h⟩⟩
          · exact .inr ⟨x, by simp [hx], hg⟩
        · rintro (h | ⟨x, hx, hg⟩)
          · exact .inl (.inl h)
          · rcases List.mem_cons.1 hx with rfl | hx
            · rcases hg with ⟨_, h⟩ | ⟨P, h, _⟩
              · exact .inl (.inr h)
              · rw [ha] at h; cases h
            · exact .inr ⟨x, hx, hg⟩
      | some P =>
        simp only
        cases hm : mt P n with
        | true =>
          simp only [if_true]
          obtain ⟨hf', hm'⟩ := reach_fine hf (show c ≤ a + 1 by omega)
          obtain ⟨h1, h2⟩ := stepG_spec r (reachL ps nx (a + 1)) (a + 1) hp2 hf' (fun x hx => hp1 x hx)
          refine ⟨h1, fun k => ?_⟩
          rw [h2, hm']
          constructor
          · rintro ((h | h) | ⟨x, hx, hg⟩)
            · exact .inl h
            · exact .inr ⟨a, by simp, .inr ⟨P, ha, hm, h⟩⟩
            · exact .inr ⟨x, by simp [hx], hg⟩
          · rintro (h | ⟨x, hx, hg⟩)
            · exact .inl (.inl h)
            · rcases List.mem_cons.1 hx with rfl | hx
              · rcases hg with ⟨h, _⟩ | ⟨P', h, _, h'⟩
                · rw [ha] at h; cases h
                · exact .inl (.inr h')
              · exact .inr ⟨x, hx, hg⟩
        | false =>
          simp only [Bool.false_eq_true, if_false]
          obtain ⟨h1, h2⟩ := stepG_spec r nx c hp2 hf (fun x hx => hc x (by simp [hx]))
          refine ⟨h1, fun k => ?_⟩
          rw [h2]
          constructor
          · rintro (h | ⟨x, hx, hg⟩)
            · exact .inl h
            · exact .inr ⟨x, by simp [hx], hg⟩
          · rintro (h | ⟨x, hx, hg⟩)
            · exact .inl h
            · rcases List.mem_cons.1 hx with rfl | hx
              · rcases hg with ⟨h, _⟩ | ⟨P', h, h', _⟩
                · rw [ha] at h; cases h
                · rw [ha] at h; cases h; rw [hm] at h'; cases h'
              · exact .inr ⟨x, hx, hg⟩
/-- places from which all is there that one reaches without a name -/
def Shut (ps : List Pi) (pl : List Nat) : Prop := ∀ a ∈ pl, a ≤ ps.length ∧ ∀ k, a ≤ k → k ≤ up ps a → k ∈ pl
theorem goes_shut {ps : List Pi} {n : List UInt8} {a k : Nat} (h : Goes ps n a k) : k ≤ ps.length ∧ ∀ j, k ≤ j → j ≤ up ps k → Goes ps n a j := by
  have hlt := goes_lt h
  rcases h with ⟨h1, h2, h3⟩ | ⟨P, h1, hm, h2, h3⟩
  · have e := up_in (ps := ps) (k - a) a (by omega)
    rw [show a + (k - a) = k by omega] at e
    have := up_le (ps := ps) (a := a) (by omega)
    exact ⟨by omega, fun j j1 j2 => .inl ⟨h1, by omega, by omega⟩⟩
  · have e := up_in (ps := ps) (k - (a + 1)) (a + 1) (by omega)
    rw [show a + 1 + (k - (a + 1)) = k by omega] at e
    have := up_le (ps := ps) (a := a + 1) (by omega)
    exact ⟨by omega, fun j j1 j2 => .inr ⟨P, h1, hm, by omega, by omega⟩⟩
theorem step_shut {ps : List Pi} {n : List UInt8} {pl : List Nat} (hp : pl.Pairwise (· < ·)) : Shut ps (stepG ps n [] pl) := by
  obtain ⟨_, h⟩ := stepG_spec (ps := ps) (n := n) pl [] 0 hp (Fine.nil _ _) (fun _ _ => Nat.zero_le _)
  intro k hk
  rcases (h k).1 hk with hk | ⟨a, ha, hg⟩
  · cases hk
  · obtain ⟨h1, h2⟩ := goes_shut hg
    exact ⟨h1, fun j j1 j2 => (h j).2 (.inr ⟨a, ha, h2 j j1 j2⟩)⟩
theorem step_rises {ps : List Pi} {n : List UInt8} {pl : List Nat} (hp : pl.Pairwise (· < ·)) : (stepG ps n [] pl).Pairwise (· < ·) := by
  obtain ⟨⟨_, h⟩, _⟩ := stepG_spec (ps := ps) (n := n) pl [] 0 hp (Fine.nil _ _) (fun _ _ => Nat.zero_le _)
  exact h.rises
/-- behind several names -/
def runs (ps : List Pi) : List Nat → List (List UInt8) → List Nat
  | pl, [] => pl
  | pl, n :: ns => runs ps (stepG ps n [] pl) ns
theorem drop_some {ps : List Pi} {a : Nat} {q : Pi} (h : ps[a]? = some q) : ps.drop a = q :: ps.drop (a + 1) := by
  rw [List.drop_eq_getElem?_toList_append, h]; rfl
theorem M_down {ps : List Pi} {ns : List (List UInt8)} : ∀ (d a : Nat), a + d ≤ up ps a → M (ps.drop (a + d)) ns = true → M (ps.drop a) ns = true
  | 0, a, _, h => h
  | d + 1, a, hu, h => by
    have hn : ps[a]? = some none := by
      by_cases hc : ps[a]? = some none
      · exact hc
      · rw [up_stop hc] at hu; omega
    have e := up_none hn
    rw [drop_some hn]
    refine M_skip _ _ (M_down d (a + 1) (by omega) ?_)
    rw [show a + 1 + d = a + (d + 1) by omega]; exact h
theorem M_empty {ps : List Pi} : ∀ (d a : Nat), a + d = ps.length → M (ps.drop a) [] = true → up ps a = ps.length
  | 0, a, hd, _ => by
    rw [up_stop (by rw [List.getElem?_eq_none (by omega)]; simp)]; omega
  | d + 1, a, hd, h => by
    have hlt : a < ps.length := by omega
    have ha : ps[a]? = some ps[a] := List.getElem?_eq_getElem hlt
    rw [drop_some ha] at h
    cases hq : ps[a] with
    | none =>
      rw [hq] at h ha
      rw [M_many_nil] at h
      rw [up_none ha]
      exact M_empty d (a + 1) (by omega) h
    | some P => rw [hq, M_one_nil] at h; cases h
theorem M_goes {ps : List Pi} {n : List UInt8} {ns : List (List UInt8)} {pl : List Nat} (hs : Shut ps pl) : ∀ (d a : Nat), a + d = ps.length → a ∈ pl → M (ps.drop a) (n :: ns) = true → ∃ b ∈ pl, ∃ k, Goes ps n b k ∧ M (ps.drop k) ns = true
  | 0, a, hd, _, h => by
    rw [List.drop_eq_nil_of_le (by omega), M_nil] at h; cases h
  | d + 1, a, hd, ha, h => by
    have hlt : a < ps.length := by omega
    have hq : ps[a]? = some ps[a] := List.getElem?_eq_getElem hlt
    rw [drop_some hq] at h
    cases he : ps[a] with
    | none =>
      rw [he] at h hq
      rw [M_many, Bool.or_eq_true] at h
      rcases h with h | h
      · refine M_goes hs d (a + 1) (by omega) ((hs a ha).2 (a + 1) (by omega) ?_) h
        rw [up_none hq]; exact up_ge _ _
      · exact ⟨a, ha, a, .inl ⟨hq, Nat.le_refl _, up_ge _ _⟩, by rw [drop_some hq]; exact h⟩
    | some P =>
      rw [he] at h hq
      rw [M_one, Bool.and_eq_true] at h
      exact ⟨a, ha, a + 1, .inr ⟨P, hq, h.1, Nat.le_refl _, up_ge _ _⟩, h.2⟩
theorem runs_spec {ps : List Pi} : ∀ (ns : List (List UInt8)) (pl : List Nat), pl.Pairwise (· < ·) → Shut ps pl → (ps.length ∈ runs ps pl ns ↔ ∃ a ∈ pl, M (ps.drop a) ns = true)
  | [], pl, _, hs => by
    unfold runs
    constructor
    · intro h; exact ⟨_, h, by rw [List.drop_length, M_nil]; rfl⟩
    · rintro ⟨a, ha, h⟩
      obtain ⟨h1, h2⟩ := hs a ha
      have e := M_empty (ps.length - a) a (by omega) h
      exact h2 _ h1 (by omega)
  | n :: ns, pl, hp, hs => by
    unfold runs
    rw [runs_spec ns _ (step_rises hp) (step_shut hp)]
    obtain ⟨_, hm⟩ := stepG_spec (ps := ps) (n := n) pl [] 0 hp (Fine.nil _ _) (fun _ _ => Nat.zero_le _)
    constructor
    · rintro ⟨k, hk, h⟩
      rcases (hm k).1 hk with hk | ⟨a, ha, hg⟩
      · cases hk
      · refine ⟨a, ha, ?_⟩
        rcases hg with ⟨hq, h1, h2⟩ | ⟨P, hq, hmt, h1, h2⟩
        · have := M_down (ps := ps) (ns := ns) (k - a) a (by omega) (by rw [show a + (k - a) = k by omega]; exact h)
          rw [drop_some hq] at this ⊢
          rw [M_many, this, Bool.or_true]
        · have := M_down (ps := ps) (ns := ns) (k - (a + 1)) (a + 1) (by omega) (by rw [show a + 1 + (k - (a + 1)) = k by omega]; exact h)
          rw [drop_some hq, M_one, hmt, this]; rfl
    · rintro ⟨a, ha, h⟩
      obtain ⟨b, hb, k, hg, hk⟩ := M_goes hs (ps.length - a) a (by have := (hs a ha).1; omega) ha h
      exact ⟨k, (hm k).2 (.inr ⟨b, hb, hg⟩), hk⟩
/-- the places ahead of all names -/
def first (ps : List Pi) : List Nat := reachL ps [] 0
theorem runs_means (ps : List Pi) (ns : List (List UInt8)) : (ps.length ∈ runs ps (first ps) ns) ↔ M ps ns = true := by
  have e : first ps = run ps 0 := rfl
  rw [runs_spec ns _ (by rw [e]; exact run_rises _ _)]
  · rw [e]
    constructor
    · rintro ⟨a, ha, h⟩
      have := mem_run.1 ha
      have := M_down (ps := ps) (ns := ns) a 0 (by omega) (by rw [Nat.zero_add]; exact h)
      simpa using this
    · intro h
      exact ⟨0, mem_run.2 ⟨Nat.le_refl _, up_ge _ _⟩, by simpa using h⟩
  · intro a ha
    rw [e] at ha ⊢
    have h := mem_run.1 ha
    have e2 := up_in (ps := ps) a 0 (by omega)
    rw [Nat.zero_add] at e2
    have := up_le (ps := ps) (a := 0) (Nat.zero_le _)
    exact ⟨by omega, fun k k1 k2 => mem_run.2 ⟨by omega, by omega⟩⟩
theorem runs_snoc (ps : List Pi) : ∀ (ns : List (List UInt8)) (pl : List Nat) (n : List UInt8), runs ps pl (ns ++ [n]) = stepG ps n [] (runs ps pl ns)
  | [], _, _ => rfl
  | _ :: ns, _, n => runs_snoc ps ns _ n
theorem runs_nil (ps : List Pi) : ∀ ns : List (List UInt8), runs ps [] ns = []
  | [] => rfl
  | _ :: ns => runs_nil ps ns
end Go.Proofs.YtfjhjhjdneihbaaGreatDoor.Pg
