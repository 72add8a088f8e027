/-
  Plain: what rules ignore, beginning by beginning; what lies below; rules told twice, taken back; the rules of two texts.
-/
import Derived.Test.YtfjhjhjdneihbaaGreatDoorHb
import Derived.Test.YtfjhjhjdneihbaaGreatDoorPe
namespace Go.Proofs.YtfjhjhjdneihbaaGreatDoor
open Go.RowKit

/-! ### one beginning -/
def stp1 (names : List (List UInt8)) (d : Bool) (b : Bool) (r : Ru) : Bool := if (Pg.M r.ps names && (d || !r.dirs)) = true then !r.back else b
/-- whether the last rule that means these names ignores them -/
def igS (rs : List Ru) (names : List (List UInt8)) (d : Bool) : Bool := rs.foldl (stp1 names d) false
theorem ign_fold (dir : Bool) (ns : List (List UInt8)) (i : Nat) : ∀ (rs : List Ru) (f : Nat → Bool), ign dir ns rs f i = rs.foldl (stp1 (ns.take (i + 1)) (dir || decide (i + 1 < ns.length))) (f i)
  | [], _ => rfl
  | r :: rs, f => by
    rw [ign, ign_fold dir ns i rs, List.foldl_cons]
    rfl
theorem igP_iff (rs : List Ru) (p : List UInt8) (dir : Bool) : igP rs p dir = true ↔ ∃ i, i < (nms p).length ∧ igS rs ((nms p).take (i + 1)) (dir || decide (i + 1 < (nms p).length)) = true := by
  unfold igP
  rw [List.any_eq_true]
  constructor
  · rintro ⟨i, hi, h⟩
    rw [ign_fold] at h
    exact ⟨i, List.mem_range.1 hi, h⟩
  · rintro ⟨i, hi, h⟩
    exact ⟨i, List.mem_range.2 hi, by rw [ign_fold]; exact h⟩
theorem fold_kind (names : List (List UInt8)) (d : Bool) : ∀ rs : List Ru, (∀ b, rs.foldl (stp1 names d) b = b) ∨ ∃ x, ∀ b, rs.foldl (stp1 names d) b = x
  | [] => .inl fun _ => rfl
  | r :: rs => by
    rcases fold_kind names d rs with h | ⟨x, h⟩
    · by_cases hm : (Pg.M r.ps names && (d || !r.dirs)) = true
      · exact .inr ⟨!r.back, fun b => by rw [List.foldl_cons, h, stp1, if_pos hm]⟩
      · exact .inl fun b => by rw [List.foldl_cons, h, stp1, if_neg hm]
    · exact .inr ⟨x, fun b => by rw [List.foldl_cons, h]⟩
theorem igS_twice (rs : List Ru) (names : List (List UInt8)) (d : Bool) : igS (rs ++ rs) names d = igS rs names d := by
  unfold igS
  rw [List.foldl_append]
  rcases fold_kind names d rs with h | ⟨x, h⟩
  · rw [h]
  · rw [h, h]
theorem igP_twice (rs : List Ru) (p : List UInt8) (dir : Bool) : igP (rs ++ rs) p dir = igP rs p dir := by
  rw [Bool.eq_iff_iff, igP_iff, igP_iff]
  simp only [igS_twice]
/-- a rule and the same taken back -/
theorem igS_back (rs : List Ru) (ps : List Pg.Pi) (names : List (List UInt8)) (d : Bool) (h : igS (rs ++ [⟨ps, false, false⟩, ⟨ps, false, true⟩]) names d = true) : igS rs names d = true := by
  unfold igS at h ⊢
  rw [List.foldl_append] at h
  simp only [List.foldl_cons, List.foldl_nil, stp1] at h
  by_cases hm : (Pg.M ps names && (d || !false)) = true
  · rw [if_pos hm] at h; cases h
  · rw [if_neg hm, if_neg hm] at h; exact h
theorem igP_back (rs : List Ru) (ps : List Pg.Pi) (p : List UInt8) (dir : Bool) (h : igP (rs ++ [⟨ps, false, false⟩, ⟨ps, false, true⟩]) p dir = true) : igP rs p dir = true := by
  rw [igP_iff] at h ⊢
  obtain ⟨i, hi, h⟩ := h
  exact ⟨i, hi, igS_back _ _ _ _ h⟩
/-! ### the names of a path -/
theorem pieces_app : ∀ a b : List UInt8, Pp.pieces (a ++ 47 :: b) = Pp.pieces a ++ Pp.pieces b
  | [], b => by simp [Pp.pieces]
  | c :: a, b => by
    have ih := pieces_app a b
    have hne := Pp.pieces_ne a
    rw [List.cons_append, Pp.pieces, Pp.pieces, ih]
    split
    · rfl
    · cases hp : Pp.pieces a with
      | nil => exact absurd hp hne
      | cons y t => simp
theorem nms_app (a b : List UInt8) : nms (a ++ 47 :: b) = nms a ++ nms b := by unfold nms; rw [pieces_app, List.filter_append]
theorem nms_one (a : List UInt8) (h : a ≠ []) (h2 : (47 : UInt8) ∉ a) : nms a = [a] := by
  unfold nms
  rw [Pp.pieces_none a h2]
  cases a with
  | nil => exact absurd rfl h
  | cons c r => rfl
/-- what lies below is ignored -/
theorem igP_below (rs : List Ru) (p n : List UInt8) (h : igP rs p true = true) : igP rs (p ++ 47 :: (n ++ 47 :: [120])) false = true := by
  rw [igP_iff] at h ⊢
  obtain ⟨i, hi, h⟩ := h
  have e : nms (p ++ 47 :: (n ++ 47 :: [120])) = nms p ++ (nms n ++ [[120]]) := by rw [nms_app, nms_app]; rfl
  rw [e]
  refine ⟨i, by rw [List.length_append]; omega, ?_⟩
  have hl : i + 1 < (nms p ++ (nms n ++ [[120]])).length := by rw [List.length_append, List.length_append, List.length_singleton]; omega
  rw [List.take_append_of_le_length (by omega), decide_eq_true hl, Bool.or_true]
  rw [Bool.true_or] at h
  exact h
/-- a rule of one name -/
theorem igP_name (n p : List UInt8) : igP [⟨[none, some (n.map Pg.lit)], false, false⟩] p false = true ↔ n ∈ nms p := by
  rw [igP_iff]
  have key : ∀ i, (hi : i < (nms p).length) → (igS [⟨[none, some (n.map Pg.lit)], false, false⟩] ((nms p).take (i + 1)) (false || decide (i + 1 < (nms p).length)) = true ↔ n = (nms p)[i]) := by
    intro i hi
    have e : (nms p).take (i + 1) = (nms p).take i ++ [(nms p)[i]] := by rw [List.take_add_one, List.getElem?_eq_getElem hi]; rfl
    unfold igS
    rw [List.foldl_cons, List.foldl_nil, stp1, e, Pg.M_base, Pg.mt_lits]
    by_cases h : n = (nms p)[i]
    · simp [h]
    · simp [h]
  constructor
  · rintro ⟨i, hi, h⟩
    rw [(key i hi).1 h]
    exact List.getElem_mem hi
  · intro h
    obtain ⟨i, hi, h⟩ := List.getElem_of_mem h
    exact ⟨i, hi, (key i hi).2 h.symm⟩
/-! ### the lines of a text -/
def spl : List UInt8 → List (List UInt8)
  | [] => [[]]
  | c :: r => if c = 10 then [] :: spl r else (c :: (spl r).headD []) :: (spl r).tail
theorem spl_ne : ∀ l, spl l ≠ []
  | [] => by simp [spl]
  | c :: r => by unfold spl; split <;> simp
theorem spl_none : ∀ l : List UInt8, (10 : UInt8) ∉ l → spl l = [l]
  | [], _ => rfl
  | c :: r, h => by
    have hc : c ≠ 10 := fun e => h (by simp [e])
    rw [spl, if_neg hc, spl_none r (fun e => h (by simp [e]))]
    rfl
theorem spl_app : ∀ a b : List UInt8, spl (a ++ 10 :: b) = spl a ++ spl b
  | [], b => by simp [spl]
  | c :: a, b => by
    have ih := spl_app a b
    have hne := spl_ne a
    rw [List.cons_append, spl, spl, ih]
    split
    · rfl
    · cases hp : spl a with
      | nil => exact absurd hp hne
      | cons y t => simp
theorem index_end (l : List UInt8) : (Lib.index l [10] = -1 ∧ (10 : UInt8) ∉ l) ∨ ∃ i : Nat, Lib.index l [10] = i ∧ i < l.length ∧ l = l.take i ++ 10 :: l.drop (i + 1) ∧ (10 : UInt8) ∉ l.take i := by
  rw [Lib.index_one]
  induction l with
  | nil => exact .inl ⟨rfl, by simp⟩
  | cons c r ih =>
    unfold Lib.indexByte
    by_cases hc : c = 10
    · refine .inr ⟨0, by rw [hc]; rfl, by simp, by simp [hc], by simp⟩
    · have e : (c == 10) = false := beq_eq_false_iff_ne.2 hc
      rw [if_neg (by rw [e]; simp)]
      rcases ih with ⟨h1, h2⟩ | ⟨i, h1, h2, h3, h4⟩
      · refine .inl ⟨by rw [h1]; rfl, fun h => ?_⟩
        rcases List.mem_cons.1 h with h | h
        · exact hc h.symm
        · exact h2 h
      · refine .inr ⟨i + 1, ?_, by simpa using h2, ?_, ?_⟩
        · rw [h1, if_neg (by simp)]; omega
        · rw [List.take_succ_cons, List.drop_succ_cons, List.cons_append, ← h3]
        · rw [List.take_succ_cons]
          intro h
          rcases List.mem_cons.1 h with h | h
          · exact hc h.symm
          · exact h4 h
theorem cut_spl (l : List UInt8) : ((10 : UInt8) ∉ l ∧ Lib.cut l [10] = (l, [], false) ∧ spl l = [l]) ∨ (spl l = (Lib.cut l [10]).1 :: spl (Lib.cut l [10]).2.1) := by
  rcases index_end l with ⟨h1, h2⟩ | ⟨i, h1, h2, h3, h4⟩
  · refine .inl ⟨h2, ?_, spl_none l h2⟩
    unfold Lib.cut
    rw [h1, if_neg (by simp)]
  · have e : Lib.cut l [10] = (l.take i, l.drop (i + 1), true) := by
      unfold Lib.cut
      rw [h1, if_pos (by omega)]
      rfl
    refine .inr ?_
    rw [e]
    conv => lhs; rw [h3]
    rw [spl_app, spl_none _ h4]
    rfl
/-- the rules of one line -/
def rlN (x : List UInt8) : Option (List Ru) := if trm x = [] ∨ Lib.hasPrefix (trm x) [35] = true then some [] else (ruP (trm x)).map ([·])
def rll : List (List UInt8) → Option (List Ru)
  | [] => some []
  | x :: r => match rlN x with
    | none => none
    | some a => (rll r).map (a ++ ·)
theorem rll_append : ∀ a b : List (List UInt8), rll (a ++ b) = match rll a with | none => none | some x => (rll b).map (x ++ ·)
  | [], b => by cases h : rll b <;> simp [rll, h]
  | x :: a, b => by
    rw [List.cons_append, rll, rll, rll_append a b]
    cases rlN x with
    | none => rfl
    | some y =>
      cases rll a with
      | none => rfl
      | some z => cases rll b <;> simp
theorem rll_one (x : List UInt8) (a : List Ru) (h : rlN x = some a) (r : List (List UInt8)) : rll (x :: r) = (rll r).map (a ++ ·) := by rw [rll, h]
theorem rlN_nil : rlN [] = some [] := by unfold rlN; rw [if_pos (.inl rfl)]
/-- what Read reads, line by line -/
theorem rdF_rll : ∀ (f : Nat) (l : List UInt8) (k : Nat) (rs : List Ru), l.length ≤ f → match rdF f l k rs with | .inl _ => rll (spl l) = none | .inr R => (rll (spl l)).map (rs ++ ·) = some R
  | 0, l, k, rs, h => by
    have e : l = [] := List.length_eq_zero_iff.1 (Nat.le_zero.1 h)
    subst e
    show (rll [[]]).map _ = _
    rw [rll_one _ _ rlN_nil]
    simp [rll]
  | f + 1, l, k, rs, h => by
    by_cases hl : l = []
    · rw [rdF, if_pos hl, hl]
      show (rll [[]]).map _ = _
      rw [rll_one _ _ rlN_nil]
      simp [rll]
    · have hlt := cut_rest l hl
      have hs : rll (spl l) = match rlN (Lib.cut l [10]).1 with | none => none | some a => (rll (spl (Lib.cut l [10]).2.1)).map (a ++ ·) := by
        rcases cut_spl l with ⟨_, h2, h3⟩ | h3
        · rw [h3, h2, rll]
          show _ = match rlN l with | none => none | some a => (rll [[]]).map (a ++ ·)
          rw [rll_one _ _ rlN_nil]
          rfl
        · rw [h3, rll]
      rw [hs, rdF, if_neg hl]
      unfold rlN
      by_cases hc : trm (Lib.cut l [10]).1 = [] ∨ Lib.hasPrefix (trm (Lib.cut l [10]).1) [35] = true
      · rw [if_pos hc, if_pos hc]
        have ih := rdF_rll f (Lib.cut l [10]).2.1 (k + 1) rs (by omega)
        simp only [List.nil_append, Option.map_id']
        exact ih
      · rw [if_neg hc, if_neg hc]
        cases hr : ruP (trm (Lib.cut l [10]).1) with
        | none => rfl
        | some r =>
          have ih := rdF_rll f (Lib.cut l [10]).2.1 (k + 1) (rs ++ [r]) (by omega)
          simp only [Option.map_some]
          cases hq : rdF f (Lib.cut l [10]).2.1 (k + 1) (rs ++ [r]) with
          | inl y => rw [hq] at ih; simp only at ih ⊢; rw [ih]; rfl
          | inr R =>
            rw [hq] at ih
            simp only at ih ⊢
            rw [← ih, Option.map_map]
            congr 1
            funext x
            simp
end Go.Proofs.YtfjhjhjdneihbaaGreatDoor
