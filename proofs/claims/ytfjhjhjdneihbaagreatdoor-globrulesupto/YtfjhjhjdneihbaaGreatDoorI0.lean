/-
  Plain: the document's rules held against the program's: lines, blanks at the end, a rule, what is ignored.
-/
import Derived.Test.YtfjhjhjdneihbaaGreatDoorHp
namespace Go.Proofs.YtfjhjhjdneihbaaGreatDoor

/-! ### lines -/
def lnF : Nat → List UInt8 → List (List UInt8)
  | 0, _ => []
  | f + 1, l => if l = [] then [] else (Lib.cut l [10]).1 :: lnF f (Lib.cut l [10]).2.1
def lns (l : List UInt8) : List (List UInt8) := lnF l.length l
theorem lnF_fuel : ∀ (f g : Nat) (l : List UInt8), l.length ≤ f → l.length ≤ g → lnF f l = lnF g l
  | 0, 0, _, _, _ => rfl
  | 0, g + 1, l, h, _ => by
    have : l = [] := List.length_eq_zero_iff.1 (by omega)
    subst this; rfl
  | f + 1, 0, l, _, h => by
    have : l = [] := List.length_eq_zero_iff.1 (by omega)
    subst this; rfl
  | f + 1, g + 1, l, h1, h2 => by
    unfold lnF
    by_cases e : l = []
    · rw [if_pos e, if_pos e]
    · have := cut_rest l e
      rw [if_neg e, if_neg e, lnF_fuel f g _ (by omega) (by omega)]
theorem lns_nil : lns [] = [] := rfl
theorem lns_cons (l : List UInt8) (h : l ≠ []) : lns l = (Lib.cut l [10]).1 :: lns (Lib.cut l [10]).2.1 := by
  have h1 := cut_rest l h
  unfold lns
  obtain ⟨n, hn⟩ : ∃ n, l.length = n + 1 := ⟨l.length - 1, by have := List.length_pos_iff.2 h; omega⟩
  conv => lhs; rw [hn]
  rw [lnF, if_neg h, lnF_fuel n _ _ (by omega) (Nat.le_refl _)]
theorem lns_hit (a b : List UInt8) (h : (10 : UInt8) ∉ a) : lns (a ++ 10 :: b) = a :: lns b := by
  have hne : a ++ 10 :: b ≠ [] := by simp
  rw [lns_cons _ hne]
  have e : Lib.cut (a ++ 10 :: b) [10] = (a, b, true) := by
    rcases index_end (a ++ 10 :: b) with ⟨_, h2⟩ | ⟨i, h1, h2, h3, h4⟩
    · exact absurd (by simp) h2
    · have hi : i = a.length := by
        rcases Nat.lt_trichotomy i a.length with r | r | r
        · exfalso
          have h5 : (a ++ 10 :: b)[i]? = some 10 := by
            conv => lhs; rw [h3]
            rw [List.getElem?_append_right (by rw [List.length_take]; omega), List.length_take, show i - min i (a ++ 10 :: b).length = 0 by omega]
            rfl
          rw [List.getElem?_append_left r] at h5
          exact h (List.mem_of_getElem? h5)
        · exact r
        · exfalso
          apply h4
          refine List.mem_of_getElem? (i := a.length) ?_
          rw [List.getElem?_take, if_pos r, List.getElem?_append_right (Nat.le_refl _), Nat.sub_self]
          rfl
      subst hi
      unfold Lib.cut
      rw [h1, if_pos (by omega), show ((a.length : Int)).toNat = a.length by omega, List.take_left]
      congr 2
      rw [show ([10] : List UInt8).length = 1 from rfl, List.drop_append, List.drop_of_length_le (by omega), show a.length + 1 - a.length = 1 by omega]
      rfl
  rw [e]
theorem lns_last (a : List UInt8) (h : (10 : UInt8) ∉ a) (hne : a ≠ []) : lns a = [a] := by
  rw [lns_cons a hne]
  rcases cut_spl a with ⟨_, h2, _⟩ | h2
  · rw [h2]; rfl
  · exfalso
    rw [spl_none a h] at h2
    injection h2 with h3 h4
    exact spl_ne _ h4.symm
/-- the rules of lines -/
def rdL : List (List UInt8) → Nat → List Ru → Sum (Nat × Nat) (List Ru)
  | [], _, rs => .inr rs
  | x :: r, k, rs => if trm x = [] ∨ Lib.hasPrefix (trm x) [35] = true then rdL r (k + 1) rs else
    match ruP (trm x) with
    | none => .inl (k, ruN (trm x))
    | some q => rdL r (k + 1) (rs ++ [q])
theorem rdF_rdL : ∀ (f : Nat) (l : List UInt8) (k : Nat) (rs : List Ru), l.length ≤ f → rdF f l k rs = rdL (lns l) k rs
  | 0, l, k, rs, h => by
    have : l = [] := List.length_eq_zero_iff.1 (by omega)
    subst this; rfl
  | f + 1, l, k, rs, h => by
    unfold rdF
    by_cases e : l = []
    · subst e; rfl
    · have hc := cut_rest l e
      rw [if_neg e, lns_cons l e, rdL]
      by_cases h2 : trm (Lib.cut l [10]).1 = [] ∨ Lib.hasPrefix (trm (Lib.cut l [10]).1) [35] = true
      · rw [if_pos h2, if_pos h2]; exact rdF_rdL f _ _ _ (by omega)
      · rw [if_neg h2, if_neg h2]
        cases ruP (trm (Lib.cut l [10]).1) with
        | none => rfl
        | some q => exact rdF_rdL f _ _ _ (by omega)

/-! ### blanks at the end -/
theorem suf_snoc (m : List UInt8) (c d : UInt8) : Lib.hasSuffix (m ++ [c]) [d] = decide (c = d) := by
  unfold Lib.hasSuffix
  rw [Bool.eq_iff_iff, List.isSuffixOf_iff_suffix, decide_eq_true_iff]
  constructor
  · rintro ⟨t, ht⟩
    have := congrArg List.getLast? ht
    simp at this
    exact this.symm
  · rintro rfl; exact ⟨m, rfl⟩
theorem suf_nil (d : UInt8) : Lib.hasSuffix [] [d] = false := rfl
theorem tr_blank (m : List UInt8) : Lib.trimRightB (m ++ [32]) 32 = Lib.trimRightB m 32 := by
  unfold Lib.trimRightB
  rw [List.reverse_append]
  rfl
theorem tr_other (m : List UInt8) (c : UInt8) (h : c ≠ 32) : Lib.trimRightB (m ++ [c]) 32 = m ++ [c] := by
  unfold Lib.trimRightB
  rw [List.reverse_append, List.reverse_singleton, List.singleton_append, List.dropWhile_cons_of_neg (by simpa using h), List.reverse_cons, List.reverse_reverse]
theorem tr_pre (l : List UInt8) : ∃ t, l = Lib.trimRightB l 32 ++ t ∧ ∀ x ∈ t, x = 32 := by
  unfold Lib.trimRightB
  refine ⟨(l.reverse.takeWhile (· == 32)).reverse, ?_, fun x hx => ?_⟩
  · rw [← List.reverse_append, List.takeWhile_append_dropWhile, List.reverse_reverse]
  · have := List.mem_reverse.1 hx
    simpa using List.all_eq_true.1 (List.all_takeWhile (l := l.reverse) (p := (· == 32))) x this
theorem trm_nil : trm [] = [] := rfl
theorem trm_other (m : List UInt8) (c : UInt8) (h : c ≠ 32) : trm (m ++ [c]) = m ++ [c] := by
  unfold trm
  rw [tr_other m c h, if_neg (fun q => by omega)]
theorem trm_kept (m : List UInt8) : trm (m ++ [92, 32]) = m ++ [92, 32] := by
  have e : m ++ [92, 32] = (m ++ [92]) ++ [32] := by simp
  unfold trm
  rw [e, tr_blank, tr_other m 92 (by decide), if_pos ⟨by rw [suf_snoc]; rfl, by simp⟩, List.take_of_length_le (by simp)]
theorem trm_one : trm [32] = [] := by decide
theorem trm_blank (m : List UInt8) (c : UInt8) (h : c ≠ 92) : trm (m ++ [c] ++ [32]) = trm (m ++ [c]) := by
  unfold trm
  rw [tr_blank]
  obtain ⟨t, ht, _⟩ := tr_pre (m ++ [c])
  generalize Lib.trimRightB (m ++ [c]) 32 = u at ht
  by_cases hs : Lib.hasSuffix u [92] = true
  · have hlt : u.length < (m ++ [c]).length := by
      rw [ht, List.length_append]
      cases t with
      | nil =>
        rw [List.append_nil] at ht
        rw [← ht, suf_snoc, decide_eq_true_iff] at hs
        exact absurd hs h
      | cons x t => simp
    rw [if_pos ⟨hs, by rw [List.length_append]; omega⟩, if_pos ⟨hs, hlt⟩, List.take_append_of_le_length (by omega)]
  · rw [if_neg (fun q => hs q.1), if_neg (fun q => hs q.1)]

/-! ### a rule -/
/-- a rule as the document holds it -/
structure DR where
  ps : List Pg.Pi
  rooted : Bool
  dir : Bool
  back : Bool
/-- what its pieces are, of what is left of the line; or the error -/
def dpc (t : List UInt8) : Option (List Pg.Pi) := if (47 : UInt8) ∈ t then pcs (Pp.pieces (Lib.trimPrefix t [47])) else (cmp t).map fun P => [some P]
def drP (l : List UInt8) : Option DR := if ru2 l = [] then none else (dpc (ru2 l)).map fun ps => ⟨ps, decide ((47 : UInt8) ∈ ru2 l), Lib.hasSuffix (Lib.trimPrefix l [33]) [47], Lib.hasPrefix l [33]⟩
/-- the program's rule -/
def toRu (d : DR) : Ru := ⟨if d.rooted then Pg.own d.ps else none :: d.ps, d.dir, d.back⟩
theorem drP_ru (l : List UInt8) : (drP l).map toRu = ruP l := by
  unfold drP ruP
  by_cases h : ru2 l = []
  · rw [if_pos h, if_pos h]; rfl
  · rw [if_neg h, if_neg h]
    unfold dpc pctP
    by_cases h2 : (47 : UInt8) ∈ ru2 l
    · rw [if_pos h2, if_pos h2]
      cases pcs (Pp.pieces (Lib.trimPrefix (ru2 l) [47])) with
      | none => rfl
      | some ps => simp [toRu, h2]
    · rw [if_neg h2, if_neg h2]
      cases cmp (ru2 l) with
      | none => rfl
      | some P => simp [toRu, h2]
/-- does a rule mean names -/
def dmn (d : DR) (ns : List (List UInt8)) (dir : Bool) : Bool := if d.dir && !dir then false else if d.rooted then Pg.D (decide (1 < d.ps.length)) d.ps ns else match d.ps, ns.getLast? with
  | some P :: _, some n => Pg.mt P n
  | _, _ => false
theorem dmn_ru {d : DR} (ns : List (List UInt8)) (n : List UInt8) (dir : Bool) (h : d.rooted = true ∨ ∃ P, d.ps = [some P]) : dmn d (ns ++ [n]) dir = (Pg.M (toRu d).ps (ns ++ [n]) && (dir || !(toRu d).dirs)) := by
  have hd : (toRu d).dirs = d.dir := rfl
  rw [hd]
  unfold dmn
  have key : (if d.rooted then Pg.D (decide (1 < d.ps.length)) d.ps (ns ++ [n]) else match d.ps, (ns ++ [n]).getLast? with
      | some P :: _, some n => Pg.mt P n
      | _, _ => false) = Pg.M (toRu d).ps (ns ++ [n]) := by
    unfold toRu
    by_cases hr : d.rooted = true
    · rw [if_pos hr]
      simp only [hr, if_true]
      exact Pg.fits_own _ _
    · rw [if_neg hr]
      rcases h with h | ⟨P, hP⟩
      · exact absurd h hr
      · simp only [hr, hP, List.getLast?_append, List.getLast?_singleton, Option.some_or]
        exact (Pg.M_base P ns n).symm
  rw [key]
  cases d.dir <;> cases dir <;> simp
/-- what is ignored of names -/
def dst1 (ns : List (List UInt8)) (dir : Bool) (b : Bool) (d : DR) : Bool := if dmn d ns dir then !d.back else b
def Fine (d : DR) : Prop := d.rooted = true ∨ ∃ P, d.ps = [some P]
theorem fold_ru (ns : List (List UInt8)) (n : List UInt8) (dir : Bool) : ∀ (ds : List DR) (b : Bool), (∀ d ∈ ds, Fine d) → ds.foldl (dst1 (ns ++ [n]) dir) b = (ds.map toRu).foldl (stp1 (ns ++ [n]) dir) b
  | [], _, _ => rfl
  | d :: ds, b, h => by
    rw [List.foldl_cons, List.map_cons, List.foldl_cons, fold_ru ns n dir ds _ (fun x hx => h x (by simp [hx]))]
    congr 1
    unfold dst1 stp1
    rw [dmn_ru ns n dir (h d (by simp))]
    rfl
def digS (ds : List DR) (ns : List (List UInt8)) (dir : Bool) : Bool := ds.foldl (dst1 ns dir) false
def digP (ds : List DR) (p : List UInt8) (dir : Bool) : Bool := (List.range (nms p).length).any fun i => digS ds ((nms p).take (i + 1)) (dir || decide (i + 1 < (nms p).length))
theorem digP_ru (ds : List DR) (p : List UInt8) (dir : Bool) (h : ∀ d ∈ ds, Fine d) : digP ds p dir = igP (ds.map toRu) p dir := by
  rw [Bool.eq_iff_iff, igP_iff]
  unfold digP
  rw [List.any_eq_true]
  have e : ∀ i, i < (nms p).length → digS ds ((nms p).take (i + 1)) (dir || decide (i + 1 < (nms p).length)) = igS (ds.map toRu) ((nms p).take (i + 1)) (dir || decide (i + 1 < (nms p).length)) := fun i hi => by
    have ht : (nms p).take (i + 1) = (nms p).take i ++ [(nms p)[i]] := by rw [List.take_add_one, List.getElem?_eq_getElem hi]; rfl
    rw [ht]
    exact fold_ru _ _ _ ds false h
  constructor
  · rintro ⟨i, hi, hx⟩
    have hi' := List.mem_range.1 hi
    exact ⟨i, hi', by rw [← e i hi']; exact hx⟩
  · rintro ⟨i, hi, hx⟩
    exact ⟨i, List.mem_range.2 hi, by rw [e i hi]; exact hx⟩
theorem drP_fine {l : List UInt8} {d : DR} (h : drP l = some d) : Fine d := by
  unfold drP at h
  by_cases h0 : ru2 l = []
  · rw [if_pos h0] at h; cases h
  · rw [if_neg h0] at h
    unfold dpc at h
    by_cases h2 : (47 : UInt8) ∈ ru2 l
    · rw [if_pos h2] at h
      cases e : pcs (Pp.pieces (Lib.trimPrefix (ru2 l) [47])) with
      | none => rw [e] at h; cases h
      | some ps =>
        rw [e] at h
        cases h
        exact .inl (decide_eq_true h2)
    · rw [if_neg h2] at h
      cases e : cmp (ru2 l) with
      | none => rw [e] at h; cases h
      | some P =>
        rw [e] at h
        cases h
        exact .inr ⟨P, rfl⟩
/-- the document's rules of lines -/
def ddL : List (List UInt8) → Nat → List DR → Sum (Nat × Nat) (List DR)
  | [], _, rs => .inr rs
  | x :: r, k, rs => if trm x = [] ∨ Lib.hasPrefix (trm x) [35] = true then ddL r (k + 1) rs else
    match drP (trm x) with
    | none => .inl (k, ruN (trm x))
    | some q => ddL r (k + 1) (rs ++ [q])
theorem ddL_rdL : ∀ (L : List (List UInt8)) (k : Nat) (ds : List DR), rdL L k (ds.map toRu) = match ddL L k ds with | .inl e => .inl e | .inr r => .inr (r.map toRu)
  | [], k, ds => rfl
  | x :: r, k, ds => by
    unfold rdL ddL
    by_cases h : trm x = [] ∨ Lib.hasPrefix (trm x) [35] = true
    · rw [if_pos h, if_pos h]; exact ddL_rdL r (k + 1) ds
    · rw [if_neg h, if_neg h, ← drP_ru]
      cases e : drP (trm x) with
      | none => rfl
      | some q =>
        show rdL r (k + 1) (ds.map toRu ++ [toRu q]) = _
        rw [← show (ds ++ [q]).map toRu = ds.map toRu ++ [toRu q] by simp]
        exact ddL_rdL r (k + 1) (ds ++ [q])
theorem ddL_fine : ∀ (L : List (List UInt8)) (k : Nat) (ds R : List DR), (∀ d ∈ ds, Fine d) → ddL L k ds = .inr R → ∀ d ∈ R, Fine d
  | [], k, ds, R, h, e => by cases e; exact h
  | x :: r, k, ds, R, h, e => by
    unfold ddL at e
    by_cases h2 : trm x = [] ∨ Lib.hasPrefix (trm x) [35] = true
    · rw [if_pos h2] at e; exact ddL_fine r _ ds R h e
    · rw [if_neg h2] at e
      cases e3 : drP (trm x) with
      | none => rw [e3] at e; cases e
      | some q =>
        rw [e3] at e
        refine ddL_fine r _ (ds ++ [q]) R (fun d hd => ?_) e
        rcases List.mem_append.1 hd with h4 | h4
        · exact h d h4
        · rw [List.mem_singleton.1 h4]; exact drP_fine e3
end Go.Proofs.YtfjhjhjdneihbaaGreatDoor
