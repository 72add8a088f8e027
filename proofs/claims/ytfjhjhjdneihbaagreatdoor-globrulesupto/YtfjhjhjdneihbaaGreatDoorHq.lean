/-
  Plain: rules are no greater than their text; the line of a name; what Read answers, by lines.
-/
import Derived.Test.YtfjhjhjdneihbaaGreatDoorHc
import Derived.Test.YtfjhjhjdneihbaaGreatDoorHp
import Derived.Test.YtfjhjhjdneihbaaGreatDoorGj
namespace Go.Proofs.YtfjhjhjdneihbaaGreatDoor
open Go.RowKit

def FitR (r : Ru) : Prop := r.ps.length ≤ 100000000 ∧ ∀ P, some P ∈ r.ps → P.length ≤ 1024
theorem cmp_len {t : List UInt8} {P : List Pg.Pt} (h : cmp t = some P) : P.length ≤ 1024 := by
  unfold cmp at h
  split at h
  · cases h
  · next hl =>
    have := comp_len _ t P (Nat.le_refl _) h
    omega
theorem pcs_fit : ∀ (l : List (List UInt8)) (ps : List Pg.Pi), pcs l = some ps → ∀ P, some P ∈ ps → P.length ≤ 1024
  | [], ps, h, P, hP => by cases h; simp at hP
  | x :: l, ps, h, P, hP => by
    rw [pcs] at h
    cases hx : pce x with
    | none => rw [hx] at h; cases h
    | some q =>
      rw [hx] at h
      cases hl : pcs l with
      | none => rw [hl] at h; cases h
      | some qs =>
        rw [hl] at h
        cases h
        rcases List.mem_cons.1 hP with e | e
        · unfold pce at hx
          split at hx
          · cases hx; cases e
          · cases hc : cmp x with
            | none => rw [hc] at hx; cases hx
            | some Q => rw [hc] at hx; cases hx; cases e; exact cmp_len hc
        · exact pcs_fit l qs hl P e
theorem ru_fit {l : List UInt8} {r : Ru} (hl : l.length ≤ 10000000) (h : ruP l = some r) : FitR r := by
  have h2 : (ru2 l).length ≤ l.length := by
    unfold ru2 Lib.trimSuffix
    have h1 : (Lib.trimPrefix l [33]).length ≤ l.length := by
      unfold Lib.trimPrefix
      split
      · rw [List.length_drop]; omega
      · exact Nat.le_refl _
    split
    · rw [List.length_take]; omega
    · exact h1
  unfold ruP at h
  split at h
  · cases h
  · unfold pctP at h
    split at h
    · cases hp : pcs (Pp.pieces (Lib.trimPrefix (ru2 l) [47])) with
      | none => rw [hp] at h; cases h
      | some ps =>
        rw [hp] at h
        cases h
        have hf := pcs_fit _ ps hp
        have hn := pcs_len _ ps hp
        have h3 := Pp.pieces_length (Lib.trimPrefix (ru2 l) [47])
        have h4 : (Lib.trimPrefix (ru2 l) [47]).length ≤ (ru2 l).length := by
          unfold Lib.trimPrefix
          split
          · rw [List.length_drop]; omega
          · exact Nat.le_refl _
        unfold FitR Pg.own Pg.tail
        split
        · split
          · refine ⟨by rw [List.length_append, List.length_singleton]; omega, fun P hP => ?_⟩
            rcases List.mem_append.1 hP with e | e
            · exact hf P e
            · simp at e; subst e; simp
          · rw [List.append_nil]; exact ⟨by show ps.length ≤ _; omega, hf⟩
        · exact ⟨by show ps.length ≤ _; omega, hf⟩
    · cases hc : cmp (ru2 l) with
      | none => rw [hc] at h; cases h
      | some P =>
        rw [hc] at h
        cases h
        refine ⟨by simp, fun Q hQ => ?_⟩
        simp at hQ
        subst hQ
        exact cmp_len hc
theorem spl_le : ∀ (l x : List UInt8), x ∈ spl l → x.length ≤ l.length
  | [], x, h => by simp [spl] at h; subst h; simp
  | c :: r, x, h => by
    have ih := spl_le r
    have hne := spl_ne r
    unfold spl at h
    split at h
    · rcases List.mem_cons.1 h with rfl | h
      · simp
      · have := ih x h; simp; omega
    · cases hp : spl r with
      | nil => exact absurd hp hne
      | cons y t =>
        rw [hp] at h ih
        simp only [List.headD_cons, List.tail_cons] at h
        rcases List.mem_cons.1 h with rfl | h
        · have := ih y (by simp); simp; omega
        · have := ih x (by simp [h]); simp; omega
theorem spl_length : ∀ l : List UInt8, (spl l).length ≤ l.length + 1
  | [] => by simp [spl]
  | c :: r => by
    have ih := spl_length r
    unfold spl
    split
    · simp; omega
    · simp; omega
theorem rll_fit : ∀ (l : List (List UInt8)) (rs : List Ru), (∀ x ∈ l, x.length ≤ 10000000) → rll l = some rs → (∀ r ∈ rs, FitR r) ∧ rs.length ≤ l.length
  | [], rs, _, h => by cases h; simp
  | x :: l, rs, hl, h => by
    rw [rll] at h
    cases hx : rlN x with
    | none => rw [hx] at h; cases h
    | some a =>
      rw [hx] at h
      cases hq : rll l with
      | none => rw [hq] at h; cases h
      | some b =>
        rw [hq] at h
        cases h
        obtain ⟨i1, i2⟩ := rll_fit l b (fun y hy => hl y (by simp [hy])) hq
        have ha : (∀ r ∈ a, FitR r) ∧ a.length ≤ 1 := by
          unfold rlN at hx
          split at hx
          · cases hx; simp
          · cases hr : ruP (trm x) with
            | none => rw [hr] at hx; cases hx
            | some r =>
              rw [hr] at hx
              cases hx
              have h1 := trm_len x
              have h2 := hl x (by simp)
              exact ⟨fun q hq => by simp at hq; subst hq; exact ru_fit (by omega) hr, by simp⟩
        refine ⟨fun r hr => ?_, by rw [List.length_append, List.length_cons]; omega⟩
        rcases List.mem_append.1 hr with e | e
        · exact ha.1 r e
        · exact i1 r e
/-- the rules of a text -/
def rul (l : List UInt8) : Option (List Ru) := rll (spl l)
theorem rul_fit {l : List UInt8} {rs : List Ru} (hl : l.length ≤ 10000000) (h : rul l = some rs) : Fits rs ∧ rs.length ≤ l.length + 1 := by
  obtain ⟨h1, h2⟩ := rll_fit _ rs (fun x hx => Nat.le_trans (spl_le l x hx) hl) h
  exact ⟨h1, Nat.le_trans h2 (spl_length l)⟩
theorem rul_read (l : List UInt8) : match rdF l.length l 1 [] with | .inl _ => rul l = none | .inr R => rul l = some R := by
  have h := rdF_rll l.length l 1 [] (Nat.le_refl _)
  cases hq : rdF l.length l 1 [] with
  | inl y => rw [hq] at h; exact h
  | inr R =>
    rw [hq] at h
    simp only [List.nil_append, Option.map_id'] at h
    exact h
theorem rul_app (a b : List UInt8) {x y : List Ru} (ha : rul a = some x) (hb : rul b = some y) : rul (a ++ 10 :: b) = some (x ++ y) := by
  unfold rul at *
  rw [spl_app, rll_append, ha, hb]
  rfl
theorem rul_nil : rul [] = some [] := by
  show rll [[]] = _
  rw [rll_one _ _ rlN_nil]
  rfl
theorem rul_line (x : List UInt8) (h : (10 : UInt8) ∉ x) {a : List Ru} (ha : rlN x = some a) : rul x = some a := by
  unfold rul
  rw [spl_none x h, rll_one _ _ ha]
  simp [rll]
/-! ### the line of a name -/
theorem trm_same (p : List UInt8) (h : p.getLast? ≠ some 32) : trm p = p := by
  have e : Lib.trimRightB p 32 = p := by
    unfold Lib.trimRightB
    have : p.reverse.dropWhile (· == 32) = p.reverse := by
      cases hp : p.reverse with
      | nil => rfl
      | cons c t =>
        have hc : p.getLast? = some c := by rw [← List.head?_reverse, hp]; rfl
        have : c ≠ 32 := fun e => h (by rw [hc, e])
        rw [List.dropWhile_cons_of_neg (by simpa using this)]
    rw [this, List.reverse_reverse]
  unfold trm
  rw [e, if_neg (fun h => Nat.lt_irrefl _ h.2)]
theorem pre_no {p : List UInt8} {c : UInt8} (h : p.head? ≠ some c) : Lib.hasPrefix p [c] = false := by
  unfold Lib.hasPrefix
  cases p with
  | nil => rfl
  | cons d r =>
    have : c ≠ d := fun e => h (by rw [e]; rfl)
    simp [List.isPrefixOf, this]
theorem suf_no {p : List UInt8} {c : UInt8} (h : c ∉ p) : Lib.hasSuffix p [c] = false := by
  unfold Lib.hasSuffix
  cases hq : [c].isSuffixOf p with
  | false => rfl
  | true =>
    obtain ⟨t, ht⟩ := List.isSuffixOf_iff_suffix.1 hq
    exact absurd (by rw [← ht]; simp) h
theorem rlN_plain {p : List UInt8} {P : List Pg.Pt} (h1 : p ≠ []) (h2 : p.getLast? ≠ some 32) (h3 : (47 : UInt8) ∉ p) (h4 : p.head? ≠ some 35) (h5 : p.head? ≠ some 33) (h6 : p.length ≤ 1024) (h7 : Pg.comp p = some P) :
    rlN p = some [⟨[none, some P], false, false⟩] ∧ rlN (33 :: p) = some [⟨[none, some P], false, true⟩] := by
  have hc : cmp p = some P := by unfold cmp; rw [if_neg (by omega)]; exact h7
  have hpc : pctP p = some [none, some P] := by unfold pctP; rw [if_neg h3, hc]; rfl
  have hts : Lib.trimSuffix p [47] = p := by unfold Lib.trimSuffix; rw [suf_no h3]; rfl
  have e1 : Lib.trimPrefix p [33] = p := by unfold Lib.trimPrefix; rw [pre_no h5]; rfl
  have e2 : Lib.trimPrefix (33 :: p) [33] = p := rfl
  have hl2 : (33 :: p).getLast? ≠ some 32 := by
    cases p with
    | nil => exact absurd rfl h1
    | cons c r => rw [List.getLast?_cons_cons]; exact h2
  constructor
  · unfold rlN
    rw [trm_same p h2, if_neg (by rw [pre_no h4]; simp [h1])]
    unfold ruP ru2
    rw [e1, hts, if_neg h1, hpc, pre_no h5, suf_no h3]
    rfl
  · unfold rlN
    rw [trm_same _ hl2, if_neg (by rw [pre_no (by simp)]; simp)]
    unfold ruP ru2
    rw [e2, hts, if_neg h1, hpc, suf_no h3]
    rfl
/-- the text of a name -/
def nmT (n : List UInt8) : List UInt8 := if n.head? = some 33 ∨ n.head? = some 35 then 92 :: Pg.esc n else Pg.esc n
theorem esc_mem {l : List UInt8} {x : UInt8} (h : x ∈ Pg.esc l) : x = 92 ∨ x ∈ l := by
  unfold Pg.esc at h
  obtain ⟨y, hy, hx⟩ := List.mem_flatten.1 h
  obtain ⟨c, hc, rfl⟩ := List.mem_map.1 hy
  unfold Pg.esc1 at hx
  split at hx
  · rcases List.mem_cons.1 hx with e | e
    · exact .inl e
    · simp at e; subst e; exact .inr hc
  · simp at hx; subst hx; exact .inr hc
theorem esc_last {l : List UInt8} (h : l ≠ []) : (Pg.esc l).getLast? = l.getLast? := by
  obtain ⟨t, c, rfl⟩ : ∃ t c, l = t ++ [c] := ⟨l.dropLast, l.getLast h, (List.dropLast_concat_getLast h).symm⟩
  have e : Pg.esc (t ++ [c]) = Pg.esc t ++ Pg.esc1 c := by unfold Pg.esc; simp
  rw [e, List.getLast?_append, List.getLast?_append]
  unfold Pg.esc1
  split <;> simp
theorem esc_head (c : UInt8) (r : List UInt8) : (Pg.esc (c :: r)).head? = some (if Pg.sp c then 92 else c) := by
  show (Pg.esc1 c ++ Pg.esc r).head? = _
  unfold Pg.esc1
  split <;> rfl
theorem esc_head_iff {n : List UInt8} (d : UInt8) (hd : d = 33 ∨ d = 35) (h : n ≠ []) : (Pg.esc n).head? = some d ↔ n.head? = some d := by
  cases n with
  | nil => exact absurd rfl h
  | cons c r =>
    rw [esc_head, List.head?_cons]
    by_cases hs : Pg.sp c = true
    · rw [if_pos hs]
      have : c ≠ d := by
        rintro rfl
        rcases hd with rfl | rfl <;> exact absurd hs (by decide)
      have h2 : (92 : UInt8) ≠ d := by rcases hd with rfl | rfl <;> decide
      simp [this, h2]
    · rw [if_neg hs]
theorem nmT_comp (n : List UInt8) : Pg.comp (nmT n) = some (n.map Pg.lit) := by
  unfold nmT
  split
  · next h =>
    cases n with
    | nil => simp at h
    | cons c r =>
      have hc : c = 33 ∨ c = 35 := by simpa using h
      have hsp : Pg.sp c = false := by rcases hc with rfl | rfl <;> decide
      have e : Pg.esc (c :: r) = c :: Pg.esc r := by
        show Pg.esc1 c ++ Pg.esc r = _
        unfold Pg.esc1
        rw [hsp]
        rfl
      have h2 : Pg.comp [92, c] = some [Pg.lit c] := by
        have hr : Pg.rp [92, c] = some (Pg.lit c, []) := by simp [Pg.rp, Pg.rb, Pg.lit]
        rw [Pg.comp_some (by simp) hr]; rfl
      rw [e]
      exact Pg.comp_joined h2 (Pg.comp_esc r)
  · exact Pg.comp_esc n
theorem nmT_line {n : List UInt8} (h1 : n ≠ []) (h2 : n.getLast? ≠ some 32) (h3 : (47 : UInt8) ∉ n) (h4 : (10 : UInt8) ∉ n) (h5 : (nmT n).length ≤ 1024) :
    (10 : UInt8) ∉ nmT n ∧ rlN (nmT n) = some [⟨[none, some (n.map Pg.lit)], false, false⟩] ∧ rlN (33 :: nmT n) = some [⟨[none, some (n.map Pg.lit)], false, true⟩] := by
  have hm : ∀ x, x ∈ nmT n → x = 92 ∨ x ∈ n := by
    intro x hx
    unfold nmT at hx
    split at hx
    · rcases List.mem_cons.1 hx with e | e
      · exact .inl e
      · exact esc_mem e
    · exact esc_mem hx
  have hen : Pg.esc n ≠ [] := fun e => by
    have := esc_last h1
    rw [e] at this
    exact h1 (List.getLast?_eq_none_iff.1 this.symm)
  have hne : nmT n ≠ [] := by unfold nmT; split; · simp
                              · exact hen
  have hla : (nmT n).getLast? = n.getLast? := by
    unfold nmT
    split
    · cases he : Pg.esc n with
      | nil => exact absurd he hen
      | cons c r => rw [List.getLast?_cons_cons, ← he]; exact esc_last h1
    · exact esc_last h1
  have hh : ∀ d, d = 33 ∨ d = 35 → (nmT n).head? ≠ some d := by
    intro d hd
    unfold nmT
    split
    · rw [List.head?_cons]; rcases hd with rfl | rfl <;> decide
    · next hn =>
      rw [Ne, esc_head_iff d hd h1]
      rcases hd with rfl | rfl
      · exact fun e => hn (.inl e)
      · exact fun e => hn (.inr e)
  refine ⟨fun e => ?_, rlN_plain hne (by rw [hla]; exact h2) (fun e => ?_) (hh 35 (.inr rfl)) (hh 33 (.inl rfl)) h5 (nmT_comp n)⟩
  · rcases hm 10 e with e | e
    · exact absurd e (by decide)
    · exact h4 e
  · rcases hm 47 e with e | e
    · exact absurd e (by decide)
    · exact h3 e
end Go.Proofs.YtfjhjhjdneihbaaGreatDoor
