/-
  A region that draws its order, carried through by what each operation leaves behind: whatever the order, each operation finds what those ahead of it have left.
-/
import Derived.Test.YtfjhjhjdneihbaaGreatDoorGb
import Derived.Orders
namespace Go.Proofs.YtfjhjhjdneihbaaGreatDoor
open Go.RowKit

/-- how many operations are not yet done -/
def openN (l : Array Bool) : Nat := (l.toList.filter (!·)).length
theorem open_set : ∀ (l : List Bool) (i : Nat), l[i]? = some false → ((l.set i true).filter (!·)).length + 1 ≤ (l.filter (!·)).length
  | [], i, h => by simp at h
  | b :: l, 0, h => by
    simp at h
    subst h
    simp
  | b :: l, i + 1, h => by
    have ih := open_set l i (by simpa using h)
    cases b
    · simp; omega
    · simpa using ih
theorem openN_set (l : Array Bool) (i : Nat) (h : l[i]? = some false) : openN (l.setIfInBounds i true) + 1 ≤ openN l := by
  unfold openN
  rw [Array.toList_setIfInBounds]
  exact open_set _ _ (by rw [Array.getElem?_toList]; exact h)
theorem open_zero : ∀ (l : List Bool), (l.filter (!·)).length = 0 → ∀ i : Nat, l.getD i true = true
  | [], _, i => by simp
  | b :: l, h, i => by
    cases b
    · simp at h
    · cases i with
      | zero => rfl
      | succ i => exact open_zero l (by simpa using h) i

section
variable {P : Program} {ops : Array Oper} {Q : Exit → Act → World → Prop}

theorem ready_spec {l : Array Bool} {i : Nat} (h : i ∈ Region.ready .any ops l) : i < ops.size ∧ l.getD i true = false ∧ ∃ o, ops[i]? = some o ∧ ∀ e ∈ o.after, Region.binds .any e = true → l.getD e.on false = true := by
  unfold Region.ready at h
  rw [List.mem_filter, List.mem_range, Bool.and_eq_true] at h
  obtain ⟨h1, h2, h3⟩ := h
  refine ⟨h1, by simpa using h2, ops[i], Array.getElem?_eq_getElem h1, fun e he hb => ?_⟩
  rw [Array.getElem?_eq_getElem h1] at h3
  have h4 : (ops[i].after.all fun e => !Region.binds .any e || l.getD e.on false) = true := h3
  rw [Array.all_eq_true'] at h4
  have := h4 e he
  rw [hb] at this
  simpa using this
theorem wpAny_inv (I : Array Bool → Act → World → Prop)
    (hstep : ∀ (l : Array Bool) (a : Act) (w : World) (i : Nat) (o : Oper), l.size = ops.size → I l a w → i ∈ Region.ready .any ops l → ops[i]? = some o → Region.wanted o (yielded ops a.tmps) = true ∧ o.wp P a w (I (l.setIfInBounds i true)) Q)
    (hend : ∀ (l : Array Bool) (a : Act) (w : World), l.size = ops.size → I l a w → Region.ready .any ops l = [] → Q .normal a w) :
    ∀ (fuel : Nat) (l : Array Bool) (a : Act) (w : World), l.size = ops.size → openN l ≤ fuel → I l a w → wpAny P .any ops Q fuel l a w
  | 0, l, a, w, hs, hn, hI => by
    have hr : Region.ready .any ops l = [] := by
      rw [List.eq_nil_iff_forall_not_mem]
      intro i hi
      have h2 := (ready_spec hi).2.1
      have h3 := open_zero l.toList (by unfold openN at hn; omega) i
      rw [List.getD_eq_getElem?_getD, Array.getElem?_toList] at h3
      rw [Array.getD_eq_getD_getElem?] at h2
      rw [h2] at h3
      cases h3
    exact ⟨hr, hend l a w hs hI hr⟩
  | fuel + 1, l, a, w, hs, hn, hI => by
    refine ⟨hend l a w hs hI, fun i hi => ?_⟩
    obtain ⟨h1, h2, o, ho, _⟩ := ready_spec hi
    obtain ⟨hw, hwp⟩ := hstep l a w i o hs hI hi ho
    have hf : l[i]? = some false := by
      rw [Array.getD_eq_getD_getElem?] at h2
      rw [Array.getElem?_eq_getElem (by omega)] at h2 ⊢
      simpa using h2
    have hc := openN_set l i hf
    unfold wpOp
    rw [ho]
    simp only [hw, if_true]
    refine .inl (Oper.wp_mono (fun a' w' hI' => ?_) hwp)
    exact wpAny_inv I hstep hend fuel _ a' w' (by simpa using hs) (by omega) hI'

/-- the frame, but for what the region writes -/
def Same (ops : Array Oper) (a0 a : Act) : Prop :=
  a.tmps.size = a0.tmps.size ∧ a.defers = a0.defers ∧ ∀ t, (∀ (i : Nat) (o : Oper), ops[i]? = some o → o.dst ≠ some t) → a.tmps.getD t undef = a0.tmps.getD t undef

/-- no guards; each writes a slot of its own, within the frame; each waits for earlier ones alone -/
def fitB (ops : Array Oper) (n : Nat) : Bool :=
  (List.range ops.size).all fun i => match ops[i]? with
    | none => true
    | some o => o.guard.isNone && (match o.dst with | none => true | some d => decide (d < n)) && (o.after.all fun e => decide (e.on < i)) &&
      (List.range i).all fun j => match ops[j]? with
        | none => true
        | some o' => (match o.dst with | none => true | some d => o'.dst != some d)
theorem fit_spec {n : Nat} (h : fitB ops n = true) {i : Nat} {o : Oper} (ho : ops[i]? = some o) : o.guard = none ∧ (∀ d, o.dst = some d → d < n) ∧ (∀ e ∈ o.after, e.on < i) ∧ ∀ (j : Nat) (o' : Oper) (d : Nat), j < i → ops[j]? = some o' → o.dst = some d → o'.dst ≠ some d := by
  have hi : i < ops.size := by
    rcases Nat.lt_or_ge i ops.size with h | h
    · exact h
    · rw [Array.getElem?_eq_none h] at ho; cases ho
  unfold fitB at h
  rw [List.all_eq_true] at h
  have h1 := h i (List.mem_range.2 hi)
  rw [ho] at h1
  simp only [Bool.and_eq_true] at h1
  obtain ⟨⟨⟨h1, h2⟩, h3⟩, h4⟩ := h1
  refine ⟨by simpa using h1, fun d hd => ?_, fun e he => ?_, fun j o' d hj ho' hd => ?_⟩
  · rw [hd] at h2
    exact of_decide_eq_true h2
  · rw [Array.all_eq_true'] at h3
    exact of_decide_eq_true (h3 e he)
  · rw [List.all_eq_true] at h4
    have h5 := h4 j (List.mem_range.2 hj)
    rw [ho', hd] at h5
    simpa using h5
theorem Same.put {n : Nat} {a0 a : Act} {i : Nat} {o : Oper} (h : Same ops a0 a) (_hf : fitB ops n = true) (ho : ops[i]? = some o) (v : Value) : Same ops a0 (a.put o.dst v) := by
  obtain ⟨h1, h2, h3⟩ := h
  cases hd : o.dst with
  | none => exact ⟨h1, h2, h3⟩
  | some d =>
    refine ⟨by simpa [Act.put] using h1, h2, fun t ht => ?_⟩
    have hne : d ≠ t := fun e => ht i o ho (by rw [hd, e])
    show (a.tmps.setIfInBounds d v).getD t undef = _
    rw [← h3 t ht, Array.getD_eq_getD_getElem?, Array.getD_eq_getD_getElem?, Array.getElem?_setIfInBounds_ne hne]

/-- each operation, whenever it comes, finds what those that it waits for have left (G), leaves what it owes, and turns nothing that another has left; then all is there at the end -/
theorem region_inv {id : Nat} {a0 : Act} {w0 : World} (hm : P.follows .mixedOrders = true) (hf : fitB ops a0.tmps.size = true) (R : World → Prop) (G : Nat → Value → World → Prop)
    (h0 : R w0.drew)
    (hstep : ∀ (i : Nat) (o : Oper), ops[i]? = some o → ∀ (a : Act) (w : World), Same ops a0 a → R w → (∀ e ∈ o.after, Region.binds .any e = true → ∀ (oe : Oper) (de : Nat), ops[e.on]? = some oe → oe.dst = some de → G e.on (a.tmps.getD de undef) w) →
      o.wp P a w (fun a' w' => ∃ v, a' = a.put o.dst v ∧ R w' ∧ G i v w' ∧ ∀ k u, G k u w → G k u w') Q)
    (hend : ∀ (a : Act) (w : World), Same ops a0 a → R w → (∀ (i : Nat) (o : Oper) (d : Nat), ops[i]? = some o → o.dst = some d → G i (a.tmps.getD d undef) w) → Q .normal a w) :
    (Code.region id ops true).wp P Q a0 w0 := by
  refine wp_region_any hm ?_
  let I : Array Bool → Act → World → Prop := fun l a w => Same ops a0 a ∧ R w ∧ ∀ (j : Nat) (o : Oper) (d : Nat), l.getD j false = true → ops[j]? = some o → o.dst = some d → G j (a.tmps.getD d undef) w
  refine wpAny_inv I ?_ ?_ ops.size _ a0 _ (by simp) ?_ ?_
  · rintro l a w i o hs ⟨hS, hR, hG⟩ hi ho
    obtain ⟨hg, hd, he, hdis⟩ := fit_spec hf ho
    refine ⟨by unfold Region.wanted; rw [hg], ?_⟩
    obtain ⟨hi1, hi2, o', ho', haft⟩ := ready_spec hi
    rw [ho] at ho'
    cases ho'
    refine Oper.wp_mono ?_ (hstep i o ho a w hS hR fun e hee hb oe de hoe hde => hG e.on oe de (haft e hee hb) hoe hde)
    rintro a' w' ⟨v, rfl, hR', hGi, hmono⟩
    refine ⟨hS.put hf ho v, hR', fun j oj d hl hoj hdj => ?_⟩
    by_cases hji : j = i
    · subst hji
      rw [ho] at hoj
      cases hoj
      have hlt : d < a.tmps.size := by rw [hS.1]; exact hd d hdj
      rw [hdj]
      show G j ((a.tmps.setIfInBounds d v).getD d undef) w'
      rw [Array.getD_eq_getD_getElem?, Array.getElem?_setIfInBounds_self_of_lt hlt]
      exact hGi
    · have hl' : l.getD j false = true := by
        rw [Array.getD_eq_getD_getElem?, Array.getElem?_setIfInBounds_ne (fun e => hji e.symm)] at hl
        rw [Array.getD_eq_getD_getElem?]
        exact hl
      have hold := hmono _ _ (hG j oj d hl' hoj hdj)
      have hne : o.dst ≠ some d := by
        intro hod
        rcases Nat.lt_or_ge j i with hlt | hge
        · exact hdis j oj d hlt hoj hod hdj
        · exact (fit_spec hf hoj).2.2.2 i o d (by omega) ho hdj hod
      have e : (a.put o.dst v).tmps.getD d undef = a.tmps.getD d undef := by
        cases hod : o.dst with
        | none => rfl
        | some x =>
          show (a.tmps.setIfInBounds x v).getD d undef = _
          rw [Array.getD_eq_getD_getElem?, Array.getD_eq_getD_getElem?, Array.getElem?_setIfInBounds_ne (fun e => hne (by rw [hod, e]))]
      rw [e]
      exact hold
  · rintro l a w hs ⟨hS, hR, hG⟩ hr
    refine hend a w hS hR fun i o d ho hd => hG i o d ?_ ho hd
    have hall : ∀ n i, i ≤ n → ∀ o, ops[i]? = some o → l.getD i false = true := by
      intro n
      induction n with
      | zero =>
        intro i hi o ho
        obtain rfl : i = 0 := by omega
        have hlt : 0 < ops.size := by
          rcases Nat.lt_or_ge 0 ops.size with h | h
          · exact h
          · rw [Array.getElem?_eq_none h] at ho; cases ho
        cases hb : l.getD 0 false with
        | true => rfl
        | false =>
          have hmem : 0 ∈ Region.ready .any ops l := by
            unfold Region.ready
            rw [List.mem_filter, List.mem_range, Bool.and_eq_true]
            refine ⟨hlt, ?_, ?_⟩
            · rw [Array.getD_eq_getD_getElem?, Array.getElem?_eq_getElem (by omega)] at hb ⊢
              simpa using hb
            · rw [ho]
              show (o.after.all _) = true
              rw [Array.all_eq_true']
              intro e he
              have := (fit_spec hf ho).2.2.1 e he
              omega
          rw [hr] at hmem
          cases hmem
      | succ n ih =>
        intro i hi o ho
        by_cases hin : i ≤ n
        · exact ih i hin o ho
        · have hlt : i < ops.size := by
            rcases Nat.lt_or_ge i ops.size with h | h
            · exact h
            · rw [Array.getElem?_eq_none h] at ho; cases ho
          cases hb : l.getD i false with
          | true => rfl
          | false =>
            have hmem : i ∈ Region.ready .any ops l := by
              unfold Region.ready
              rw [List.mem_filter, List.mem_range, Bool.and_eq_true]
              refine ⟨hlt, ?_, ?_⟩
              · rw [Array.getD_eq_getD_getElem?, Array.getElem?_eq_getElem (by omega)] at hb ⊢
                simpa using hb
              · rw [ho]
                show (o.after.all _) = true
                rw [Array.all_eq_true']
                intro e he
                have hei := (fit_spec hf ho).2.2.1 e he
                have := ih e.on (by omega) ops[e.on] (Array.getElem?_eq_getElem (by omega))
                rw [this]
                simp
            rw [hr] at hmem
            cases hmem
    exact hall i i (Nat.le_refl _) o ho
  · unfold openN
    have : (Array.replicate ops.size false).toList.length = ops.size := by simp
    calc _ ≤ (Array.replicate ops.size false).toList.length := List.length_filter_le _ _
      _ = ops.size := this
  · refine ⟨⟨rfl, rfl, fun _ _ => rfl⟩, h0, fun j o d hl _ _ => ?_⟩
    rw [Array.getD_eq_getD_getElem?, Array.getElem?_replicate] at hl
    split at hl <;> simp at hl
end
end Go.Proofs.YtfjhjhjdneihbaaGreatDoor
