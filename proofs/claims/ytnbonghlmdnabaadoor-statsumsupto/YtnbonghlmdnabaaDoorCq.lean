/-
  A region that draws its order and whose last operation waits for all others: the others in whatever order, then that one.
-/
import Derived.Test.YtnbonghlmdnabaaDoorC2
import Derived.Orders
import Derived.OrdersHeld
import Derived.Deep.RegionHeld3
namespace Go.Proofs.YtnbonghlmdnabaaDoor
open Go.RowKit

/-- what the last one is to find -/
def lastQ (P : Program) (o : Oper) (Q : Exit → Act → World → Prop) : Exit → Act → World → Prop
  | .normal, a, w => o.wp P a w (fun a' w' => Q .normal a' w') Q
  | e, a, w => Q e a w
def lastB (l : List Oper) (o : Oper) : Bool :=
  o.guard.isNone && (o.after.all fun e => !Region.binds .any e || decide (e.on < l.length)) && ((List.range l.length).all fun i => (o.after.any fun e => Region.binds .any e && e.on == i) || (List.range l.length).any fun j => decide (i < j) && (l[j]?).any fun q => q.after.any fun e => Region.binds .any e && e.on == i) &&
  (List.range l.length).all fun i => match l[i]? with
    | none => true
    | some q => q.guard.isNone && q.after.all fun e => !Region.binds .any e || decide (e.on < i)
section
variable {P : Program} {l : List Oper} {o : Oper} {Q : Exit → Act → World → Prop}
theorem lastB_spec (h : lastB l o = true) : (o.guard = none ∧ ∀ e ∈ o.after, Region.binds .any e = true → e.on < l.length) ∧ (∀ i, i < l.length → (∃ e ∈ o.after, Region.binds .any e = true ∧ e.on = i) ∨ ∃ j q, i < j ∧ l[j]? = some q ∧ ∃ e ∈ q.after, Region.binds .any e = true ∧ e.on = i) ∧ ∀ i q, l[i]? = some q → q.guard = none ∧ ∀ e ∈ q.after, Region.binds .any e = true → e.on < i := by
  unfold lastB at h
  rw [Bool.and_eq_true, Bool.and_eq_true, Bool.and_eq_true] at h
  obtain ⟨⟨⟨h1, h0⟩, h2⟩, h3⟩ := h
  refine ⟨⟨by simpa using h1, fun e he hb => ?_⟩, fun i hi => ?_, fun i q hq => ?_⟩
  · have h4 := Array.all_eq_true'.1 h0 e he
    rw [hb] at h4
    simpa using h4
  · have := List.all_eq_true.1 h2 i (List.mem_range.2 hi)
    rw [Bool.or_eq_true] at this
    rcases this with this | this
    · obtain ⟨e, he, hb⟩ := Array.any_eq_true'.1 this
      rw [Bool.and_eq_true] at hb
      exact .inl ⟨e, he, hb.1, by simpa using hb.2⟩
    · obtain ⟨j, _, hj⟩ := List.any_eq_true.1 this
      rw [Bool.and_eq_true] at hj
      obtain ⟨hij, hj⟩ := hj
      cases hq : l[j]? with
      | none => rw [hq] at hj; cases hj
      | some q =>
        rw [hq] at hj
        obtain ⟨e, he, hb⟩ := Array.any_eq_true'.1 (show (q.after.any fun e => Region.binds .any e && e.on == i) = true from hj)
        rw [Bool.and_eq_true] at hb
        exact .inr ⟨j, q, of_decide_eq_true hij, hq, e, he, hb.1, by simpa using hb.2⟩
  · have hi : i < l.length := by
      rcases Nat.lt_or_ge i l.length with k | k
      · exact k
      · rw [List.getElem?_eq_none k] at hq; cases hq
    have := List.all_eq_true.1 h3 i (List.mem_range.2 hi)
    rw [hq] at this
    simp only [Bool.and_eq_true] at this
    refine ⟨by simpa using this.1, fun e he hb => ?_⟩
    have h4 := Array.all_eq_true'.1 this.2 e he
    rw [hb] at h4
    simpa using h4
theorem upon_last (q : Oper) (a : Act) (K : Act → World → Prop) (r : Result Next) : q.upon P a K (lastQ P o Q) r → q.upon P a K Q r := by
  intro h
  cases r with
  | ok n w' => cases n <;> exact h
  | halt x w' => cases x <;> exact h
theorem wpOp_last {i : Nat} {a : Act} {w : World} {K K' : Act → World → Prop} (hB : lastB l o = true) (hi : i < l.length) (hK : ∀ a w, K a w → K' a w) (h : wpOp P l.toArray (lastQ P o Q) i K a w) : wpOp P (l ++ [o]).toArray Q i K' a w := by
  obtain ⟨q, hq⟩ : ∃ q, l[i]? = some q := ⟨_, List.getElem?_eq_getElem hi⟩
  have h1 : l.toArray[i]? = some q := by simpa using hq
  have h2 : (l ++ [o]).toArray[i]? = some q := by
    rw [List.getElem?_toArray, List.getElem?_append_left hi]; exact hq
  obtain ⟨_, _, hs⟩ := lastB_spec hB
  have hg := (hs i q hq).1
  unfold wpOp at h ⊢
  simp only [h1] at h
  simp only [h2]
  have hw : ∀ ops t, Region.wanted q (yielded ops t) = true := fun ops t => by unfold Region.wanted; rw [hg]
  rw [hw, if_pos rfl] at h ⊢
  rcases h with h | ⟨h, hl⟩
  · refine .inl (Oper.wp_mono hK ?_)
    exact upon_last q a K _ h
  · exact .inr ⟨h, hl⟩
/-- what came up waited for nothing -/
def closedL (l : List Oper) (listed : Array Bool) : Prop := ∀ j q, l[j]? = some q → listed.getD j false = true → ∀ e ∈ q.after, Region.binds .any e = true → listed.getD e.on false = true
theorem ready_push {listed : Array Bool} {i : Nat} (hs : listed.size = l.length) (hcl : closedL l listed) (h : i ∈ Region.ready .any (l ++ [o]).toArray (listed.push false)) (hB : lastB l o = true) : (i = l.length ∧ ∀ j, j < l.length → listed.getD j false = true) ∨ (i < l.length ∧ i ∈ Region.ready .any l.toArray listed) := by
  obtain ⟨h1, q, h2, h3⟩ := mem_ready.1 h
  obtain ⟨_, hall, hs'⟩ := lastB_spec hB
  have getp : ∀ j b, j < l.length → (listed.push false).getD j b = listed.getD j b := fun j b hj => by
    rw [Array.getD_eq_getD_getElem?, Array.getD_eq_getD_getElem?, Array.getElem?_push_lt (by omega)]
    rw [Array.getElem?_eq_getElem (by omega)]
  rw [List.getElem?_toArray] at h2
  rcases Nat.lt_or_ge i l.length with k | k
  · right
    refine ⟨k, mem_ready.2 ⟨by rw [← getp i true k]; exact h1, q, by rw [List.getElem?_toArray]; rw [List.getElem?_append_left k] at h2; exact h2, fun e he hb => ?_⟩⟩
    rw [List.getElem?_append_left k] at h2
    have := (hs' i q h2).2 e he hb
    rw [← getp e.on false (by omega)]
    exact h3 e he hb
  · left
    have hi : i = l.length := by
      rcases Nat.lt_or_ge i (l ++ [o]).length with k' | k'
      · rw [List.length_append, List.length_singleton] at k'; omega
      · rw [List.getElem?_eq_none k'] at h2; cases h2
    subst hi
    rw [List.getElem?_append_right (Nat.le_refl _), Nat.sub_self] at h2
    have : o = q := by simpa using h2
    subst this
    refine ⟨rfl, ?_⟩
    have key : ∀ d j, l.length - j = d → j < l.length → listed.getD j false = true := by
      intro d
      induction d using Nat.strongRecOn with
      | _ d ih =>
        intro j hd hj
        rcases hall j hj with ⟨e, he, hb, rfl⟩ | ⟨k, q, hjk, hq, e, he, hb, rfl⟩
        · rw [← getp e.on false hj]
          exact h3 e he hb
        · have hkl : k < l.length := by
            rcases Nat.lt_or_ge k l.length with k' | k'
            · exact k'
            · rw [List.getElem?_eq_none k'] at hq; cases hq
          exact hcl k q hq (ih (l.length - k) (by omega) k rfl hkl) e he hb
    exact fun j hj => key _ j rfl hj
theorem all_listed {listed : Array Bool} (hs : listed.size = l.length) (hB : lastB l o = true) (h : Region.ready .any l.toArray listed = []) : ∀ n j, j ≤ n → j < l.length → listed.getD j false = true := by
  obtain ⟨_, _, hs'⟩ := lastB_spec hB
  have key : ∀ j, j < l.length → (∀ i, i < j → listed.getD i false = true) → listed.getD j false = true := by
    intro j hj hlt
    cases hb : listed.getD j false with
    | true => rfl
    | false =>
      obtain ⟨q, hq⟩ : ∃ q, l[j]? = some q := ⟨_, List.getElem?_eq_getElem hj⟩
      have hmem : j ∈ Region.ready .any l.toArray listed := by
        refine mem_ready.2 ⟨?_, q, by rw [List.getElem?_toArray]; exact hq, fun e he hbd => hlt e.on ((hs' j q hq).2 e he hbd)⟩
        rw [Array.getD_eq_getD_getElem?, Array.getElem?_eq_getElem (by omega)] at hb ⊢
        simpa using hb
      rw [h] at hmem
      cases hmem
  intro n
  induction n with
  | zero => intro j hj hl; exact key j hl (fun i hi => by omega)
  | succ n ih =>
    intro j hj hl
    refine key j hl fun i hi => ih i (by omega) (by omega)
theorem last_ready {listed : Array Bool} (hs : listed.size = l.length) (hB : lastB l o = true) (hall : ∀ j, j < l.length → listed.getD j false = true) : l.length ∈ Region.ready .any (l ++ [o]).toArray (listed.push false) := by
  refine mem_ready.2 ⟨?_, o, by rw [List.getElem?_toArray, List.getElem?_append_right (Nat.le_refl _), Nat.sub_self]; rfl, fun e he hb => ?_⟩
  · rw [Array.getD_eq_getD_getElem?, ← hs, Array.getElem?_push_size]; rfl
  · have hlt := (lastB_spec hB).1.2 e he hb
    rw [Array.getD_eq_getD_getElem?, Array.getElem?_push_lt (by omega)]
    have := hall e.on hlt
    rw [Array.getD_eq_getD_getElem?, Array.getElem?_eq_getElem (by omega)] at this
    exact this
theorem ready_back {listed : Array Bool} {i : Nat} (hs : listed.size = l.length) (hB : lastB l o = true) (h : i ∈ Region.ready .any l.toArray listed) : i ∈ Region.ready .any (l ++ [o]).toArray (listed.push false) := by
  obtain ⟨h1, q, h2, h3⟩ := mem_ready.1 h
  rw [List.getElem?_toArray] at h2
  have hil : i < l.length := by
    rcases Nat.lt_or_ge i l.length with k | k
    · exact k
    · rw [List.getElem?_eq_none k] at h2; cases h2
  have getp : ∀ j b, j < l.length → (listed.push false).getD j b = listed.getD j b := fun j b hj => by
    rw [Array.getD_eq_getD_getElem?, Array.getD_eq_getD_getElem?, Array.getElem?_push_lt (by omega)]
    rw [Array.getElem?_eq_getElem (by omega)]
  refine mem_ready.2 ⟨by rw [getp i true hil]; exact h1, q, by rw [List.getElem?_toArray, List.getElem?_append_left hil]; exact h2, fun e he hb => ?_⟩
  have := ((lastB_spec hB).2.2 i q h2).2 e he hb
  rw [getp e.on false (by omega)]
  exact h3 e he hb
theorem run_last {listed : Array Bool} {a : Act} {w : World} (hs : listed.size = l.length) (hB : lastB l o = true) (hall : ∀ j, j < l.length → listed.getD j false = true) (fuel : Nat) (h : lastQ P o Q .normal a w) :
    wpOp P (l ++ [o]).toArray Q l.length (wpAny P .any (l ++ [o]).toArray Q fuel ((listed.push false).setIfInBounds l.length true)) a w := by
  have h2 : (l ++ [o]).toArray[l.length]? = some o := by rw [List.getElem?_toArray, List.getElem?_append_right (Nat.le_refl _), Nat.sub_self]; rfl
  have hnone : Region.ready .any (l ++ [o]).toArray ((listed.push false).setIfInBounds l.length true) = [] := by
    rw [List.eq_nil_iff_forall_not_mem]
    intro i hi
    obtain ⟨h1, q, hq, _⟩ := mem_ready.1 hi
    rw [List.getElem?_toArray] at hq
    have hil : i < l.length + 1 := by
      rcases Nat.lt_or_ge i (l ++ [o]).length with k' | k'
      · rw [List.length_append, List.length_singleton] at k'; omega
      · rw [List.getElem?_eq_none k'] at hq; cases hq
    by_cases hi' : i = l.length
    · subst hi'
      rw [Array.getD_eq_getD_getElem?, Array.getElem?_setIfInBounds_self_of_lt (by rw [Array.size_push]; omega)] at h1
      cases h1
    · rw [Array.getD_eq_getD_getElem?, Array.getElem?_setIfInBounds_ne (fun e => hi' e.symm), Array.getElem?_push_lt (by omega)] at h1
      have := hall i (by omega)
      rw [Array.getD_eq_getD_getElem?, Array.getElem?_eq_getElem (by omega)] at this
      simp at this h1
      rw [this] at h1
      cases h1
  unfold wpOp
  simp only [h2]
  have hw : Region.wanted o (yielded (l ++ [o]).toArray a.tmps) = true := by unfold Region.wanted; rw [(lastB_spec hB).1.1]
  rw [hw, if_pos rfl]
  refine .inl (Oper.wp_mono (fun a' w' hq => ?_) h)
  cases fuel with
  | zero => exact ⟨hnone, hq⟩
  | succ fuel => exact ⟨fun _ => hq, fun i hi => by rw [hnone] at hi; cases hi⟩
theorem wpAny_last (hB : lastB l o = true) : ∀ (fuel : Nat) (listed : Array Bool) (a : Act) (w : World), listed.size = l.length → closedL l listed → wpAny P .any l.toArray (lastQ P o Q) fuel listed a w → wpAny P .any (l ++ [o]).toArray Q (fuel + 1) (listed.push false) a w
  | 0, listed, a, w, hs, hcl, h => by
    have hall : ∀ j, j < l.length → listed.getD j false = true := fun j hj => all_listed hs hB h.1 j j (Nat.le_refl _) hj
    refine ⟨fun h0 => ?_, fun i hi => ?_⟩
    · have := last_ready hs hB hall
      rw [h0] at this; cases this
    · rcases ready_push hs hcl hi hB with ⟨rfl, _⟩ | ⟨hil, hir⟩
      · exact run_last hs hB hall 0 h.2
      · rw [h.1] at hir; cases hir
  | fuel + 1, listed, a, w, hs, hcl, h => by
    refine ⟨fun h0 => ?_, fun i hi => ?_⟩
    · cases hr : Region.ready .any l.toArray listed with
      | nil =>
        have := last_ready hs hB (fun j hj => all_listed hs hB hr j j (Nat.le_refl _) hj)
        rw [h0] at this; cases this
      | cons i rs =>
        exfalso
        have hi : i ∈ Region.ready .any l.toArray listed := by rw [hr]; exact List.mem_cons_self ..
        have := ready_back (o := o) hs hB hi
        rw [h0] at this; cases this
    · rcases ready_push hs hcl hi hB with ⟨rfl, hall⟩ | ⟨hil, hir⟩
      · refine run_last hs hB hall (fuel + 1) (h.1 ?_)
        rw [List.eq_nil_iff_forall_not_mem]
        intro j hj
        obtain ⟨h1, q, hq, _⟩ := mem_ready.1 hj
        have hjl : j < l.length := by
          rw [List.getElem?_toArray] at hq
          rcases Nat.lt_or_ge j l.length with k' | k'
          · exact k'
          · rw [List.getElem?_eq_none k'] at hq; cases hq
        have := hall j hjl
        rw [Array.getD_eq_getD_getElem?, Array.getElem?_eq_getElem (by omega)] at this h1
        simp at this h1
        rw [this] at h1
        cases h1
      · have := h.2 i hir
        refine wpOp_last hB hil (fun a' w' hK => ?_) this
        have e : (listed.push false).setIfInBounds i true = (listed.setIfInBounds i true).push false := by
          apply Array.ext'
          rw [Array.toList_setIfInBounds, Array.toList_push, Array.toList_push, Array.toList_setIfInBounds, List.set_append, if_pos (by rw [Array.length_toList]; omega)]
        rw [e]
        refine wpAny_last hB fuel _ a' w' (by simpa using hs) ?_ hK
        obtain ⟨_, qi, hqi, hwait⟩ := mem_ready.1 hir
        rw [List.getElem?_toArray] at hqi
        intro j q hq hl e he hb
        have up : ∀ k, listed.getD k false = true → (listed.setIfInBounds i true).getD k false = true := fun k hk => by
          rw [Array.getD_eq_getD_getElem?] at hk ⊢
          by_cases hik : i = k
          · subst hik; rw [Array.getElem?_setIfInBounds_self_of_lt (by omega)]; rfl
          · rw [Array.getElem?_setIfInBounds_ne hik]; exact hk
        by_cases hji : i = j
        · subst hji
          rw [hqi] at hq; cases hq
          exact up _ (hwait e he hb)
        · refine up _ (hcl j q hq ?_ e he hb)
          rw [Array.getD_eq_getD_getElem?, Array.getElem?_setIfInBounds_ne hji] at hl
          rw [Array.getD_eq_getD_getElem?]; exact hl
/-- the others in whatever order, S held; then the last -/
theorem region_last {id : Nat} {a : Act} {w : World} {S : World → Prop} (hm : P.follows .mixedOrders = true) (hB : lastB l o = true) (hS : S w.drew)
    (h : S w.drew → wpAnyH P .any l.toArray (lastQ P o Q) S l.length (Array.replicate l.length false) a w.drew) : (Code.region id (l ++ [o]).toArray true).wp P Q a w := by
  refine wp_region_any hm ?_
  have h1 := wpAny_last hB l.length (Array.replicate l.length false) a w.drew (by simp) (fun j q _ hl => by rw [Array.getD_eq_getD_getElem?, Array.getElem?_replicate] at hl; split at hl <;> simp at hl) (wpAny_of_held _ _ _ _ (h hS))
  have e1 : (l ++ [o]).toArray.size = l.length + 1 := by simp
  have e2 : Array.replicate (l.length + 1) false = (Array.replicate l.length false).push false := by
    apply Array.ext'
    simp [List.replicate_succ']
  rw [e1, e2]
  exact h1
theorem region_lastL {id : Nat} {a : Act} {w : World} {S : World → Prop} {L : List Oper} (hne : L ≠ []) (hm : P.follows .mixedOrders = true) (hB : lastB L.dropLast (L.getLast hne) = true) (hS : S w.drew)
    (h : S w.drew → wpAnyH P .any L.dropLast.toArray (lastQ P (L.getLast hne) Q) S L.dropLast.length (Array.replicate L.dropLast.length false) a w.drew) : (Code.region id L.toArray true).wp P Q a w := by
  have := region_last (id := id) (Q := Q) (a := a) (w := w) hm hB hS h
  rwa [List.dropLast_concat_getLast] at this
end
end Go.Proofs.YtnbonghlmdnabaaDoor
