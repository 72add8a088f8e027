/-
  What the law of long rows leans on: two rows of numbers of the call's own side by side; rows that are alike but for some places.
-/
import Derived.Test.YtpedbnghhmnjjaaT6
namespace Go.Proofs.Ytpedbnghhmnjjaa
open Go.RowKit
open Ed (Ch Run Pr)

def Apart (u v : Value) : Prop := ∀ k, u.ownBlock = some k → v.ownBlock ≠ some k
theorem Apart.symm {u v : Value} (h : Apart u v) : Apart v u := fun k h1 h2 => h k h2 h1
theorem apart_none (v : Value) : Apart (.slice none 0 0) v := fun k h => by cases h
theorem kept_row {w w' : World} {base n size : Nat} {e : TypeId} {v u : Value} {xs : List Value} (h : w.ownsRow base e size u n xs) (hg : w.grownBy w' v.ownBlock) (ha : Apart v u) : w'.ownsRow base e size u n xs :=
  World.ownsRow.kept h hg (by
    cases hu : u.ownBlock with
    | none => exact .inl rfl
    | some k => exact .inr fun e => ha k e.symm hu)
theorem apart_new {w : World} {base n size : Nat} {e : TypeId} {v v' u : Value} {xs : List Value} (h : w.ownsRow base e size u n xs) (ha : Apart v u) (hl : ∀ k, v'.ownBlock = some k → v.ownBlock = some k ∨ w.heap.size ≤ k) : Apart v' u := by
  intro k h1 h2
  rcases hl k h1 with h3 | h3
  · exact ha k h3 h2
  · have := own_lt h k h2
    omega
/-- what an append does to the world, where its row lies -/
def Grew (w w' : World) (v v' : Value) : Prop := w.grownBy w' v.ownBlock ∧ (∀ k, v'.ownBlock = some k → v.ownBlock = some k ∨ w.heap.size ≤ k)
/-- append of one number, at a plain region -/
theorem wpList_append_in {w : World} {ops : Array Oper} {rest : List Oper} {o : Oper} {a : Act} {Q : Exit → Act → World → Prop} (hgd : o.guard = none) (s x : Operand)
    (ho : o.op = .call { callee := .builtin .append, args := #[s, x], argTypes := #[22, 22] }) (B : Nat) (v : Value) (l : List Int) (hs : a.eval s = v) (hown : OwnI w B v l)
    (g0 cp : Nat) (n : Int) (hx : a.eval x = .slice (some ⟨g0, 0, none⟩) 1 cp) (hy : w.cell? ⟨g0, 0, none⟩ = some (.int .i64 n)) (hfit : l.length ≤ 1000000000) (hB : B ≤ w.heap.size)
    (h : ∀ v' w', OwnI w' B v' (l ++ [n]) → Grew w w' v v' → wpList Try.prog ops Q rest (a.put o.dst v') w') : wpList Try.prog ops Q (o :: rest) a w := by
  obtain ⟨i0, hi, hz0, hz1, hz2⟩ := info_parts Try.infoInt
  refine wpList_append_lies _ hgd s x 22 ho B 3 i0 (.int .i64 0) 1 8 Try.underlying22 hi hz0 hz1 hz2 rfl (by decide) v l.length (isC l) hs hown ⟨g0, 0, none⟩ 1 cp [.int .i64 n] hx rfl ?_ ?_ (by decide) ?_ ?_ hB w.heap.size rfl ?_
  · intro j u hj
    match j, hj with
    | 0, hj => simp at hj; subst hj; rw [Go.WideShapes.add_plain]; exact hy
  · intro u hu; simp at hu; subst hu; rfl
  · unfold maxLen; omega
  · omega
  · intro g cap w' h2 h3 h4 _
    refine h _ w' ?_ ⟨h3, ?_⟩
    · show w'.ownsRow _ _ _ _ _ _
      rw [List.length_append, isC_append]
      exact h2
    · intro k hk
      cases hk
      rcases h4 with h4 | h4
      · exact .inl h4
      · exact .inr (Nat.le_of_eq h4.symm)
theorem own_setI {w : World} {B g n c k : Nat} {l : List Int} (h : w.ownsRow B 3 1 (.slice (some ⟨g, 0, none⟩) n c) n (isC l)) (z : Int) : (w.setCell ⟨g, k, none⟩ (.int .i64 z)).ownsRow B 3 1 (.slice (some ⟨g, 0, none⟩) n c) n (isC (l.set k z)) := by
  obtain ⟨h1, h2⟩ := h
  rcases h2 with ⟨hv, _⟩ | ⟨g', cap, cur, hv, hg, hh, hc, hm, hsz, ht⟩
  · cases hv
  · cases hv
    refine ⟨by rw [isC_length, List.length_set, ← isC_length]; exact h1, .inr ⟨g, c, _, rfl, hg, set_heap _ g k _ _ _ hh, hc, hm, by simpa using hsz, ?_⟩⟩
    rw [show isC (l.set k z) = (isC l).set k (.int .i64 z) by unfold isC; rw [List.map_set], ← ht]
    simp only [Array.toList_setIfInBounds, List.take_set]
/-- the row of the law -/
def sev (n : Nat) : List Int := (List.range n).map fun i : Nat => (i : Int) % 7
theorem sev_len (n : Nat) : (sev n).length = n := by unfold sev; simp
theorem sev_next (n : Nat) : sev (n + 1) = sev n ++ [(n : Int) % 7] := by unfold sev; rw [List.range_succ, List.map_append]; rfl
theorem sev_in (n : Nat) : ∀ x ∈ sev n, 0 ≤ x ∧ x ≤ 1000 := by
  intro x hx
  unfold sev at hx
  obtain ⟨i, _, rfl⟩ := List.mem_map.1 hx
  omega
theorem dst_set (l : List Int) (k : Nat) (x : Int) : My.dst l (l.set k x) ≤ 2 := by
  by_cases hk : k < l.length
  · have h1 : (l.take k ++ l.drop (k + 1)).Sublist l := by
      have := (List.sublist_cons_self l[k] (l.drop (k + 1))).append_left (l.take k)
      rw [← List.drop_eq_getElem_cons hk, List.take_append_drop] at this
      exact this
    have h2 : (l.take k ++ l.drop (k + 1)).Sublist (l.set k x) := by
      rw [List.set_eq_take_append_cons_drop, if_pos hk]
      exact (List.sublist_cons_self _ _).append_left _
    have h3 := My.lcs_max h1 h2
    have h4 := My.dst_eq l (l.set k x)
    rw [List.length_append, List.length_take, List.length_drop] at h3
    rw [List.length_set] at h4
    omega
  · rw [List.set_eq_of_length_le (by omega), (My.dst_zero l l).2 rfl]
    omega
theorem mem_set {l : List Int} {k : Nat} {x : Int} (h : ∀ y ∈ l, 0 ≤ y ∧ y ≤ 1000) (hx : 0 ≤ x ∧ x ≤ 1000) : ∀ y ∈ l.set k x, 0 ≤ y ∧ y ≤ 1000 := fun y hy => by
  rcases List.mem_or_eq_of_mem_set hy with h1 | rfl
  · exact h y h1
  · exact hx
theorem run_min2' (t : TypeId) (x y : Int) (w : World) : (Builtin.min_ #[3, 3] t #[.int .i64 x, .int .i64 y]).run Try.prog w = .ok (.int .i64 (min x y)) w := by
  by_cases h : y < x
  · simp [Builtin.min_, Builtin.min2, go_sem, h]; omega
  · simp [Builtin.min_, Builtin.min2, go_sem, h]; omega
theorem tmod_in (x : Int) (k : Nat) (hk : 0 < k) (h3 : k ≤ 3000) : ∃ I : Nat, (wrap64 (x.tmod k + k)).tmod k = (I : Int) ∧ I < k := by
  have hb : -(k : Int) < x.tmod k ∧ x.tmod k < k := by
    rcases Int.le_total 0 x with h | h
    · rw [Int.tmod_eq_emod_of_nonneg h]
      have h1 := Int.emod_nonneg x (show (k : Int) ≠ 0 by omega)
      have h2 := Int.emod_lt_of_pos x (show (0 : Int) < k by omega)
      omega
    · obtain ⟨y, rfl⟩ : ∃ y, x = -y := ⟨-x, by omega⟩
      rw [Int.neg_tmod, Int.tmod_eq_emod_of_nonneg (by omega)]
      have h1 := Int.emod_nonneg y (show (k : Int) ≠ 0 by omega)
      have h2 := Int.emod_lt_of_pos y (show (0 : Int) < k by omega)
      omega
  generalize x.tmod k = r at hb
  rw [IntWalk.wrap64_in _ (by omega), Int.tmod_eq_emod_of_nonneg (by omega)]
  have h1 := Int.emod_nonneg (r + k) (show (k : Int) ≠ 0 by omega)
  have h2 := Int.emod_lt_of_pos (r + k) (show (0 : Int) < k by omega)
  generalize (r + k) % (k : Int) = q at h1 h2
  exact ⟨q.toNat, by omega, by omega⟩
end Go.Proofs.Ytpedbnghhmnjjaa
