/-
  append of one string to a row of strings of the call's own: the new row is the old one's, or lies behind all that was there.
-/
import Derived.Test.YtmlgggnjghkojabDoorR4
namespace Go.Proofs.YtmlgggnjghkojabDoor
open Go.RowKit

theorem run_append_str (w : World) (ty : TypeId) (B : Nat) (v : Value) (a : List (List UInt8)) (hown : OwnS w B v a) (ad : Addr) (c : Nat) (x : ByteArray) (hx : w.cell? (ad.add 0) = some (.string x)) (hfit : (a.length + 1) * 16 ≤ 140737488355328) (hB : B ≤ w.heap.size) :
    ∃ v' w', (Builtin.append_ #[31, 31] ty #[v, .slice (some ad) 1 c]).run Tryd.prog w = .ok v' w' ∧ OwnS w' B v' (a ++ [x.data.toList]) ∧ w.grownBy w' v.ownBlock ∧ ∀ k, v'.ownBlock = some k → v.ownBlock = some k ∨ w.heap.size ≤ k := by
  obtain ⟨i0, hi, hz0, hz1, hz2⟩ := info_parts Tryd.infoStr
  have hnews : ∀ j u, [Value.string x][j]? = some u → w.cell? (ad.add j) = some u := by
    intro j u hj
    match j, hj with
    | 0, hj => simp at hj; subst hj; exact hx
  have h1 : ∀ u ∈ [Value.string x], u.oneCell' = true := by intro u hu; simp at hu; subst hu; rfl
  have h63 : a.length + 1 ≤ maxLen := by unfold maxLen; omega
  obtain ⟨v', w', hr, h2, h3, _⟩ := run_append_own (P := Tryd.prog) w B 31 ty 9 i0 (.string ⟨#[]⟩) 1 16 Tryd.underlying31 hi hz0 hz1 hz2 rfl (by decide) v a.length (SV a) hown ad 1 c [.string x] rfl hnews h1 h63 hfit hB
  refine ⟨v', w', hr, ?_, h3, ?_⟩
  · show w'.ownsRow _ _ _ _ _ _
    rw [SV_snoc, List.length_append]; exact h2
  · intro k hk
    have hl1 : [Value.string x].length = 1 * i0.size := by rw [hz1]; rfl
    rcases hown.2 with ⟨rfl, hn⟩ | ⟨g, cap, cur, rfl, hbg, hg, hnc, hcm, hcs, htake⟩
    · have hr2 := run_append_nil (P := Tryd.prog) w 31 ty 9 i0 (.string ⟨#[]⟩) Tryd.underlying31 hi hz0 ad 1 c [.string x] hl1 hnews (by omega) (by omega) (by rw [hz2]; omega)
      rw [hr] at hr2
      injection hr2 with e1 e2
      subst e1
      cases hk
      exact .inr (Nat.le_refl _)
    · by_cases hroom : a.length + 1 ≤ cap
      · have hr2 := run_append_room (P := Tryd.prog) w 31 ty 9 i0 Tryd.underlying31 hi g a.length cap cur hg ad 1 c [.string x] hl1 hnews h1 hroom (by rw [hz1, hcs]; simp; omega)
        rw [hr] at hr2
        injection hr2 with e1 e2
        subst e1
        exact .inl hk
      · have hol : (SV a).length = a.length * i0.size := by rw [hz1]; exact hown.1
        have hr2 := run_append_grow (P := Tryd.prog) w 31 ty 9 i0 (.string ⟨#[]⟩) Tryd.underlying31 hi hz0 ⟨g, 0, none⟩ a.length cap (SV a) hol (World.ownsRow.cells hown (g := g) rfl) ad 1 c [.string x] hl1 hnews (by omega) (by omega) (growslice_fits (by omega) (by rw [hz2]; exact hfit))
        rw [hr] at hr2
        injection hr2 with e1 e2
        subst e1
        cases hk
        exact .inr (Nat.le_refl _)

theorem wpList_append_str {w : World} {ops : Array Oper} {rest : List Oper} {o : Oper} {a : Act} {Q : Exit → Act → World → Prop} (hgd : o.guard = none) (s x : Operand)
    (ho : o.op = .call { callee := .builtin .append, args := #[s, x], argTypes := #[31, 31] }) (B : Nat) (v : Value) (l : List (List UInt8)) (hs : a.eval s = v) (hown : OwnS w B v l)
    (ad : Addr) (c : Nat) (y : ByteArray) (hx : a.eval x = .slice (some ad) 1 c) (hy : w.cell? (ad.add 0) = some (.string y)) (hfit : (l.length + 1) * 16 ≤ 140737488355328) (hB : B ≤ w.heap.size)
    (h : ∀ v' w', OwnS w' B v' (l ++ [y.data.toList]) → w.grownBy w' v.ownBlock → (∀ k, v'.ownBlock = some k → v.ownBlock = some k ∨ w.heap.size ≤ k) → wpList Tryd.prog ops Q rest (a.put o.dst v') w') : wpList Tryd.prog ops Q (o :: rest) a w :=
  wpList_plain hgd fun _ hK => by
    obtain ⟨v', w', hr, h2, h3, h4⟩ := run_append_str w o.type B v l hown ad c y hy hfit hB
    unfold Oper.wp execOp
    simp only [ho, resolve, invoke, builtin, Sem.run_bind, Sem.run_pure, Result.andThen_ok, List.map_toArray, List.map_cons, List.map_nil, hs, hx, hr]
    exact hK _ _ (h v' w' h2 h3 h4)
end Go.Proofs.YtmlgggnjghkojabDoor
