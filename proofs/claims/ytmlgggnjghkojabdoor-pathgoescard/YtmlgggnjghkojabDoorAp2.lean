/-
  append of a whole row of strings to nothing: a copy of the call's own.
-/
import Derived.Test.YtmlgggnjghkojabDoorAp
import Derived.Laws.AppendOwnNone
namespace Go.Proofs.YtmlgggnjghkojabDoor
open Go.RowKit

theorem one_cells (l : List (List UInt8)) : ∀ u ∈ SV l, u.oneCell' = true := by
  intro u hu
  obtain ⟨x, _, rfl⟩ := List.mem_map.1 hu
  rfl
theorem run_append_copy (w : World) (ty : TypeId) (B : Nat) (u : Value) (l : List (List UInt8)) (hown : OwnS w B u l) (hfit : l.length * 16 ≤ 140737488355328) :
    ∃ v' w', (Builtin.append_ #[31, 31] ty #[.slice none 0 0, u]).run Tryd.prog w = .ok v' w' ∧ OwnS w' w.heap.size v' l ∧ w.grownBy w' none := by
  obtain ⟨i0, hi, hz0, hz1, hz2⟩ := info_parts Tryd.infoStr
  rcases hown.2 with ⟨rfl, hn⟩ | ⟨g, cap, cur, rfl, hbg, hg, hnc, hcm, hcs, htake⟩
  · have hr := run_append_owned_none (P := Tryd.prog) (w := w) w.heap.size 31 ty 9 i0 1 Tryd.underlying31 hi (.slice none 0 0) 0 [] (World.ownsRow_nil _ _ _ _)
    refine ⟨_, _, hr, ?_, rfl, rfl, rfl, Nat.le_refl _, fun _ _ _ => rfl⟩
    rw [List.length_eq_zero_iff.1 hn]
    exact OwnS.nil _ _
  · have hnews : ∀ j v, (SV l)[j]? = some v → w.cell? ((⟨g, 0, none⟩ : Addr).add j) = some v := World.ownsRow.cells hown (g := g) rfl
    obtain ⟨v', w', hr, h2, h3, _⟩ := run_append_own (P := Tryd.prog) w w.heap.size 31 ty 9 i0 (.string ⟨#[]⟩) 1 16 Tryd.underlying31 hi hz0 hz1 hz2 rfl (by decide) (.slice none 0 0) 0 [] (World.ownsRow_nil _ _ _ _) ⟨g, 0, none⟩ l.length cap (SV l) (by rw [SV_length, Nat.mul_one]) hnews (one_cells l) (by unfold maxLen; omega) (by omega) (Nat.le_refl _)
    refine ⟨v', w', hr, ?_, h3⟩
    show w'.ownsRow _ _ _ _ _ _
    simpa using h2
theorem wpList_append_copy {w : World} {ops : Array Oper} {rest : List Oper} {o : Oper} {a : Act} {Q : Exit → Act → World → Prop} (hgd : o.guard = none) (s x : Operand)
    (ho : o.op = .call { callee := .builtin .append, args := #[s, x], argTypes := #[31, 31] }) (B : Nat) (u : Value) (l : List (List UInt8)) (hs : a.eval s = .slice none 0 0) (hx : a.eval x = u) (hown : OwnS w B u l) (hfit : l.length * 16 ≤ 140737488355328)
    (h : ∀ v' w', OwnS w' w.heap.size v' l → Below w.heap.size w w' → wpList Tryd.prog ops Q rest (a.put o.dst v') w') : wpList Tryd.prog ops Q (o :: rest) a w :=
  wpList_plain hgd fun _ hK => by
    obtain ⟨v', w', hr, h2, h3⟩ := run_append_copy w o.type B u l hown hfit
    unfold Oper.wp execOp
    simp only [ho, resolve, invoke, builtin, Sem.run_bind, Sem.run_pure, Result.andThen_ok, List.map_toArray, List.map_cons, List.map_nil, hs, hx, hr]
    exact hK _ _ (h v' w' h2 ((Below.refl _ _).grown h3 (Nat.le_refl _) (fun k hk => by cases hk)))
end Go.Proofs.YtmlgggnjghkojabDoor
