/-
  Of, both, whatever the numbers; samePairs; a list of pairs, appended whole.
-/
import Derived.Test.YtjgjfnmljmmplaaDoorD2
import Derived.Laws.OwnMore
import Derived.Laws.StructEq
namespace Go.Proofs.YtjgjfnmljmmplaaDoor
open Go.RowKit
open Ed (Ch Run Pr)

/-- the script of pairs, where there is one -/
def ofA (P : List Pr) (n m : Int) : List Ch := if ofN P n m = 0 then Ed.ofL P 0 0 n m else []
theorem ofN_arg {P : List Pr} {n m : Int} (h : Ed.cnt n = false ∨ Ed.cnt m = false) : ofN P n m = 1 ∧ ofA P n m = [] := by
  have e : ofN P n m = 1 := by
    unfold ofN
    rw [if_neg]
    rw [Bool.and_eq_true]
    rintro ⟨h1, h2⟩
    rcases h with h | h
    · rw [h1] at h; cases h
    · rw [h2] at h; cases h
  exact ⟨e, by unfold ofA; rw [e]; rfl⟩
theorem ofN_bad {P : List Pr} {n m : Int} (hn : Ed.cnt n = true) (hm : Ed.cnt m = true) (h : Ed.rise P 0 0 n m = false) : ofN P n m = 60 ∧ ofA P n m = [] := by
  have e : ofN P n m = 60 := by unfold ofN; rw [hn, hm, h]; rfl
  exact ⟨e, by unfold ofA; rw [e]; rfl⟩
theorem ofN_good {P : List Pr} {n m : Int} (hn : Ed.cnt n = true) (hm : Ed.cnt m = true) (h : Ed.rise P 0 0 n m = true) : ofN P n m = 0 ∧ ofA P n m = Ed.ofL P 0 0 n m := by
  have e : ofN P n m = 0 := by unfold ofN; rw [hn, hm, h]; rfl
  exact ⟨e, by unfold ofA; rw [e]; rfl⟩

set_option maxHeartbeats 2000000 in
theorem refOf_all {v : Value} {P : List Pr} {n m : Int} {w : World} (hr : RdP w v P) (hwf : ∀ p ∈ P, WfP p) (hl : P.length ≤ 10000000000000) :
    Calls Tryd.prog 34 #[v, .int .i64 n, .int .i64 m] w fun e w' => ∃ v', e = .returned (.tuple #[v', .int .i64 (ofN P n m)]) ∧ OwnC w' w.heap.size v' (ofA P n m) ∧ Below w.heap.size w w' := by
  have key : ∀ (h : Ed.cnt n = false ∨ Ed.cnt m = false), Calls Tryd.prog 34 #[v, .int .i64 n, .int .i64 m] w fun e w' => ∃ v', e = .returned (.tuple #[v', .int .i64 (ofN P n m)]) ∧ OwnC w' w.heap.size v' (ofA P n m) ∧ Below w.heap.size w w' := by
    intro h
    obtain ⟨e1, e2⟩ := ofN_arg (P := P) h
    rw [e1, e2]
    obtain ⟨a, c, rfl⟩ := hr.shape
    clear hr hwf
    have h' : (n < 0 ∨ 4194304 < n) ∨ (m < 0 ∨ 4194304 < m) := by
      rcases h with h | h
      · left
        by_cases q : 0 ≤ n ∧ n ≤ 4194304
        · rw [Ed.cnt_iff.2 q] at h; cases h
        · omega
      · right
        by_cases q : 0 ≤ m ∧ m ≤ 4194304
        · rw [Ed.cnt_iff.2 q] at h; cases h
        · omega
    clear h
    by_cases g0 : n < 0
    · go_enter Tryd.func34, Tryd.ntmps34
      go_wp2
      go_ret2
      exact ⟨_, rfl, World.ownsRow_nil _ _ _ _, Below.refl _ _⟩
    by_cases g1 : 4194304 < n
    · go_enter Tryd.func34, Tryd.ntmps34
      go_wp2
      go_ret2
      exact ⟨_, rfl, World.ownsRow_nil _ _ _ _, Below.refl _ _⟩
    by_cases g2 : m < 0
    · go_enter Tryd.func34, Tryd.ntmps34
      go_wp2
      go_ret2
      exact ⟨_, rfl, World.ownsRow_nil _ _ _ _, Below.refl _ _⟩
    have g3 : 4194304 < m := by omega
    go_enter Tryd.func34, Tryd.ntmps34
    go_wp2
    go_ret2
    exact ⟨_, rfl, World.ownsRow_nil _ _ _ _, Below.refl _ _⟩
  cases hcn : Ed.cnt n with
  | false => exact key (.inl hcn)
  | true =>
    cases hcm : Ed.cnt m with
    | false => exact key (.inr hcm)
    | true =>
      refine (refOf_any hr hwf hl hcn hcm).mono ?_
      rintro e w' ⟨⟨h1, rfl⟩ | ⟨h1, v', rfl, hO⟩, hb⟩
      · obtain ⟨e1, e2⟩ := ofN_bad hcn hcm h1
        rw [e1, e2]
        exact ⟨_, rfl, World.ownsRow_nil _ _ _ _, hb⟩
      · obtain ⟨e1, e2⟩ := ofN_good hcn hcm h1
        rw [e1, e2]
        exact ⟨v', rfl, hO, hb⟩

/-! ### samePairs -/
theorem run_equalIn_pair (w : World) (d : Nat) (x1 x2 y1 y2 : Int) : (Op.equalIn (d + 2) 106 (.agg #[.int .i64 x1, .int .i64 x2]) (.agg #[.int .i64 y1, .int .i64 y2])).run Tryd.prog w = .ok (x1 == y1 && x2 == y2) w := by
  have hsz : ∀ w, (sizeOf 3).run Tryd.prog w = .ok 1 w := fun w => by kernel_rfl
  have hr : List.range' 0 2 = [0, 1] := rfl
  rw [Op.equalIn]
  cases h1 : (x1 == y1) <;> cases h2 : (x2 == y2) <;> simp [run_underlying Tryd.underlying106, run_underlying Tryd.underlying3, hsz, part, isAgg, run_equalIn_int (P := Tryd.prog) w d 3 .i64 .i64 _ _ Tryd.underlying3, h1, h2, hr]
theorem pair_equal (w : World) (x1 x2 y1 y2 : Int) : (Op.equalIn 10000 106 (.agg #[.int .i64 x1, .int .i64 x2]) (.agg #[.int .i64 y1, .int .i64 y2])).run Tryd.prog w = .ok (x1 == y1 && x2 == y2) w := run_equalIn_pair w 9998 x1 x2 y1 y2
attribute [local go_sem] pair_equal
theorem eq_atP {l m : List Pr} (hl : l.length = m.length) (h : ∀ (k : Nat) x, l[k]? = some x → m[k]? = some x) : l = m := by
  apply List.ext_getElem?
  intro k
  cases hk : l[k]? with
  | some x => rw [h k x hk]
  | none =>
    have : l.length ≤ k := List.getElem?_eq_none_iff.1 hk
    rw [List.getElem?_eq_none (by omega)]
/-! ### append of a whole list to nothing -/
/-- what an argument's row is -/
def ArgS (v : Value) : Prop := v = .slice none 0 0 ∨ ∃ ad n c, v = .slice (some ad) n c
theorem wpList_append_new {w : World} {ops : Array Oper} {rest : List Oper} {o : Oper} {a : Act} {Q : Exit → Act → World → Prop} (hgd : o.guard = none) (s x : Operand) (t e : TypeId)
    (ho : o.op = .call { callee := .builtin .append, args := #[s, x], argTypes := #[t, t] }) {z : Value} {sz bytes : Nat} (hu : Tryd.prog.underlying t = some (.slice e)) (hinf : (Tryd.prog.info? e).map (fun i => (i.zero, i.size, i.bytes)) = some (some z, sz, bytes)) (hzc : z.cells.size = sz) (hsz : 0 < sz)
    (hs : a.eval s = .slice none 0 0) (u : Value) (n : Nat) (cs : List Value) (hx : a.eval x = u) (hr : RdX w u n cs) (hA : ArgS u) (hlen : cs.length = n * sz) (h1 : ∀ y ∈ cs, y.oneCell' = true) (h63 : n ≤ maxLen) (hby : n * bytes ≤ 140737488355328)
    (h : ∀ v' w', w'.ownsRow w.heap.size e sz v' n cs → Below w.heap.size w w' → wpList Tryd.prog ops Q rest (a.put o.dst v') w') : wpList Tryd.prog ops Q (o :: rest) a w :=
  wpList_plain hgd fun _ hK => by
    obtain ⟨i0, hi, hz0, hz1, hz2⟩ := info_parts hinf
    have hown0 : w.ownsRow w.heap.size e sz (.slice none 0 0) 0 [] := World.ownsRow_nil _ _ _ _
    have hrun : ∃ v' w', (Builtin.append_ #[t, t] o.type #[.slice none 0 0, u]).run Tryd.prog w = .ok v' w' ∧ w'.ownsRow w.heap.size e sz v' n cs ∧ Below w.heap.size w w' := by
      rcases hA with rfl | ⟨ad, n', c, rfl⟩
      · rcases hr with ⟨rfl, _⟩ | ⟨b, o', c, hv, _⟩
        · have hcs : cs = [] := List.length_eq_zero_iff.1 (by rw [hlen]; simp)
          subst hcs
          exact ⟨_, _, run_append_owned_none (P := Tryd.prog) (w := w) w.heap.size t o.type e i0 sz hu hi _ 0 [] hown0, hown0, Below.refl _ _⟩
        · cases hv
      · have hnn : n' = n ∧ ∀ j y, cs[j]? = some y → w.cell? (ad.add j) = some y := by
          rcases hr with ⟨rfl, a', c', hv⟩ | ⟨b, o', c', hv, _, _, hX⟩
          · cases hv
            have hcs : cs = [] := List.length_eq_zero_iff.1 (by rw [hlen]; simp)
            subst hcs
            exact ⟨rfl, fun j y hj => by simp at hj⟩
          · cases hv
            refine ⟨rfl, fun j y hj => ?_⟩
            rw [Go.WideShapes.add_plain]
            exact hX j y hj
        obtain ⟨rfl, hnews⟩ := hnn
        obtain ⟨v', w', hr', h2, h3, _⟩ := run_append_own (P := Tryd.prog) w w.heap.size t o.type e i0 z sz bytes hu hi hz0 hz1 hz2 hzc hsz _ 0 [] hown0 ad n' c cs hlen hnews h1 (by omega) (by rw [Nat.zero_add]; exact hby) (Nat.le_refl _)
        exact ⟨v', w', hr', by simpa using h2, (Below.refl _ _).grown h3 (Nat.le_refl _) (fun k hk => by cases hk)⟩
    obtain ⟨v', w', hrun, h2, h3⟩ := hrun
    unfold Oper.wp execOp
    simp only [ho, resolve, invoke, builtin, Sem.run_bind, Sem.run_pure, Result.andThen_ok, List.map_toArray, List.map_cons, List.map_nil, hs, hx, hrun]
    exact hK _ _ (h v' w' h2 h3)
theorem Tryd.infoPair : (Tryd.prog.info? 106).map (fun i => (i.zero, i.size, i.bytes)) = some (some (.agg #[.int .i64 0, .int .i64 0]), 2, 16) := by kernel_rfl
end Go.Proofs.YtjgjfnmljmmplaaDoor
