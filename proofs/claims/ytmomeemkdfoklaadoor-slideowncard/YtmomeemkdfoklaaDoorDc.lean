/-
  Rows of numbers: a part of one, one put behind another; a region that draws its order and whose last operations alone write; slices.Equal.
-/
import Derived.Test.YtmomeemkdfoklaaDoorGrD7
import Derived.Test.YtmomeemkdfoklaaDoorD3
import Derived.Test.YtmomeemkdfoklaaDoorGrNum
import Derived.StillTailTactics
import Derived.BigQuiet
namespace Go.Proofs.YtmomeemkdfoklaaDoor
open Go.RowKit
open Ed (Ch Run Pr)

theorem still_of_quiet {P : Program} {ops : Array Oper} {w1 : World} {Q : Act → Prop} : ∀ (l : List Oper) (a : Act), wpQuiet P ops (fun w' => w' = w1) Q l a → wpStill P ops w1 Q l a
  | [], _, h => h
  | o :: rest, a, h => by
    unfold wpQuiet at h
    unfold wpStill
    split
    · next hw =>
      rw [if_pos hw] at h
      obtain ⟨v, h1, h2⟩ := h
      have h3 := h1 w1 rfl
      have h4 := still_of_quiet rest _ h2
      unfold Oper.quietAt at h3
      unfold Oper.still
      generalize (execOp a.eval o).run P w1 = r at h3 ⊢
      unfold Oper.quietUpon at h3
      unfold Oper.stillUpon
      split at h3
      · obtain ⟨e1, e2⟩ := h3
        subst e2
        exact ⟨e1, h4⟩
      · obtain ⟨e1, e2⟩ := h3
        subst e2
        exact ⟨e1, h4⟩
      · obtain ⟨e1, e2⟩ := h3
        exact ⟨e1, v, e2, h4⟩
      · exact h3.elim
    · next hw =>
      rw [if_neg hw] at h
      exact still_of_quiet rest _ h
theorem wp_region_qtail {P : Program} {id : Nat} {Q : Exit → Act → World → Prop} {a : Act} {w : World} {l : List Oper} (n : Nat) (hm : P.follows .mixedOrders = true) (hB : Region.lexTailB .any l.toArray n = true)
    (h : wpQuiet P l.toArray (fun w' => w' = w.drewN 1) (fun a' => wpList P l.toArray Q (l.drop n) a' (w.drewN 1)) (l.take n) a) : (Code.region id l.toArray true).wp P Q a w :=
  wp_region_still_tail n hm hB (still_of_quiet _ _ h)

/-- a part of a row -/
theorem rd_sliced {w : World} {a : Option Addr} {n c : Nat} {l : List Int} (h : RdX w (.slice a n c) n (isC l)) (hA : ArgS (.slice a n c)) (hl : l.length = n) {x y : Nat} (hxy : x ≤ y) (hy : y ≤ n) :
    RdX w (.slice (if c = x then a else a.map (·.add x)) (y - x) (c - x)) (y - x) (isC (Ed.sl l x ((y : Int) - x))) ∧ ArgS (.slice (if c = x then a else a.map (·.add x)) (y - x) (c - x)) := by
  have e : Ed.sl l x ((y : Int) - x) = (l.drop x).take (y - x) := by
    unfold Ed.sl
    rw [show ((x : Int)).toNat = x by omega, show ((y : Int) - x).toNat = y - x by omega]
  rw [e]
  constructor
  · rcases Nat.eq_or_lt_of_le hxy with rfl | hlt
    · rw [Nat.sub_self]
      exact .inl ⟨rfl, _, _, rfl⟩
    · rcases h with ⟨hn, _⟩ | ⟨b, o, c', hv, hc, hb, hX⟩
      · omega
      · cases hv
        rw [if_neg (by omega)]
        refine .inr ⟨b, o + x, c - x, ?_, by omega, hb, fun j u hj => ?_⟩
        · show Value.slice (some ((⟨b, o, none⟩ : Addr).add x)) _ _ = _
          rw [Go.WideShapes.add_plain]
        · have hj' : (isC l)[x + j]? = some u := by
            unfold isC at hj ⊢
            rw [List.getElem?_map] at hj ⊢
            rw [List.getElem?_take] at hj
            split at hj
            · rw [List.getElem?_drop] at hj; exact hj
            · cases hj
          have := hX (x + j) u hj'
          rw [Nat.add_assoc]; exact this
  · rcases hA with hv | ⟨ad, n', c', hv⟩
    · cases hv
      left
      rw [show y = 0 by omega, show x = 0 by omega]
      rfl
    · cases hv
      right
      split
      · exact ⟨_, _, _, rfl⟩
      · exact ⟨_, _, _, rfl⟩

theorem wpList_append_more {w : World} {ops : Array Oper} {rest : List Oper} {o : Oper} {a : Act} {Q : Exit → Act → World → Prop} (hgd : o.guard = none) (s x : Operand) (t e : TypeId)
    (ho : o.op = .call { callee := .builtin .append, args := #[s, x], argTypes := #[t, t] }) {z : Value} {sz bytes : Nat} (hu : Tryd.prog.underlying t = some (.slice e)) (hinf : (Tryd.prog.info? e).map (fun i => (i.zero, i.size, i.bytes)) = some (some z, sz, bytes)) (hzc : z.cells.size = sz) (hsz : 0 < sz)
    (B : Nat) (v : Value) (k : Nat) (xs : List Value) (hs : a.eval s = v) (hown : w.ownsRow B e sz v k xs) (u : Value) (n : Nat) (cs : List Value) (hx : a.eval x = u) (hr : RdX w u n cs) (hA : ArgS u) (hlen : cs.length = n * sz) (h1 : ∀ y ∈ cs, y.oneCell' = true) (h63 : k + n ≤ maxLen) (hby : (k + n) * bytes ≤ 140737488355328) (hB : B ≤ w.heap.size)
    (h : ∀ v' w', w'.ownsRow B e sz v' (k + n) (xs ++ cs) → w.grownBy w' v.ownBlock → wpList Tryd.prog ops Q rest (a.put o.dst v') w') : wpList Tryd.prog ops Q (o :: rest) a w :=
  wpList_plain hgd fun _ hK => by
    obtain ⟨i0, hi, hz0, hz1, hz2⟩ := info_parts hinf
    have hrun : ∃ v' w', (Builtin.append_ #[t, t] o.type #[v, u]).run Tryd.prog w = .ok v' w' ∧ w'.ownsRow B e sz v' (k + n) (xs ++ cs) ∧ w.grownBy w' v.ownBlock := by
      rcases hA with rfl | ⟨ad, n', c, rfl⟩
      · rcases hr with ⟨rfl, _⟩ | ⟨b, o', c, hv, _⟩
        · have hcs : cs = [] := List.length_eq_zero_iff.1 (by rw [hlen]; simp)
          subst hcs
          refine ⟨_, _, run_append_owned_none (P := Tryd.prog) (w := w) B t o.type e i0 sz hu hi v k xs hown, by simpa using hown, rfl, rfl, rfl, Nat.le_refl _, fun _ _ _ => rfl⟩
        · cases hv
      · have hnn : n' = n ∧ ∀ j y, cs[j]? = some y → w.cell? (ad.add j) = some y := by
          rcases hr with ⟨rfl, a', c', hv⟩ | ⟨b, o', c', hv, _, _, hX⟩
          · cases hv
            have hcs : cs = [] := List.length_eq_zero_iff.1 (by rw [hlen]; simp)
            subst hcs
            exact ⟨rfl, fun j y hj => by simp at hj⟩
          · cases hv
            refine ⟨rfl, fun j y hj => ?_⟩
            rw [Go.WideShapes.add_plain]
            exact hX j y hj
        obtain ⟨rfl, hnews⟩ := hnn
        obtain ⟨v', w', hr', h2, h3, _⟩ := run_append_own (P := Tryd.prog) w B t o.type e i0 z sz bytes hu hi hz0 hz1 hz2 hzc hsz v k xs hown ad n' c cs hlen hnews h1 h63 hby hB
        exact ⟨v', w', hr', h2, h3⟩
    obtain ⟨v', w', hrun, h2, h3⟩ := hrun
    unfold Oper.wp execOp
    simp only [ho, resolve, invoke, builtin, Sem.run_bind, Sem.run_pure, Result.andThen_ok, List.map_toArray, List.map_cons, List.map_nil, hs, hx, hrun]
    exact hK _ _ (h v' w' h2 h3)

set_option maxHeartbeats 2000000 in
theorem equal_any {v u : Value} {l m : List Int} {w : World} (hv : RdI w v l) (hu : RdI w u m) (hl : l.length ≤ 1000000000) (hm : m.length ≤ 1000000000) :
    Calls Tryd.prog 33 #[v, u] w fun e w' => e = .returned (.bool (decide (l = m))) ∧ Below w.heap.size w w' := by
  obtain ⟨a, c, rfl⟩ := hv.shape
  obtain ⟨a', c', rfl⟩ := hu.shape
  have HV := hid hv
  have HU := hid hu
  clear hv hu
  by_cases hlen : l.length = m.length
  · have hz : ((l.length : Int) == (m.length : Int)) = true := ieq (by omega)
    have HLEN := hid hlen
    clear hlen
    go_enter Tryd.func33, Tryd.ntmps33
    go_wp2
    go_loopw [13] (fun i wr => ∃ k : Nat, k ≤ l.length ∧ i = .int .i64 k ∧ (∃ q, wr = w.drewN q) ∧ Hid (∀ (j : Nat) x, j < k → l[j]? = some x → m[j]? = some x)) (fun i _ => l.length - (intOf i).toNat)
    case atStart => exact ⟨0, Nat.zero_le _, rfl, ⟨0, rfl⟩, fun j x hj => by omega⟩
    case round =>
      obtain ⟨k, hk, rfl, ⟨q, rfl⟩, HJ⟩ := hrel
      by_cases hlt : k < l.length
      · obtain ⟨x, hx⟩ : ∃ x, l[k]? = some x := ⟨_, List.getElem?_eq_getElem hlt⟩
        have hltm : k < m.length := by have := HLEN.out; omega
        obtain ⟨y, hy⟩ : ∃ y, m[k]? = some y := ⟨_, List.getElem?_eq_getElem hltm⟩
        obtain ⟨b1, o1, rfl, _, d1⟩ := rdI_at HV.out hx
        obtain ⟨b2, o2, rfl, _, d2⟩ := rdI_at HU.out hy
        have i1 : (0 : Int) ≤ (k : Int) := by omega
        have i2 : (k : Int) < (l.length : Int) := by omega
        have i3 : (k : Int) < (m.length : Int) := by omega
        by_cases hxy : x = y
        · have hz2 : (x == y) = true := zeq hxy
          have HJ2 : Hid (∀ (j : Nat) z, j < k + 1 → l[j]? = some z → m[j]? = some z) := hid (fun j z hj hz => by
            by_cases hjk : j = k
            · subst hjk; rw [hx] at hz; cases hz; rw [hy, hxy]
            · exact HJ.out j z (by omega) hz)
          clear HJ hx hy hxy
          go_wp2
          go_quiet (fail)
          go_wp2
          go_roundw
          case rel => exact ⟨k + 1, by omega, by go_num, ⟨_, by first | rfl | exact World.drewN_drewN _ _ _⟩, HJ2⟩
          case measure => simp [intOf]; omega
        · have hz2 : (x == y) = false := zne hxy
          have HE : Hid (decide (l = m) = false) := hid (decide_eq_false (fun e => by subst e; rw [hx] at hy; cases hy; exact hxy rfl))
          clear HJ hx hy hxy
          go_wp2
          go_quiet (fail)
          go_wp2
          go_ret
          exact ⟨ret_bool HE.out.symm, by first | exact below_drewN (below_drewN (Below.refl _ _) _) _ | exact below_drewN (Below.refl _ _) _⟩
      · have HE : Hid (decide (l = m) = true) := hid (decide_eq_true (eq_at HLEN.out (fun j x hj => HJ.out j x (by
          have : j < l.length := by
            rcases Nat.lt_or_ge j l.length with q | q
            · exact q
            · rw [List.getElem?_eq_none q] at hj; cases hj
          omega) hj)))
        clear HJ
        go_wp2
        go_ret
        exact ⟨ret_bool HE.out.symm, below_drewN (Below.refl _ _) _⟩
  · have hz : ((l.length : Int) == (m.length : Int)) = false := ine (by omega)
    have HE : Hid (decide (l = m) = false) := hid (decide_eq_false (fun e => hlen (by rw [e])))
    clear hlen
    go_enter Tryd.func33, Tryd.ntmps33
    go_wp2
    go_ret
    exact ⟨ret_bool HE.out.symm, Below.refl _ _⟩
end Go.Proofs.YtmomeemkdfoklaaDoor
