/-
  The walk of the law's same (as D0).
-/
import Derived.Test.YtmomeemkdfoklaaDoorC2
namespace Go.Proofs.YtmomeemkdfoklaaDoor
open Go.RowKit
open Ed (Ch Run Pr)

theorem eq_at9 {l m : List Ch} (hl : l.length = m.length) (h : ∀ (k : Nat) x, l[k]? = some x → m[k]? = some x) : l = m := by
  apply List.ext_getElem?
  intro k
  cases hk : l[k]? with
  | some x => rw [h k x hk]
  | none =>
    have : l.length ≤ k := List.getElem?_eq_none_iff.1 hk
    rw [List.getElem?_eq_none (by omega)]

set_option maxHeartbeats 2000000 in
set_option maxRecDepth 100000 in
theorem same9_any {v u : Value} {l m : List Ch} {w : World} (hv : RdC w v l) (hu : RdC w u m) (hl : l.length ≤ 10000000000000) (hm : m.length ≤ 10000000000000) :
    Calls Tryd.prog 13 #[v, u] w fun e w' => e = .returned (.bool (decide (l = m))) ∧ Below w.heap.size w w' := by
  obtain ⟨a, c, rfl⟩ := hv.shape
  obtain ⟨a', c', rfl⟩ := hu.shape
  have HV := hid hv
  have HU := hid hu
  clear hv hu
  by_cases hlen : l.length = m.length
  · have hz : ((l.length : Int) == (m.length : Int)) = true := ieq (by omega)
    have HLEN := hid hlen
    clear hlen
    go_enter Tryd.func13, Tryd.ntmps13
    go_wp2
    go_loopw [5] (fun i wr => ∃ k : Nat, k ≤ l.length ∧ i = .int .i64 k ∧ (∃ q, wr = w.drewN q) ∧ Hid (∀ (j : Nat) x, j < k → l[j]? = some x → m[j]? = some x)) (fun i _ => l.length - (intOf i).toNat)
    case atStart => exact ⟨0, Nat.zero_le _, rfl, ⟨0, rfl⟩, fun j x hj => by omega⟩
    case round =>
      obtain ⟨k, hk, rfl, ⟨q, rfl⟩, HJ⟩ := hrel
      by_cases hlt : k < l.length
      · obtain ⟨x, hx⟩ : ∃ x, l[k]? = some x := ⟨_, List.getElem?_eq_getElem hlt⟩
        have hltm : k < m.length := by have := HLEN.out; omega
        obtain ⟨y, hy⟩ : ∃ y, m[k]? = some y := ⟨_, List.getElem?_eq_getElem hltm⟩
        obtain ⟨b1, o1, rfl, _, d1, d2, d3, d4⟩ := rdC_at HV.out hx
        obtain ⟨b2, o2, rfl, _, e1, e2, e3, e4⟩ := rdC_at HU.out hy
        have i1 : (0 : Int) ≤ (k : Int) := by omega
        have i2 : (k : Int) < (l.length : Int) := by omega
        have i3 : (k : Int) < (m.length : Int) := by omega
        by_cases hxy : x = y
        · have HJ2 : Hid (∀ (j : Nat) z, j < k + 1 → l[j]? = some z → m[j]? = some z) := hid (fun j z hj hz => by
            by_cases hjk : j = k
            · subst hjk; rw [hx] at hz; cases hz; rw [hy, hxy]
            · exact HJ.out j z (by omega) hz)
          subst hxy
          clear HJ hx hy
          go_wp2
          go_quiet (fail)
          go_wp2
          go_roundw
          case rel => exact ⟨k + 1, by omega, by go_num, ⟨_, by first | rfl | exact World.drewN_drewN _ _ _⟩, HJ2⟩
          case measure => simp [intOf]; omega
        · have HE : Hid (decide (l = m) = false) := hid (decide_eq_false (fun e => by subst e; rw [hx] at hy; cases hy; exact hxy rfl))
          clear HJ hx hy
          obtain ⟨xa, xn, xb, xm⟩ := x
          obtain ⟨ya, yn, yb, ym⟩ := y
          dsimp only at d1 d2 d3 d4 e1 e2 e3 e4
          by_cases ha : xa = ya
          case neg =>
            have za : (xa == ya) = false := zne ha
            clear hxy
            go_wp2
            go_quiet (fail)
            go_wp2
            go_ret
            exact ⟨ret_bool HE.out.symm, by first | exact below_drewN (below_drewN (Below.refl _ _) _) _ | exact below_drewN (Below.refl _ _) _⟩
          subst ha
          by_cases hn : xn = yn
          case neg =>
            have zn : (xn == yn) = false := zne hn
            clear hxy
            go_wp2
            go_quiet (fail)
            go_wp2
            go_ret
            exact ⟨ret_bool HE.out.symm, by first | exact below_drewN (below_drewN (Below.refl _ _) _) _ | exact below_drewN (Below.refl _ _) _⟩
          subst hn
          by_cases hb : xb = yb
          case neg =>
            have zb : (xb == yb) = false := zne hb
            clear hxy
            go_wp2
            go_quiet (fail)
            go_wp2
            go_ret
            exact ⟨ret_bool HE.out.symm, by first | exact below_drewN (below_drewN (Below.refl _ _) _) _ | exact below_drewN (Below.refl _ _) _⟩
          subst hb
          by_cases hm : xm = ym
          case neg =>
            have zm : (xm == ym) = false := zne hm
            clear hxy
            go_wp2
            go_quiet (fail)
            go_wp2
            go_ret
            exact ⟨ret_bool HE.out.symm, by first | exact below_drewN (below_drewN (Below.refl _ _) _) _ | exact below_drewN (Below.refl _ _) _⟩
          subst hm
          exact absurd rfl hxy
      · have HE : Hid (decide (l = m) = true) := hid (decide_eq_true (eq_at9 HLEN.out (fun j x hj => HJ.out j x (by
          have : j < l.length := by
            rcases Nat.lt_or_ge j l.length with q | q
            · exact q
            · rw [List.getElem?_eq_none q] at hj; cases hj
          omega) hj)))
        clear HJ
        go_wp2
        go_ret
        exact ⟨ret_bool HE.out.symm, below_drewN (Below.refl _ _) _⟩
  · have hz : ((l.length : Int) == (m.length : Int)) = false := ine (by omega)
    have HE : Hid (decide (l = m) = false) := hid (decide_eq_false (fun e => hlen (by rw [e])))
    clear hlen
    go_enter Tryd.func13, Tryd.ntmps13
    go_wp2
    go_ret
    exact ⟨ret_bool HE.out.symm, Below.refl _ _⟩
end Go.Proofs.YtmomeemkdfoklaaDoor
