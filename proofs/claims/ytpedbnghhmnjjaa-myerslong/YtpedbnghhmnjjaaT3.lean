/-
  The walks of Distance and Common, of the document's Distance, Normal and Shortest, of the law's same.
-/
import Derived.Test.YtpedbnghhmnjjaaL7
import Derived.Test.YtpedbnghhmnjjaaS3
import Derived.Test.YtpedbnghhmnjjaaT2
namespace Go.Proofs.Ytpedbnghhmnjjaa
open Go.RowKit
open Ed (Ch Run Pr)

set_option maxHeartbeats 4000000 in
set_option maxRecDepth 100000 in
theorem distance_any {w : World} {v u : Value} {a b : List Int} (hv : RdI w v a) (hu : RdI w u b) (hla : a.length ≤ 2000000) (hlb : b.length ≤ 2000000) (hwa : ∀ x ∈ a, I64 x) (hwb : ∀ x ∈ b, I64 x) :
    Calls Try.prog 13 #[v, u] w fun e w' => e = .returned (.int .i64 (My.dst a b)) ∧ Below w.heap.size w w' := by
  obtain ⟨a0, c0, rfl⟩ := hv.shape
  obtain ⟨a1, c1, rfl⟩ := hu.shape
  have HD := hid (diff_any hv hu hla hlb hwa hwb)
  have hco := My.myD_cost (a := a) (b := b) (by omega) (by omega)
  have hle := My.lcs_le a b
  have hde := My.dst_eq a b
  have hsl := Val_len (My.myD_val (a := a) (b := b) (by omega) (by omega)).1
  obtain ⟨S, hS⟩ : ∃ S, S = My.myD a b := ⟨_, rfl⟩
  have HWF : Hid (∀ c ∈ S, WfC c) := hid (by rw [hS]; exact My.myD_wf (by omega) (by omega))
  rw [← hS] at HD hco hsl
  obtain ⟨X, hX⟩ : ∃ X, X = (Ed.costP S).1 := ⟨_, rfl⟩
  obtain ⟨Y, hY⟩ : ∃ Y, Y = (Ed.costP S).2 := ⟨_, rfl⟩
  have e1 : X = (a.length : Int) - My.lcs a b := by rw [hX, hco]
  have e2 : Y = (b.length : Int) - My.lcs a b := by rw [hY, hco]
  obtain ⟨D, hD⟩ : ∃ D, D = My.dst a b := ⟨_, rfl⟩
  rw [← hD] at hde ⊢
  have i1 : IntKind.i64.wrap (X + Y) = (D : Int) := (wrapOk (by omega) (by omega)).trans (by omega)
  have HX := hid hX
  have HY := hid hY
  clear hv hu hwa hwb hS hX hY hD e1 e2 hco hde hle
  go_enter Try.func13, Try.ntmps13
  go_wp2_with fail
  refine HD.out.mono ?_
  rintro e w1 ⟨v1, rfl, hO1, hb1⟩
  have HO1 := hid hO1
  have HB1 := hid hb1
  clear hO1 hb1
  go_wp2_with fail
  refine (cost_any (own_rd HO1.out) HWF.out (by omega)).mono ?_
  rintro e w2 ⟨rfl, hb2⟩
  rw [← HX.out, ← HY.out]
  have HB2 := hid hb2
  clear hb2
  go_wp2
  go_ret
  exact ⟨rfl, HB1.out.trans (HB2.out.mono HB1.out.size)⟩

set_option maxHeartbeats 4000000 in
set_option maxRecDepth 100000 in
theorem common_any {w : World} {v u : Value} {a b : List Int} (hv : RdI w v a) (hu : RdI w u b) (hla : a.length ≤ 2000000) (hlb : b.length ≤ 2000000) (hwa : ∀ x ∈ a, I64 x) (hwb : ∀ x ∈ b, I64 x) :
    Calls Try.prog 15 #[v, u] w fun e w' => e = .returned (.int .i64 (My.lcs a b)) ∧ Below w.heap.size w w' := by
  obtain ⟨a0, c0, rfl⟩ := hv.shape
  obtain ⟨a1, c1, rfl⟩ := hu.shape
  have HD := hid (distance_any hv hu hla hlb hwa hwb)
  have hle := My.lcs_le a b
  have hde := My.dst_eq a b
  obtain ⟨D, hD⟩ : ∃ D, D = My.dst a b := ⟨_, rfl⟩
  obtain ⟨C, hC⟩ : ∃ C, C = My.lcs a b := ⟨_, rfl⟩
  rw [← hD] at hde HD
  rw [← hC] at hde hle ⊢
  obtain ⟨L, hL⟩ : ∃ L : Nat, L = a.length + b.length := ⟨_, rfl⟩
  obtain ⟨E, hE⟩ : ∃ E : Nat, E = 2 * C := ⟨_, rfl⟩
  have i1 : IntKind.i64.wrap ((a.length : Int) + (b.length : Int)) = (L : Int) := (wrapOk (by omega) (by omega)).trans (by omega)
  have i2 : IntKind.i64.wrap ((L : Int) - (D : Int)) = (E : Int) := (wrapOk (by omega) (by omega)).trans (by omega)
  have i3 : wrap64 ((E : Int) / 2) = (C : Int) := (IntWalk.wrap64_in _ (by omega)).trans (by omega)
  clear hv hu hwa hwb hD hC hL hE hde hle
  go_enter Try.func15, Try.ntmps15
  go_wp2_with fail
  refine HD.out.mono ?_
  rintro e w1 ⟨rfl, hb1⟩
  have HB1 := hid hb1
  clear hb1
  go_wp2
  go_ret
  exact ⟨by show Ending.returned (.int .i64 (wrap64 ((E : Int) / 2))) = _; rw [i3], HB1.out⟩

set_option maxHeartbeats 4000000 in
set_option maxRecDepth 100000 in
theorem refDistance_any {w : World} {v u : Value} {a b : List Int} (hv : RdI w v a) (hu : RdI w u b) (hla : a.length ≤ 10000000) (hlb : b.length ≤ 10000000) :
    Calls Try.prog 14 #[v, u] w fun e w' => e = .returned (.int .i64 (My.dst a b)) ∧ Below w.heap.size w w' := by
  obtain ⟨a0, c0, rfl⟩ := hv.shape
  obtain ⟨a1, c1, rfl⟩ := hu.shape
  have HD := hid (refCommon_any hv hu hla hlb)
  have hle := My.lcs_le a b
  have hde := My.dst_eq a b
  obtain ⟨D, hD⟩ : ∃ D, D = My.dst a b := ⟨_, rfl⟩
  obtain ⟨C, hC⟩ : ∃ C, C = My.lcs a b := ⟨_, rfl⟩
  rw [← hD] at hde ⊢
  rw [← hC] at hde hle HD
  obtain ⟨L, hL⟩ : ∃ L : Nat, L = a.length + b.length := ⟨_, rfl⟩
  obtain ⟨E, hE⟩ : ∃ E : Nat, E = 2 * C := ⟨_, rfl⟩
  have i1 : IntKind.i64.wrap ((a.length : Int) + (b.length : Int)) = (L : Int) := (wrapOk (by omega) (by omega)).trans (by omega)
  have i2 : IntKind.i64.wrap (2 * (C : Int)) = (E : Int) := (wrapOk (by omega) (by omega)).trans (by omega)
  have i3 : IntKind.i64.wrap ((L : Int) - (E : Int)) = (D : Int) := (wrapOk (by omega) (by omega)).trans (by omega)
  clear hv hu hD hC hL hE hde hle
  go_enter Try.func14, Try.ntmps14
  go_wp2_with fail
  refine HD.out.mono ?_
  rintro e w1 ⟨rfl, hb1⟩
  have HB1 := hid hb1
  clear hb1
  go_wp2
  go_ret
  exact ⟨rfl, HB1.out⟩

theorem eq_at {l m : List Int} (hl : l.length = m.length) (h : ∀ (k : Nat) x, l[k]? = some x → m[k]? = some x) : l = m := by
  apply List.ext_getElem?
  intro k
  cases hk : l[k]? with
  | some x => rw [h k x hk]
  | none =>
    have : l.length ≤ k := List.getElem?_eq_none_iff.1 hk
    rw [List.getElem?_eq_none (by omega)]

set_option maxHeartbeats 2000000 in
theorem same_any {v u : Value} {l m : List Int} {w : World} (hv : RdI w v l) (hu : RdI w u m) (hl : l.length ≤ 1000000000) (hm : m.length ≤ 1000000000) :
    Calls Try.prog 11 #[v, u] w fun e w' => e = .returned (.bool (decide (l = m))) ∧ Below w.heap.size w w' := by
  obtain ⟨a, c, rfl⟩ := hv.shape
  obtain ⟨a', c', rfl⟩ := hu.shape
  have HV := hid hv
  have HU := hid hu
  clear hv hu
  by_cases hlen : l.length = m.length
  · have hz : ((l.length : Int) == (m.length : Int)) = true := ieq (by omega)
    have HLEN := hid hlen
    clear hlen
    go_enter Try.func11, Try.ntmps11
    go_wp2
    go_loopw [5] (fun i wr => ∃ k : Nat, k ≤ l.length ∧ i = .int .i64 k ∧ (∃ q, wr = w.drewN q) ∧ Hid (∀ (j : Nat) x, j < k → l[j]? = some x → m[j]? = some x)) (fun i _ => l.length - (intOf i).toNat)
    case atStart => exact ⟨0, Nat.zero_le _, rfl, ⟨0, rfl⟩, fun j x hj => by omega⟩
    case round =>
      obtain ⟨k, hk, rfl, ⟨q, rfl⟩, HJ⟩ := hrel
      by_cases hlt : k < l.length
      · obtain ⟨x, hx⟩ : ∃ x, l[k]? = some x := ⟨_, List.getElem?_eq_getElem hlt⟩
        have hltm : k < m.length := by have := HLEN.out; omega
        obtain ⟨y, hy⟩ : ∃ y, m[k]? = some y := ⟨_, List.getElem?_eq_getElem hltm⟩
        obtain ⟨b1, o1, rfl, _, d1⟩ := rdI_at HV.out hx
        obtain ⟨b2, o2, rfl, _, d2⟩ := rdI_at HU.out hy
        have i1 : (0 : Int) ≤ (k : Int) := by omega
        have i2 : (k : Int) < (l.length : Int) := by omega
        have i3 : (k : Int) < (m.length : Int) := by omega
        by_cases hxy : x = y
        · have hz2 : (x == y) = true := zeq hxy
          have HJ2 : Hid (∀ (j : Nat) z, j < k + 1 → l[j]? = some z → m[j]? = some z) := hid (fun j z hj hz => by
            by_cases hjk : j = k
            · subst hjk; rw [hx] at hz; cases hz; rw [hy, hxy]
            · exact HJ.out j z (by omega) hz)
          clear HJ hx hy hxy
          go_wp2
          go_quiet (fail)
          go_wp2
          go_roundw
          case rel => exact ⟨k + 1, by omega, by go_num, ⟨_, by first | rfl | exact World.drewN_drewN _ _ _⟩, HJ2⟩
          case measure => simp [intOf]; omega
        · have hz2 : (x == y) = false := zne hxy
          have HE : Hid (decide (l = m) = false) := hid (decide_eq_false (fun e => by subst e; rw [hx] at hy; cases hy; exact hxy rfl))
          clear HJ hx hy hxy
          go_wp2
          go_quiet (fail)
          go_wp2
          go_ret
          exact ⟨ret_bool HE.out.symm, by first | exact below_drewN (below_drewN (Below.refl _ _) _) _ | exact below_drewN (Below.refl _ _) _⟩
      · have HE : Hid (decide (l = m) = true) := hid (decide_eq_true (eq_at HLEN.out (fun j x hj => HJ.out j x (by
          have : j < l.length := by
            rcases Nat.lt_or_ge j l.length with q | q
            · exact q
            · rw [List.getElem?_eq_none q] at hj; cases hj
          omega) hj)))
        clear HJ
        go_wp2
        go_ret
        exact ⟨ret_bool HE.out.symm, below_drewN (Below.refl _ _) _⟩
  · have hz : ((l.length : Int) == (m.length : Int)) = false := ine (by omega)
    have HE : Hid (decide (l = m) = false) := hid (decide_eq_false (fun e => hlen (by rw [e])))
    clear hlen
    go_enter Try.func11, Try.ntmps11
    go_wp2
    go_ret
    exact ⟨ret_bool HE.out.symm, Below.refl _ _⟩

theorem lit_rd {w : World} {g : Nat} {cs : List Value} {t : TypeId} {n : Nat} (h : w.heap[g]? = some (.cells cs.toArray t)) : RdX w (.slice (some ⟨g, 0, none⟩) n n) n cs :=
  .inr ⟨g, 0, n, rfl, Nat.le_refl _, lt_of_heap h, fun j u hj => by rw [Nat.zero_add, cell_of_blk h]; simpa using hj⟩

end Go.Proofs.Ytpedbnghhmnjjaa
