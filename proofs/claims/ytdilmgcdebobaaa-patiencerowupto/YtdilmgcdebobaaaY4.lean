/-
  The walks of sameInts, twin and works.
-/
import Derived.Test.YtdilmgcdebobaaaY3
import Derived.Test.YtdilmgcdebobaaaGrWc
import Derived.Test.YtdilmgcdebobaaaV7
namespace Go.Proofs.Ytdilmgcdebobaaa
open Go.RowKit
open Ed (Ch Run Pr)

theorem eq_at {l m : List Int} (hl : l.length = m.length) (h : ∀ (k : Nat) x, l[k]? = some x → m[k]? = some x) : l = m := by
  apply List.ext_getElem?
  intro k
  cases hk : l[k]? with
  | some x => rw [h k x hk]
  | none =>
    have : l.length ≤ k := List.getElem?_eq_none_iff.1 hk
    rw [List.getElem?_eq_none (by omega)]

set_option maxHeartbeats 2000000 in
theorem sameInts_any {v u : Value} {l m : List Int} {w : World} (hv : RdI w v l) (hu : RdI w u m) (hl : l.length ≤ 1000000000) (hm : m.length ≤ 1000000000) :
    Calls Try.prog 12 #[v, u] w fun e w' => e = .returned (.bool (decide (l = m))) ∧ Below w.heap.size w w' := by
  obtain ⟨a, c, rfl⟩ := hv.shape
  obtain ⟨a', c', rfl⟩ := hu.shape
  have HV := hid hv
  have HU := hid hu
  clear hv hu
  by_cases hlen : l.length = m.length
  · have hz : ((l.length : Int) == (m.length : Int)) = true := ieq (by omega)
    have HLEN := hid hlen
    clear hlen
    go_enter Try.func12, Try.ntmps12
    go_wp2
    go_loopw [5] (fun i wr => ∃ k : Nat, k ≤ l.length ∧ i = .int .i64 k ∧ (∃ q, wr = w.drewN q) ∧ Hid (∀ (j : Nat) x, j < k → l[j]? = some x → m[j]? = some x)) (fun i _ => l.length - (intOf i).toNat)
    case atStart => exact ⟨0, Nat.zero_le _, rfl, ⟨0, rfl⟩, fun j x hj => by omega⟩
    case round =>
      obtain ⟨k, hk, rfl, ⟨q, rfl⟩, HJ⟩ := hrel
      by_cases hlt : k < l.length
      · obtain ⟨x, hx⟩ : ∃ x, l[k]? = some x := ⟨_, List.getElem?_eq_getElem hlt⟩
        have hltm : k < m.length := by have := HLEN.out; omega
        obtain ⟨y, hy⟩ : ∃ y, m[k]? = some y := ⟨_, List.getElem?_eq_getElem hltm⟩
        obtain ⟨b1, o1, rfl, _, d1⟩ := rdI_at HV.out hx
        obtain ⟨b2, o2, rfl, _, d2⟩ := rdI_at HU.out hy
        have i1 : (0 : Int) ≤ (k : Int) := by omega
        have i2 : (k : Int) < (l.length : Int) := by omega
        have i3 : (k : Int) < (m.length : Int) := by omega
        by_cases hxy : x = y
        · have hz2 : (x == y) = true := zeq hxy
          have HJ2 : Hid (∀ (j : Nat) z, j < k + 1 → l[j]? = some z → m[j]? = some z) := hid (fun j z hj hz => by
            by_cases hjk : j = k
            · subst hjk; rw [hx] at hz; cases hz; rw [hy, hxy]
            · exact HJ.out j z (by omega) hz)
          clear HJ hx hy hxy
          go_wp2
          go_quiet (fail)
          go_wp2
          go_roundw
          case rel => exact ⟨k + 1, by omega, by go_num, ⟨_, by first | rfl | exact World.drewN_drewN _ _ _⟩, HJ2⟩
          case measure => simp [intOf]; omega
        · have hz2 : (x == y) = false := zne hxy
          have HE : Hid (decide (l = m) = false) := hid (decide_eq_false (fun e => by subst e; rw [hx] at hy; cases hy; exact hxy rfl))
          clear HJ hx hy hxy
          go_wp2
          go_quiet (fail)
          go_wp2
          go_ret
          exact ⟨ret_bool HE.out.symm, by first | exact below_drewN (below_drewN (Below.refl _ _) _) _ | exact below_drewN (Below.refl _ _) _⟩
      · have HE : Hid (decide (l = m) = true) := hid (decide_eq_true (eq_at HLEN.out (fun j x hj => HJ.out j x (by
          have : j < l.length := by
            rcases Nat.lt_or_ge j l.length with q | q
            · exact q
            · rw [List.getElem?_eq_none q] at hj; cases hj
          omega) hj)))
        clear HJ
        go_wp2
        go_ret
        exact ⟨ret_bool HE.out.symm, below_drewN (Below.refl _ _) _⟩
  · have hz : ((l.length : Int) == (m.length : Int)) = false := ine (by omega)
    have HE : Hid (decide (l = m) = false) := hid (decide_eq_false (fun e => hlen (by rw [e])))
    clear hlen
    go_enter Try.func12, Try.ntmps12
    go_wp2
    go_ret
    exact ⟨ret_bool HE.out.symm, Below.refl _ _⟩

set_option maxHeartbeats 1000000 in
theorem twinI_any {v : Value} {l : List Int} {w : World} (hr : RdI w v l) (hA : ArgS v) (hl : l.length ≤ 4194304) :
    Calls Try.prog 9 #[v] w fun e w' => ∃ v', e = .returned v' ∧ w'.ownsRow w.heap.size 3 1 v' l.length (isC l) ∧ Below w.heap.size w w' := by
  have HR := hid hr
  have HA := hid hA
  obtain ⟨a, c, rfl⟩ := hr.shape
  clear hr hA
  go_enter Try.func9, Try.ntmps9
  go_wp2_with (at_builtin; refine wpList_append_moreq rfl _ _ 22 3 rfl Try.underlying22 Try.infoInt rfl (by decide) w.heap.size _ 0 [] rfl (World.ownsRow_nil _ _ _ _) _ l.length (isC l) rfl HR.out HA.out (by rw [isC_length, Nat.mul_one]) (isC_one l) (by unfold maxLen; omega) (by omega) (Nat.le_refl _) ?_; intro v1 w1 hO1 hg1; have HO1 : Hid (w1.ownsRow w.heap.size 3 1 v1 l.length (isC l)) := hid (by simpa using hO1); have HB1 : Hid (Below w.heap.size w w1) := hid ((Below.refl w.heap.size w).grown hg1 (Nat.le_refl _) (fun k hk => by cases hk)); clear hO1 hg1)
  go_ret
  exact ⟨_, rfl, HO1.out, HB1.out⟩

theorem wk_anc : ([1, 2, 3, 2] : List Int).filterMap (ancW [1, 2, 3, 2] [3, 1, 4]) = [(0, 1), (2, 0)] := by decide
theorem wk_H : (1 : Nat) = hdN [1, 2, 3] [1, 3] (min ([1, 2, 3] : List Int).length ([1, 3] : List Int).length) 0 0 := by decide
theorem wk_T : (1 : Nat) = tlN [1, 2, 3] [1, 3] (min (([1, 2, 3] : List Int).length - 1) (([1, 3] : List Int).length - 1)) ([1, 2, 3] : List Int).length ([1, 3] : List Int).length := by decide
theorem wk_M : prM (dnM (upM (List.replicate ([1, 2, 3] : List Int).length (-1)) 0 0 1) ([1, 2, 3] : List Int).length ([1, 3] : List Int).length 1) ([1, 2, 3] : List Int).length = [(0, 0), (2, 1)] := by decide
theorem wk_D : Ed.ofL [(0, 0), (2, 1)] 0 0 3 2 = [⟨1, 1, 1, 0⟩] := by decide
theorem wk_row : Pn.RowOk (fn [3, 1, 2, 0, 4]) ([3, 1, 2, 0, 4] : List Int).length [1, 2, 4] where
  most := by decide
  last := by
    intro p hp
    simp at hp
    subst hp
    decide
  step := by
    intro k p q h1 h2
    match k with
    | 0 =>
      simp at h1 h2
      subst h1; subst h2
      decide
    | 1 =>
      simp at h1 h2
      subst h1; subst h2
      decide
    | k + 2 => simp at h2
theorem wk_six {l : List Int} (h : ∀ x ∈ l, -10 ≤ x ∧ x ≤ 10) : ∀ x ∈ l, I64 x := fun x hx => by
  have := h x hx
  unfold I64
  omega
attribute [local go_sem] pair_equal
set_option maxHeartbeats 4000000 in
set_option maxRecDepth 100000 in
theorem works8_any (w : World) : Calls Try.prog 13 #[] w fun e w' => e = .returned (.bool true) ∧ Below w.heap.size w w' := by
  obtain ⟨w1, hw1⟩ : ∃ w1, w1 = (w.alloc (.cells #[.int .i64 1, .int .i64 2, .int .i64 3, .int .i64 2] 3)).alloc (.cells #[.int .i64 3, .int .i64 1, .int .i64 4] 3) := ⟨_, rfl⟩
  have hb1 : Below w.heap.size w w1 := by rw [hw1]; exact ((Below.refl _ _).alloc (Nat.le_refl _) _).alloc (by simp) _
  have r1 : RdI w1 (.slice (some ⟨w.heap.size, 0, none⟩) 4 4) [1, 2, 3, 2] := by
    refine lit_rd (t := 3) ?_
    rw [hw1]
    exact ((Below.refl _ _).alloc (Nat.le_refl _) _ |>.block w.heap.size (by simp)).trans (heap_alloc_new w _)
  have r2 : RdI w1 (.slice (some ⟨w.heap.size + 1, 0, none⟩) 3 3) [3, 1, 4] := by
    refine lit_rd (t := 3) ?_
    rw [hw1]
    exact alloc_at _ (by simp)
  have HA := hid (anchorsW_any r1 r2 (by decide) (by decide) (wk_six (by decide)) (wk_six (by decide)))
  rw [wk_anc] at HA
  have HB1 := hid hb1
  have HW1 := hid hw1
  clear r1 r2 hb1 hw1
  go_enter Try.func13, Try.ntmps13
  go_wp2_with fail
  rw [← HW1.out]
  refine HA.out.mono ?_
  rintro e w2 ⟨r, rfl, hR, hb2⟩
  obtain ⟨ar, cr, rfl⟩ := hR.shape
  have HR := hid hR
  have HB2 := hid (HB1.out.trans (hb2.mono HB1.out.size))
  obtain ⟨w3, hw3⟩ : ∃ w3, w3 = (w2.alloc (.cells #[.int .i64 1, .int .i64 2, .int .i64 3] 3)).alloc (.cells #[.int .i64 1, .int .i64 3] 3) := ⟨_, rfl⟩
  have hb3 : Below w2.heap.size w2 w3 := by rw [hw3]; exact ((Below.refl _ _).alloc (Nat.le_refl _) _).alloc (by simp) _
  have r1 : RdI w3 (.slice (some ⟨w2.heap.size, 0, none⟩) 3 3) [1, 2, 3] := by
    refine lit_rd (t := 3) ?_
    rw [hw3]
    exact ((Below.refl _ _).alloc (Nat.le_refl _) _ |>.block w2.heap.size (by simp)).trans (heap_alloc_new w2 _)
  have r2 : RdI w3 (.slice (some ⟨w2.heap.size + 1, 0, none⟩) 2 2) [1, 3] := by
    refine lit_rd (t := 3) ?_
    rw [hw3]
    exact alloc_at _ (by simp)
  have HD := hid (pdiff_flat r1 r2 (by decide) (by decide) 1 1 wk_H wk_T (.inr (by decide)) (by rw [wk_M]; decide))
  rw [wk_M] at HD
  have HB3 := hid (HB2.out.trans (hb3.mono HB2.out.size))
  have HR3 := hid (HR.out.below hb3)
  have HW3 := hid hw3
  clear hR hb2 hb3 r1 r2 hw3 HA HW1 HR
  go_wp2_with fail
  rw [← HW3.out]
  refine HD.out.mono ?_
  rintro e w4 ⟨v4, rfl, hO4, hb4⟩
  have hC4 : RdC w4 v4 [⟨1, 1, 1, 0⟩] := by have h := own_rd hO4; have e : Ed.ofL [(0, 0), (2, 1)] 0 0 ([1, 2, 3] : List Int).length ([1, 3] : List Int).length = [⟨1, 1, 1, 0⟩] := wk_D; rw [e] at h; exact h
  obtain ⟨a4, c4, rfl⟩ := hC4.shape
  have HB4 := hid (HB3.out.trans (hb4.mono HB3.out.size))
  have HR4 := hid (HR3.out.below hb4)
  have HC4 := hid hC4
  obtain ⟨b1, o1, e1, hl1, d0, d1⟩ := rdP_at (k := 0) (x := (0, 1)) HR4.out rfl
  obtain ⟨b1', o1', e1', hl1', d2, d3⟩ := rdP_at (k := 1) (x := (2, 0)) HR4.out rfl
  subst e1
  cases e1'
  simp only [Nat.zero_mul, Nat.add_zero, Nat.one_mul] at d0 d1 d2 d3
  have hb5 : Below w4.heap.size w4 (w4.alloc (.cells #[.int .i64 3, .int .i64 1, .int .i64 2, .int .i64 0, .int .i64 4] 3)) := (Below.refl _ _).alloc (Nat.le_refl _) _
  have r5 : RdI (w4.alloc (.cells #[.int .i64 3, .int .i64 1, .int .i64 2, .int .i64 0, .int .i64 4] 3)) (.slice (some ⟨w4.heap.size, 0, none⟩) 5 5) [3, 1, 2, 0, 4] := lit_rd (t := 3) (alloc_at _ rfl)
  have HRS := hid (rising_any r5 (by decide))
  have HB5 := hid (HB4.out.trans (hb5.mono HB4.out.size))
  have HC5 := hid (HC4.out.below hb5)
  clear hO4 hb4 hC4 HD HW3 hb5 r5 HC4
  go_wp2_with fail
  refine HRS.out.mono ?_
  rintro e w6 ⟨v6, S, rfl, hO6, _, hS, hb6⟩
  rw [Pn.row_one hS wk_row] at hO6
  have hR6 : RdI w6 v6 [1, 2, 4] := own_rd hO6
  obtain ⟨a6, c6, rfl⟩ := hR6.shape
  have HB6 := hid (HB5.out.trans (hb6.mono HB5.out.size))
  have HC6 := hid (HC5.out.below hb6)
  have hb7 : Below w6.heap.size w6 (w6.alloc (.cells #[.int .i64 1, .int .i64 2, .int .i64 4] 3)) := (Below.refl _ _).alloc (Nat.le_refl _) _
  have r7 : RdI (w6.alloc (.cells #[.int .i64 1, .int .i64 2, .int .i64 4] 3)) (.slice (some ⟨w6.heap.size, 0, none⟩) 3 3) [1, 2, 4] := lit_rd (t := 3) (alloc_at _ rfl)
  have HSA := hid (sameInts_any (hR6.below hb7) r7 (by decide) (by decide))
  have HB7 := hid (HB6.out.trans (hb7.mono HB6.out.size))
  have HC7 := hid (HC6.out.below hb7)
  clear hO6 hS hb6 hR6 hb7 r7 HC5 HC6 HRS
  go_wp2_with fail
  refine HSA.out.mono ?_
  rintro e w8 ⟨rfl, hb8⟩
  have HB8 := hid (HB7.out.trans (hb8.mono HB7.out.size))
  have HC8 := hid (HC7.out.below hb8)
  obtain ⟨b4, o4, e4, hl4, f0, f1, f2, f3⟩ := rdC_at (k := 0) (x := ⟨1, 1, 1, 0⟩) HC8.out rfl
  subst e4
  simp only [Nat.zero_mul, Nat.add_zero] at f0 f1 f2 f3
  clear hb8 HC7 HSA
  go_wp2
  go_ret
  exact ⟨rfl, HB8.out⟩
end Go.Proofs.Ytdilmgcdebobaaa
