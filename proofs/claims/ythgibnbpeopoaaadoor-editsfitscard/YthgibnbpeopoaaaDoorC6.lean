/-
  The walks of sameInts and works.
-/
import Derived.Test.YthgibnbpeopoaaaDoorC5
import Derived.Test.YthgibnbpeopoaaaDoorNum
namespace Go.Proofs.YthgibnbpeopoaaaDoor
open Go.RowKit
open Ed (Ch Run Pr)

theorem num_any (n : Nat) (w : World) (hg : ErrVar w) : Calls Tryd.prog 10 #[errV n] w fun e w' => e = .returned (.int .i64 n) ∧ Below w.heap.size w w' := by
  unfold errV
  split
  · next h => subst h; exact num_nil w
  · exact num_errno n w hg
theorem eq_at {l m : List Int} (hl : l.length = m.length) (h : ∀ (k : Nat) x, l[k]? = some x → m[k]? = some x) : l = m := by
  apply List.ext_getElem?
  intro k
  cases hk : l[k]? with
  | some x => rw [h k x hk]
  | none =>
    have : l.length ≤ k := List.getElem?_eq_none_iff.1 hk
    rw [List.getElem?_eq_none (by omega)]

set_option maxHeartbeats 2000000 in
theorem sameInts_any {v u : Value} {l m : List Int} {w : World} (hv : RdI w v l) (hu : RdI w u m) (hl : l.length ≤ 1000000000) (hm : m.length ≤ 1000000000) :
    Calls Tryd.prog 13 #[v, u] w fun e w' => e = .returned (.bool (decide (l = m))) ∧ Below w.heap.size w w' := by
  obtain ⟨a, c, rfl⟩ := hv.shape
  obtain ⟨a', c', rfl⟩ := hu.shape
  have HV := hid hv
  have HU := hid hu
  clear hv hu
  by_cases hlen : l.length = m.length
  · have hz : ((l.length : Int) == (m.length : Int)) = true := ieq (by omega)
    have HLEN := hid hlen
    clear hlen
    go_enter Tryd.func13, Tryd.ntmps13
    go_wp2
    go_loopw [5] (fun i wr => ∃ k : Nat, k ≤ l.length ∧ i = .int .i64 k ∧ (∃ q, wr = w.drewN q) ∧ Hid (∀ (j : Nat) x, j < k → l[j]? = some x → m[j]? = some x)) (fun i _ => l.length - (intOf i).toNat)
    case atStart => exact ⟨0, Nat.zero_le _, rfl, ⟨0, rfl⟩, fun j x hj => by omega⟩
    case round =>
      obtain ⟨k, hk, rfl, ⟨q, rfl⟩, HJ⟩ := hrel
      by_cases hlt : k < l.length
      · obtain ⟨x, hx⟩ : ∃ x, l[k]? = some x := ⟨_, List.getElem?_eq_getElem hlt⟩
        have hltm : k < m.length := by have := HLEN.out; omega
        obtain ⟨y, hy⟩ : ∃ y, m[k]? = some y := ⟨_, List.getElem?_eq_getElem hltm⟩
        obtain ⟨b1, o1, rfl, _, d1⟩ := rdI_at HV.out hx
        obtain ⟨b2, o2, rfl, _, d2⟩ := rdI_at HU.out hy
        have i1 : (0 : Int) ≤ (k : Int) := by omega
        have i2 : (k : Int) < (l.length : Int) := by omega
        have i3 : (k : Int) < (m.length : Int) := by omega
        by_cases hxy : x = y
        · have hz2 : (x == y) = true := zeq hxy
          have HJ2 : Hid (∀ (j : Nat) z, j < k + 1 → l[j]? = some z → m[j]? = some z) := hid (fun j z hj hz => by
            by_cases hjk : j = k
            · subst hjk; rw [hx] at hz; cases hz; rw [hy, hxy]
            · exact HJ.out j z (by omega) hz)
          clear HJ hx hy hxy
          go_wp2
          go_quiet (fail)
          go_wp2
          go_roundw
          case rel => exact ⟨k + 1, by omega, by go_num, ⟨_, by first | rfl | exact World.drewN_drewN _ _ _⟩, HJ2⟩
          case measure => simp [intOf]; omega
        · have hz2 : (x == y) = false := zne hxy
          have HE : Hid (decide (l = m) = false) := hid (decide_eq_false (fun e => by subst e; rw [hx] at hy; cases hy; exact hxy rfl))
          clear HJ hx hy hxy
          go_wp2
          go_quiet (fail)
          go_wp2
          go_ret
          exact ⟨ret_bool HE.out.symm, by first | exact below_drewN (below_drewN (Below.refl _ _) _) _ | exact below_drewN (Below.refl _ _) _⟩
      · have HE : Hid (decide (l = m) = true) := hid (decide_eq_true (eq_at HLEN.out (fun j x hj => HJ.out j x (by
          have : j < l.length := by
            rcases Nat.lt_or_ge j l.length with q | q
            · exact q
            · rw [List.getElem?_eq_none q] at hj; cases hj
          omega) hj)))
        clear HJ
        go_wp2
        go_ret
        exact ⟨ret_bool HE.out.symm, below_drewN (Below.refl _ _) _⟩
  · have hz : ((l.length : Int) == (m.length : Int)) = false := ine (by omega)
    have HE : Hid (decide (l = m) = false) := hid (decide_eq_false (fun e => hlen (by rw [e])))
    clear hlen
    go_enter Tryd.func13, Tryd.ntmps13
    go_wp2
    go_ret
    exact ⟨ret_bool HE.out.symm, Below.refl _ _⟩

def wkS : List Ch := [⟨0, 1, 0, 0⟩, ⟨1, 0, 0, 2⟩]
theorem wk_val : Ed.Val wkS 2 3 := ⟨by decide, by decide, by decide⟩
theorem wk_normal : Ed.normal wkS 2 3 = [⟨0, 1, 0, 2⟩] := by decide
theorem wk_apply : Ed.apP (Ed.runs wkS 2 0 0) [1, 2] [8, 9, 2] = [8, 9, 2] := by decide
theorem wk_bad : Ed.validN wkS 3 3 = 60 := by decide
theorem wk_good : Ed.validN wkS 2 3 = 0 := by decide
theorem wk_wf : ∀ c ∈ wkS, WfC c := by
  intro c hc
  unfold wkS at hc
  simp at hc
  rcases hc with rfl | rfl <;> (unfold WfC I64; simp)
theorem lit_rd {w : World} {g : Nat} {cs : List Value} {t : TypeId} {n : Nat} (h : w.heap[g]? = some (.cells cs.toArray t)) : RdX w (.slice (some ⟨g, 0, none⟩) n n) n cs :=
  .inr ⟨g, 0, n, rfl, Nat.le_refl _, lt_of_heap h, fun j u hj => by rw [Nat.zero_add, cell_of_blk h]; simpa using hj⟩

set_option maxHeartbeats 4000000 in
set_option maxRecDepth 100000 in
theorem works_any (w : World) (hg : ErrVar w) : Calls Tryd.prog 14 #[] w fun e w' => e = .returned (.bool true) ∧ Below w.heap.size w w' := by
  have HG := hid hg
  clear hg
  have hbA : Below w.heap.size w (w.alloc (.cells #[.int .i64 0, .int .i64 1, .int .i64 0, .int .i64 0, .int .i64 1, .int .i64 0, .int .i64 0, .int .i64 2] 61)) := (Below.refl _ _).alloc (Nat.le_refl _) _
  have hA := heap_alloc_new w (.cells #[.int .i64 0, .int .i64 1, .int .i64 0, .int .i64 0, .int .i64 1, .int .i64 0, .int .i64 0, .int .i64 2] 61)
  go_enter Tryd.func14, Tryd.ntmps14
  go_wp2_with fail
  generalize (w.alloc (.cells #[.int .i64 0, .int .i64 1, .int .i64 0, .int .i64 0, .int .i64 1, .int .i64 0, .int .i64 0, .int .i64 2] 61)) = w0 at hbA hA ⊢
  have HS0 : Hid (RdC w0 (.slice (some ⟨w.heap.size, 0, none⟩) 2 2) wkS) := hid (lit_rd (cs := csC wkS) hA)
  have HB0 := hid hbA
  clear hA hbA
  obtain ⟨sb, hsb⟩ : ∃ sb, sb = w.heap.size := ⟨_, rfl⟩
  rw [← hsb] at HS0 ⊢
  have HSB := hid hsb
  clear hsb
  refine (normal_any HS0.out wk_wf wk_val).mono ?_
  rintro e w1 ⟨vt, rfl, hO1, hb1⟩
  rw [wk_normal] at hO1
  have HS1 := hid (HS0.out.below hb1)
  have HB1 := hid (HB0.out.trans (hb1.mono HB0.out.size))
  have HO1 := hid hO1
  obtain ⟨at1, ct1, rfl⟩ := own_shape hO1
  clear hO1 hb1 HS0 HB0
  go_wp2_with fail
  have hbC : Below w1.heap.size w1 ((w1.alloc (.cells #[.int .i64 1, .int .i64 2] 3)).alloc (.cells #[.int .i64 8, .int .i64 9, .int .i64 2] 3)) := ((Below.refl _ _).alloc (Nat.le_refl _) _).alloc (by simp) _
  have hC1 : ((w1.alloc (.cells #[.int .i64 1, .int .i64 2] 3)).alloc (.cells #[.int .i64 8, .int .i64 9, .int .i64 2] 3)).heap[w1.heap.size]? = some (.cells #[.int .i64 1, .int .i64 2] 3) := (((Below.refl (w1.heap.size + 1) _).alloc (by simp) _).block w1.heap.size (by omega)).trans (heap_alloc_new w1 _)
  have hC2 : ((w1.alloc (.cells #[.int .i64 1, .int .i64 2] 3)).alloc (.cells #[.int .i64 8, .int .i64 9, .int .i64 2] 3)).heap[w1.heap.size + 1]? = some (.cells #[.int .i64 8, .int .i64 9, .int .i64 2] 3) := by
    have := heap_alloc_new (w1.alloc (.cells #[.int .i64 1, .int .i64 2] 3)) (.cells #[.int .i64 8, .int .i64 9, .int .i64 2] 3)
    simpa using this
  generalize ((w1.alloc (.cells #[.int .i64 1, .int .i64 2] 3)).alloc (.cells #[.int .i64 8, .int .i64 9, .int .i64 2] 3)) = w2 at hbC hC1 hC2 ⊢
  refine (apply_any (s := wkS) (a := [1, 2]) (b := [8, 9, 2]) (HS1.out.below hbC) wk_wf (lit_rd (cs := isC [1, 2]) hC1) (lit_rd (cs := isC [8, 9, 2]) hC2) wk_val).mono ?_
  rintro e w3 ⟨vl, rfl, hO3, hb3⟩
  have hO3' : OwnI w3 w2.heap.size vl [8, 9, 2] := by
    have h := hO3
    rw [show ((([1, 2] : List Int).length : Nat) : Int) = 2 from rfl, wk_apply] at h
    exact h
  obtain ⟨al, cl, rfl⟩ := own_shape hO3'
  have HS3 := hid ((HS1.out.below hbC).below hb3)
  have HO13 := hid (own_stays (own_stays HO1.out hbC) hb3)
  have HO3 := hid hO3'
  have HB3 := hid (HB1.out.trans ((hbC.trans (hb3.mono hbC.size)).mono HB1.out.size))
  clear hO3 hO3' hb3 hC1 hC2 hbC HS1 HO1 HB1
  go_wp2_with fail
  refine (valid_any HS3.out wk_wf (by decide)).mono ?_
  rintro e w4 ⟨rfl, hb4⟩
  rw [wk_good, errV_zero]
  have HS4 := hid (HS3.out.below hb4)
  have HO14 := hid (own_stays HO13.out hb4)
  have HO4 := hid (own_stays HO3.out hb4)
  have HB4 := hid (HB3.out.trans (hb4.mono HB3.out.size))
  clear hb4 HS3 HO13 HO3 HB3
  go_wp2_with fail
  refine (valid_any HS4.out wk_wf (by decide)).mono ?_
  rintro e w5 ⟨rfl, hb5⟩
  rw [wk_bad]
  have HO15 := hid (own_stays HO14.out hb5)
  have HO5 := hid (own_stays HO4.out hb5)
  have HB5 := hid (HB4.out.trans (hb5.mono HB4.out.size))
  clear hb5 HS4 HO14 HO4 HB4
  go_wp2_with fail
  refine (num_any 60 _ (HG.out.below HB5.out)).mono ?_
  rintro e w6 ⟨rfl, hb6⟩
  have HO16 := hid (own_stays HO15.out hb6)
  have HO6 := hid (own_stays HO5.out hb6)
  have HB6 := hid (HB5.out.trans (hb6.mono HB5.out.size))
  clear hb6 HO15 HO5 HB5
  obtain ⟨tb, to, htb, _, q0, q1, q2, q3⟩ := rdC_at (own_rd HO16.out) (k := 0) (x := ⟨0, 1, 0, 2⟩) rfl
  subst htb
  simp only [Nat.zero_mul, Nat.add_zero] at q0 q1 q2 q3
  go_wp2_with fail
  have hbD : Below w6.heap.size w6 (w6.alloc (.cells #[.int .i64 8, .int .i64 9, .int .i64 2] 3)) := (Below.refl _ _).alloc (Nat.le_refl _) _
  have hD : (w6.alloc (.cells #[.int .i64 8, .int .i64 9, .int .i64 2] 3)).heap[w6.heap.size]? = some (.cells #[.int .i64 8, .int .i64 9, .int .i64 2] 3) := heap_alloc_new w6 _
  refine (sameInts_any (l := [8, 9, 2]) (m := [8, 9, 2]) (own_rd (own_stays HO6.out hbD)) (lit_rd (cs := isC [8, 9, 2]) hD) (by decide) (by decide)).mono ?_
  rintro e w7 ⟨rfl, hb7⟩
  rw [decide_eq_true rfl]
  have HB7 := hid (HB6.out.trans ((hbD.trans (hb7.mono hbD.size)).mono HB6.out.size))
  clear hbD hD hb7
  go_wp2
  go_ret
  exact ⟨rfl, HB7.out⟩
end Go.Proofs.YthgibnbpeopoaaaDoor
