/-
  The walks of the document's Normal and Shortest, of the law's sure.
-/
import Derived.Test.YtpedbnghhmnjjaaT3
namespace Go.Proofs.Ytpedbnghhmnjjaa
open Go.RowKit
open Ed (Ch Run Pr)

set_option maxHeartbeats 4000000 in
set_option maxRecDepth 100000 in
theorem refNormal_any {w : World} {v : Value} {s : List Ch} {n m : Int} (hr : RdC w v s) (hV : Ed.Val s n m) (ha : Ed.apart s) :
    Calls Try.prog 20 #[v] w fun e w' => e = .returned (.bool true) ∧ Below w.heap.size w w' := by
  obtain ⟨a0, c0, rfl⟩ := hr.shape
  have hsl := Val_len hV
  have HR := hid hr
  have HIN := hid (My.val_in hV.2.2 (Int.le_refl _) (Int.le_refl _))
  have HA := hid (Ed.apart_get ha)
  have hn := (Ed.cnt_iff.1 hV.1)
  clear hr hV ha
  go_enter Try.func20, Try.ntmps20
  go_wp2
  go_loopw [3] (fun i wr => ∃ k : Nat, i = .int .i64 ((k : Int) + 1) ∧ (k = 0 ∨ k + 1 ≤ s.length) ∧ (∃ q, wr = w.drewN q)) (fun i _ => s.length - (intOf i).toNat)
  case atStart => exact ⟨0, rfl, .inl rfl, ⟨0, rfl⟩⟩
  case round =>
    obtain ⟨k, rfl, hk, ⟨q, rfl⟩⟩ := hrel
    by_cases hlt : k + 1 < s.length
    · obtain ⟨c, hc⟩ : ∃ c, s[k]? = some c := ⟨_, List.getElem?_eq_getElem (by omega)⟩
      obtain ⟨d, hd⟩ : ∃ d, s[k + 1]? = some d := ⟨_, List.getElem?_eq_getElem hlt⟩
      have hne := HA.out k c d hc hd
      obtain ⟨p1, p2, p3, _, _, _⟩ := HIN.out c (List.mem_of_getElem? hc)
      obtain ⟨b, o, rfl, _, c0', c1', _, _⟩ := rdC_at HR.out hc
      obtain ⟨b2, o2, e, _, d0', _, _, _⟩ := rdC_at HR.out hd
      cases e
      obtain ⟨E, hE⟩ : ∃ E, E = k + 1 := ⟨_, rfl⟩
      have e0 : (k : Int) + 1 = (E : Int) := by omega
      rw [← hE] at d0'
      rw [e0]
      have hEl : (E : Int) < (s.length : Int) := by omega
      have hE0 : (0 : Int) ≤ (E : Int) := by omega
      have hkl : (k : Int) < (s.length : Int) := by omega
      have hk0 : (0 : Int) ≤ (k : Int) := by omega
      have i1 : IntKind.i64.wrap ((E : Int) - 1) = (k : Int) := (wrapOk (by omega) (by omega)).trans (by omega)
      have i2 : IntKind.i64.wrap (c.a + c.n) = c.a + c.n := wrapOk (by omega) (by omega)
      have i3 : IntKind.i64.wrap ((E : Int) + 1) = (E : Int) + 1 := wrapOk (by omega) (by omega)
      have z1 : (c.a + c.n == d.a) = false := zne hne
      have HE := hid hE
      clear hc hd hne hE e0
      go_wp2
      go_quiet (fail)
      go_wp2
      go_roundw
      case rel => exact ⟨E, rfl, .inr (by omega), ⟨_, by first | rfl | exact World.drewN_drewN _ _ _⟩⟩
      case measure => have := HE.out; simp [intOf]; omega
    · have j1 : ¬ ((k : Int) + 1 < (s.length : Int)) := by omega
      go_wp2
      go_ret
      exact ⟨rfl, below_drewN (Below.refl _ _) _⟩

set_option maxHeartbeats 4000000 in
set_option maxRecDepth 100000 in
theorem refShortest_any {w : World} {v va vb : Value} {a b : List Int} (hr : RdC w v (My.myD a b)) (hv : RdI w va a) (hu : RdI w vb b) (hla : a.length ≤ 2000000) (hlb : b.length ≤ 2000000) :
    Calls Try.prog 10 #[v, va, vb] w fun e w' => e = .returned (.bool true) ∧ Below w.heap.size w w' := by
  obtain ⟨a0, c0, rfl⟩ := hv.shape
  obtain ⟨a1, c1, rfl⟩ := hu.shape
  obtain ⟨a9, c9, rfl⟩ := hr.shape
  have HV := hid hv
  have HU := hid hu
  have HR := hid hr
  obtain ⟨hV, hP⟩ := My.myD_val (a := a) (b := b) (by omega) (by omega)
  have HVAL := hid hV
  have hsl := Val_len hV
  have HWF : Hid (∀ c ∈ My.myD a b, WfC c) := hid (My.myD_wf (by omega) (by omega))
  have HFIT : Hid (fitN (My.myD a b) a b = 0) := hid (by
    unfold fitN
    rw [if_pos (Ed.validN_zero.2 hV), My.myD_fits (by omega) (by omega)]
    rfl)
  have HAP := hid (My.myD_apart a b)
  have hco := My.myD_cost (a := a) (b := b) (by omega) (by omega)
  have hle := My.lcs_le a b
  have hde := My.dst_eq a b
  generalize hS : My.myD a b = S at HR HVAL hsl HWF HFIT HAP hco ⊢
  obtain ⟨X, hX⟩ : ∃ X, X = (Ed.costP S).1 := ⟨_, rfl⟩
  obtain ⟨Y, hY⟩ : ∃ Y, Y = (Ed.costP S).2 := ⟨_, rfl⟩
  have e1 : X = (a.length : Int) - My.lcs a b := by rw [hX, hco]
  have e2 : Y = (b.length : Int) - My.lcs a b := by rw [hY, hco]
  obtain ⟨D, hD⟩ : ∃ D, D = My.dst a b := ⟨_, rfl⟩
  rw [← hD] at hde
  have i1 : IntKind.i64.wrap (X + Y) = (D : Int) := (wrapOk (by omega) (by omega)).trans (by omega)
  have HX := hid hX
  have HY := hid hY
  have HD := hid hD
  have zz : ((D : Int) == (D : Int)) = true := zeq rfl
  clear hv hu hr hS hX hY hD e1 e2 hco hde hle hV hP
  go_enter Try.func10, Try.ntmps10
  go_wp2_with fail
  refine (refFits_all HR.out HWF.out (by omega) HV.out HU.out).mono ?_
  rintro e w1 ⟨rfl, hb1⟩
  rw [HFIT.out]
  have HB1 := hid hb1
  clear hb1
  go_wp2_with fail
  refine (refNormal_any (HR.out.below HB1.out) HVAL.out HAP.out).mono ?_
  rintro e w2 ⟨rfl, hb2⟩
  have HB2 := hid (HB1.out.trans (hb2.mono HB1.out.size))
  clear hb2 HB1
  go_wp2_with fail
  refine (refCost_any (HR.out.below HB2.out) HWF.out (by omega)).mono ?_
  rintro e w3 ⟨rfl, hb3⟩
  rw [← HX.out, ← HY.out]
  have HB3 := hid (HB2.out.trans (hb3.mono HB2.out.size))
  clear hb3 HB2
  go_wp2_with fail
  refine (refDistance_any (HV.out.below HB3.out) (HU.out.below HB3.out) (by omega) (by omega)).mono ?_
  rintro e w4 ⟨rfl, hb4⟩
  rw [← HD.out]
  have HB4 := hid (HB3.out.trans (hb4.mono HB3.out.size))
  clear hb4 HB3
  go_wp2
  go_ret
  exact ⟨rfl, HB4.out⟩

theorem sure_1 : My.myD [1, 2, 3] [1, 3] = [⟨1, 1, 1, 0⟩] := by decide +kernel
theorem sure_2 : My.dst [1, 2, 3, 1, 2, 2, 1] [3, 2, 1, 2, 1, 3] = 5 := by decide +kernel
theorem sure_3 : My.lcs [1, 2] [2] = 1 := by decide +kernel
theorem small_wf (l : List Int) (h : l.all (fun x => decide (0 ≤ x ∧ x ≤ 1000)) = true) : ∀ x ∈ l, I64 x := fun x hx => by
  have := List.all_eq_true.1 h x hx
  simp at this
  unfold I64
  omega
theorem two_blocks (w : World) (A B : Obj) : ((w.alloc A).alloc B).heap[w.heap.size]? = some A ∧ ((w.alloc A).alloc B).heap[w.heap.size + 1]? = some B ∧ Below w.heap.size w ((w.alloc A).alloc B) :=
  ⟨alloc_stays (alloc_at A rfl) B, alloc_at B (by simp), ((Below.refl _ _).alloc (Nat.le_refl _) _).alloc (by simp) _⟩

set_option maxHeartbeats 4000000 in
set_option maxRecDepth 100000 in
theorem sure_any (w : World) : Calls Try.prog 12 #[] w fun e w' => e = .returned (.bool true) ∧ Below w.heap.size w w' := by
  obtain ⟨t1, t2, t3⟩ := two_blocks w (.cells #[.int .i64 1, .int .i64 2, .int .i64 3] 3) (.cells #[.int .i64 1, .int .i64 3] 3)
  go_enter Try.func12, Try.ntmps12
  go_wp2_with fail
  generalize ((w.alloc (.cells #[.int .i64 1, .int .i64 2, .int .i64 3] 3)).alloc (.cells #[.int .i64 1, .int .i64 3] 3)) = w0 at t1 t2 t3 ⊢
  refine (diff_any (a := [1, 2, 3]) (b := [1, 3]) (lit_rd (cs := isC [1, 2, 3]) t1) (lit_rd (cs := isC [1, 3]) t2) (by decide) (by decide) (small_wf _ rfl) (small_wf _ rfl)).mono ?_
  rintro e w1 ⟨v1, rfl, hO1, hb1⟩
  rw [sure_1] at hO1
  have HB1 := hid (t3.trans (hb1.mono t3.size))
  obtain ⟨s1, c1, rfl⟩ := own_shape hO1
  obtain ⟨tb, tq, htb, _, q0, q1, q2, q3⟩ := rdC_at (own_rd hO1) (k := 0) (x := ⟨1, 1, 1, 0⟩) rfl
  subst htb
  simp only [Nat.zero_mul, Nat.add_zero] at q0 q1 q2 q3
  clear hO1 hb1 t1 t2 t3
  go_wp2_with fail
  obtain ⟨t1, t2, t3⟩ := two_blocks w1 (.cells #[.int .i64 1, .int .i64 2, .int .i64 3, .int .i64 1, .int .i64 2, .int .i64 2, .int .i64 1] 3) (.cells #[.int .i64 3, .int .i64 2, .int .i64 1, .int .i64 2, .int .i64 1, .int .i64 3] 3)
  generalize ((w1.alloc (.cells #[.int .i64 1, .int .i64 2, .int .i64 3, .int .i64 1, .int .i64 2, .int .i64 2, .int .i64 1] 3)).alloc (.cells #[.int .i64 3, .int .i64 2, .int .i64 1, .int .i64 2, .int .i64 1, .int .i64 3] 3)) = w2 at t1 t2 t3 ⊢
  refine (distance_any (a := [1, 2, 3, 1, 2, 2, 1]) (b := [3, 2, 1, 2, 1, 3]) (lit_rd (cs := isC [1, 2, 3, 1, 2, 2, 1]) t1) (lit_rd (cs := isC [3, 2, 1, 2, 1, 3]) t2) (by decide) (by decide) (small_wf _ rfl) (small_wf _ rfl)).mono ?_
  rintro e w3 ⟨rfl, hb3⟩
  rw [sure_2]
  have HB3 := hid (HB1.out.trans ((t3.trans (hb3.mono t3.size)).mono HB1.out.size))
  clear hb3 t1 t2 t3 q0 q1 q2 q3 HB1
  go_wp2_with fail
  obtain ⟨t1, t2, t3⟩ := two_blocks w3 (.cells #[.int .i64 1, .int .i64 2] 3) (.cells #[.int .i64 2] 3)
  generalize ((w3.alloc (.cells #[.int .i64 1, .int .i64 2] 3)).alloc (.cells #[.int .i64 2] 3)) = w4 at t1 t2 t3 ⊢
  refine (common_any (a := [1, 2]) (b := [2]) (lit_rd (cs := isC [1, 2]) t1) (lit_rd (cs := isC [2]) t2) (by decide) (by decide) (small_wf _ rfl) (small_wf _ rfl)).mono ?_
  rintro e w5 ⟨rfl, hb5⟩
  rw [sure_3]
  have HB5 := hid (HB3.out.trans ((t3.trans (hb5.mono t3.size)).mono HB3.out.size))
  clear hb5 t1 t2 t3 HB3
  go_wp2
  go_ret
  exact ⟨rfl, HB5.out⟩
end Go.Proofs.Ytpedbnghhmnjjaa
