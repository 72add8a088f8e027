/-
  The document's Normal of layer 7, and what a slid script costs.
-/
import Derived.Test.YtmomeemkdfoklaaDoorZi
namespace Go.Proofs.YtmomeemkdfoklaaDoor
open Go.RowKit
open Ed (Ch Run Pr)

set_option maxHeartbeats 4000000 in
set_option maxRecDepth 100000 in
theorem refNormal9_any {w : World} {v : Value} {s : List Ch} {n m : Int} (hr : RdC w v s) (hV : Ed.Val s n m) (ha : Ed.apart s) :
    Calls Tryd.prog 10 #[v] w fun e w' => e = .returned (.bool true) ∧ Below w.heap.size w w' := by
  obtain ⟨a0, c0, rfl⟩ := hr.shape
  have hsl := Val_len hV
  have HR := hid hr
  have HIN := hid (val_in hV.2.2 (Int.le_refl _) (Int.le_refl _))
  have HA := hid (Ed.apart_get ha)
  have hn := (Ed.cnt_iff.1 hV.1)
  clear hr hV ha
  go_enter Tryd.func10, Tryd.ntmps10
  go_wp2
  go_loopw [3] (fun i wr => ∃ k : Nat, i = .int .i64 ((k : Int) + 1) ∧ (k = 0 ∨ k + 1 ≤ s.length) ∧ (∃ q, wr = w.drewN q)) (fun i _ => s.length - (intOf i).toNat)
  case atStart => exact ⟨0, rfl, .inl rfl, ⟨0, rfl⟩⟩
  case round =>
    obtain ⟨k, rfl, hk, ⟨q, rfl⟩⟩ := hrel
    by_cases hlt : k + 1 < s.length
    · obtain ⟨c, hc⟩ : ∃ c, s[k]? = some c := ⟨_, List.getElem?_eq_getElem (by omega)⟩
      obtain ⟨d, hd⟩ : ∃ d, s[k + 1]? = some d := ⟨_, List.getElem?_eq_getElem hlt⟩
      have hne := HA.out k c d hc hd
      obtain ⟨p1, p2, p3, _, _, _⟩ := HIN.out c (List.mem_of_getElem? hc)
      obtain ⟨b, o, rfl, _, c0', c1', _, _⟩ := rdC_at HR.out hc
      obtain ⟨b2, o2, e, _, d0', _, _, _⟩ := rdC_at HR.out hd
      cases e
      obtain ⟨E, hE⟩ : ∃ E, E = k + 1 := ⟨_, rfl⟩
      have e0 : (k : Int) + 1 = (E : Int) := by omega
      rw [← hE] at d0'
      rw [e0]
      have hEl : (E : Int) < (s.length : Int) := by omega
      have hE0 : (0 : Int) ≤ (E : Int) := by omega
      have hkl : (k : Int) < (s.length : Int) := by omega
      have hk0 : (0 : Int) ≤ (k : Int) := by omega
      have i1 : IntKind.i64.wrap ((E : Int) - 1) = (k : Int) := (wrapOk (by omega) (by omega)).trans (by omega)
      have i2 : IntKind.i64.wrap (c.a + c.n) = c.a + c.n := wrapOk (by omega) (by omega)
      have i3 : IntKind.i64.wrap ((E : Int) + 1) = (E : Int) + 1 := wrapOk (by omega) (by omega)
      have z1 : (c.a + c.n == d.a) = false := zne hne
      have HE := hid hE
      clear hc hd hne hE e0
      go_wp2
      go_quiet (fail)
      go_wp2
      go_roundw
      case rel => exact ⟨E, rfl, .inr (by omega), ⟨_, by first | rfl | exact World.drewN_drewN _ _ _⟩⟩
      case measure => have := HE.out; simp [intOf]; omega
    · have j1 : ¬ ((k : Int) + 1 < (s.length : Int)) := by omega
      go_wp2
      go_ret
      exact ⟨rfl, below_drewN (Below.refl _ _) _⟩

theorem fit_yes {s : List Ch} {a b : List Int} (h : fitN s a b = 0) : Ed.Val s a.length b.length ∧ Ed.fitsP a b (Ed.prs s a.length 0 0) = true := by
  unfold fitN at h
  split at h
  · next hv =>
    refine ⟨Ed.validN_zero.1 hv, ?_⟩
    split at h
    · next hf => exact hf
    · omega
  · next hv => exact absurd h hv
theorem fit_of {s : List Ch} {a b : List Int} (h : Ed.Val s a.length b.length) (hf : Ed.fitsP a b (Ed.prs s a.length 0 0) = true) : fitN s a b = 0 := by
  unfold fitN
  rw [if_pos (Ed.validN_zero.2 h), hf]
  rfl
theorem slA_keeps {s : List Ch} {a b : List Int} (h : fitN s a b = 0) : Ed.Val (slA s a b) a.length b.length ∧ fitN (slA s a b) a b = 0 ∧ Ed.apart (slA s a b) ∧ Ed.costP (slA s a b) = Ed.costP s := by
  obtain ⟨hV, hf⟩ := fit_yes h
  obtain ⟨hN, hp⟩ := Ed.normal_Val hV
  obtain ⟨i1, i2, i3, i4, i5⟩ := Ed.slide_Val hN (by rw [hp]; exact hf)
  have e : slA s a b = Ed.slideL a b (Ed.normal s a.length b.length) := by unfold slA; rw [if_pos h]
  rw [e]
  refine ⟨i1, fit_of i1 i2, i3, ?_⟩
  rw [i1.cost, hV.cost, i4, i5]
  obtain ⟨l1, l2⟩ := hV.len
  obtain ⟨m1, m2⟩ := hN.len
  rw [hp] at m1 m2
  have e1 : Ed.goneS (Ed.normal s a.length b.length) = Ed.goneS s := by omega
  have e2 : Ed.comeS (Ed.normal s a.length b.length) = Ed.comeS s := by omega
  rw [e1, e2]
theorem slA_wf {s : List Ch} {a b : List Int} : ∀ c ∈ slA s a b, WfC c := by
  by_cases h : fitN s a b = 0
  · obtain ⟨hV, _⟩ := slA_keeps h
    have hn := Ed.cnt_iff.1 hV.1
    have hm := Ed.cnt_iff.1 hV.2.1
    intro c hc
    obtain ⟨p1, p2, p3, p4, p5, p6⟩ := val_in hV.2.2 (Int.le_refl _) (Int.le_refl _) c hc
    unfold WfC I64
    omega
  · intro c hc
    unfold slA at hc
    rw [if_neg h] at hc
    simp at hc
end Go.Proofs.YtmomeemkdfoklaaDoor
