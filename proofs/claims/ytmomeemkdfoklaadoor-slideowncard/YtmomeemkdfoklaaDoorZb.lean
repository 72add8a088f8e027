/-
  Slide, both, with the errors.
-/
import Derived.Test.YtmomeemkdfoklaaDoorZu
import Derived.Test.YtmomeemkdfoklaaDoorZz
namespace Go.Proofs.YtmomeemkdfoklaaDoor
open Go.RowKit
open Ed (Ch Run Pr)

def slA (s : List Ch) (a b : List Int) : List Ch := if fitN s a b = 0 then Ed.slideL a b (Ed.normal s a.length b.length) else []
set_option maxHeartbeats 2000000 in
set_option maxRecDepth 100000 in
theorem slide_all {w : World} {v va vb : Value} {s : List Ch} {a b : List Int} (hr : RdC w v s) (hwf : ∀ c ∈ s, WfC c) (hl : s.length ≤ 10000000000000) (ha : RdI w va a) (hb : RdI w vb b) :
    Calls Tryd.prog 6 #[v, va, vb] w fun e w' => ∃ v', e = .returned (.tuple #[v', errV (fitN s a b)]) ∧ RdC w' v' (slA s a b) ∧ Below w.heap.size w w' := by
  by_cases hf : fitN s a b = 0
  · refine (slide_good hr hwf hl ha hb hf).mono ?_
    rintro e w' ⟨v', rfl, h1, h2⟩
    refine ⟨v', by rw [hf, errV_zero], ?_, h2⟩
    unfold slA
    rw [if_pos hf]
    exact h1
  · have HF := hid (fits_all hr hwf hl ha hb)
    have he : errV (fitN s a b) = .iface 60 (.int .i64 (fitN s a b)) := by unfold errV; rw [if_neg hf]
    rw [he] at HF
    have HE := hid he
    obtain ⟨av, cv, rfl⟩ := ha.shape
    obtain ⟨au, cu, rfl⟩ := hb.shape
    obtain ⟨ah, ch, rfl⟩ := hr.shape
    have HSA : Hid (slA s a b = []) := hid (by unfold slA; rw [if_neg hf])
    clear hr hwf ha hb he hf
    generalize fitN s a b = N at HF HE ⊢
    go_enter Tryd.func6, Tryd.ntmps6
    go_wp2_with fail
    refine HF.out.mono ?_
    rintro e w1 ⟨rfl, hb1⟩
    have HB1 := hid hb1
    clear hb1
    go_wp2
    go_ret2
    refine ⟨_, by rw [HE.out]; rfl, ?_, HB1.out⟩
    rw [HSA.out]
    exact .inl ⟨rfl, none, 0, rfl⟩
set_option maxHeartbeats 2000000 in
set_option maxRecDepth 100000 in
theorem refSlide_all {w : World} {v va vb : Value} {s : List Ch} {a b : List Int} (hr : RdC w v s) (hwf : ∀ c ∈ s, WfC c) (hl : s.length ≤ 10000000000000) (ha : RdI w va a) (hb : RdI w vb b) :
    Calls Tryd.prog 15 #[v, va, vb] w fun e w' => ∃ v', e = .returned (.tuple #[v', .int .i64 (fitN s a b)]) ∧ OwnC w' w.heap.size v' (slA s a b) ∧ Below w.heap.size w w' := by
  by_cases hf : fitN s a b = 0
  · refine (refSlide_good hr hwf hl ha hb hf).mono ?_
    rintro e w' ⟨v', rfl, h1, h2⟩
    refine ⟨v', by rw [hf]; rfl, ?_, h2⟩
    unfold slA
    rw [if_pos hf]
    exact h1
  · have HF := hid (refFits_all hr hwf hl ha hb)
    obtain ⟨av, cv, rfl⟩ := ha.shape
    obtain ⟨au, cu, rfl⟩ := hb.shape
    obtain ⟨ah, ch, rfl⟩ := hr.shape
    have HSA : Hid (slA s a b = []) := hid (by unfold slA; rw [if_neg hf])
    clear hr hwf ha hb
    generalize fitN s a b = N at HF hf ⊢
    have z1 : ((N : Int) == 0) = false := by rw [beq_eq_false_iff_ne]; omega
    clear hf
    go_enter Tryd.func15, Tryd.ntmps15
    go_wp2_with fail
    refine HF.out.mono ?_
    rintro e w1 ⟨rfl, hb1⟩
    have HB1 := hid hb1
    clear hb1
    go_wp2
    go_ret2
    refine ⟨_, rfl, ?_, HB1.out⟩
    rw [HSA.out]
    exact World.ownsRow_nil _ _ _ _
end Go.Proofs.YtmomeemkdfoklaaDoor
