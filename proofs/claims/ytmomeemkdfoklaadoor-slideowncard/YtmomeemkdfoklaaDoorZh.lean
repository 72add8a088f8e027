/-
  The program's Blanks.
-/
import Derived.Test.YtmomeemkdfoklaaDoorZg
import Derived.Test.YtmomeemkdfoklaaDoorGrD7
namespace Go.Proofs.YtmomeemkdfoklaaDoor
open Go.RowKit
open Ed (Ch Run Pr)

theorem val_in {s : List Ch} {n m x y : Int} (h : Ed.val s x y n m = true) (hx : 0 ≤ x) (hy : 0 ≤ y) : ∀ c ∈ s, 0 ≤ c.a ∧ 0 ≤ c.n ∧ c.a + c.n ≤ n ∧ 0 ≤ c.b ∧ 0 ≤ c.m ∧ c.b + c.m ≤ m := by
  induction s generalizing x y with
  | nil => intro c hc; simp at hc
  | cons z s ih =>
    obtain ⟨⟨⟨p1, p2, p3⟩, ⟨p4, p5, p6⟩, _, p8⟩, hv2⟩ := Ed.val_cons.1 h
    intro c hc
    rcases List.mem_cons.1 hc with rfl | hc
    · refine ⟨?_, ?_, ?_, ?_, ?_, ?_⟩ <;> omega
    · exact ih hv2 (by omega) (by omega) c hc
/-- what is left without changes of blank lines -/
def blA (s : List Ch) (a b : List ByteArray) : List Ch := (nrmA s a.length b.length).filter fun c => !chB a b c

set_option maxHeartbeats 2000000 in
set_option maxRecDepth 100000 in
theorem blanks_all {w : World} {v va vb : Value} {s : List Ch} {a b : List ByteArray} (hr : RdC w v s) (hwf : ∀ c ∈ s, WfC c) (hl : s.length ≤ 10000000000000) (ha : RdS w va a) (hb : RdS w vb b) (hsa : ∀ x ∈ a, x.size ≤ 140737488355327) (hsb : ∀ x ∈ b, x.size ≤ 140737488355327) :
    Calls Tryd.prog 11 #[v, va, vb] w fun e w' => ∃ v', e = .returned (.tuple #[v', errV (Ed.validN s a.length b.length)]) ∧ RdC w' v' (blA s a b) ∧ Below w.heap.size w w' := by
  obtain ⟨aa, ca, rfl⟩ := ha.shape
  obtain ⟨ab, cb, rfl⟩ := hb.shape
  obtain ⟨a0, c0, rfl⟩ := hr.shape
  have HR := hid hr
  have HWF := hid hwf
  have HA := hid ha
  have HBb := hid hb
  have HSA := hid hsa
  have HSB := hid hsb
  clear hr hwf ha hb hsa hsb
  have hb0 : Below w.heap.size w (w.alloc (.cells #[.slice aa a.length ca] 34)) := (Below.refl _ _).alloc (Nat.le_refl _) _
  have hb0' : Below w.heap.size w ((w.alloc (.cells #[.slice aa a.length ca] 34)).alloc (.cells #[.slice ab b.length cb] 34)) := hb0.alloc (by simp) _
  have hba0 : ((w.alloc (.cells #[.slice aa a.length ca] 34)).alloc (.cells #[.slice ab b.length cb] 34)).heap[w.heap.size]? = some (.cells #[.slice aa a.length ca] 34) := (((Below.refl _ _).alloc (Nat.le_refl _) _).block w.heap.size (by simp)).trans (heap_alloc_new w _)
  have hbb0 : ((w.alloc (.cells #[.slice aa a.length ca] 34)).alloc (.cells #[.slice ab b.length cb] 34)).heap[w.heap.size + 1]? = some (.cells #[.slice ab b.length cb] 34) := by
    have := heap_alloc_new (w.alloc (.cells #[.slice aa a.length ca] 34)) (.cells #[.slice ab b.length cb] 34)
    simpa using this
  have hsz0 : ((w.alloc (.cells #[.slice aa a.length ca] 34)).alloc (.cells #[.slice ab b.length cb] 34)).heap.size = w.heap.size + 2 := by simp
  have k0 := cell_of_blk hba0 0
  have k1 := cell_of_blk hbb0 0
  go_enter Tryd.func11, Tryd.ntmps11
  go_wp2_with fail
  generalize ((w.alloc (.cells #[.slice aa a.length ca] 34)).alloc (.cells #[.slice ab b.length cb] 34)) = w0 at hb0' hba0 hbb0 hsz0 k0 k1 ⊢
  refine (normal_all (HR.out.below hb0') HWF.out (by omega)).mono ?_
  rintro e w1 ⟨v1, rfl, hO1, hb1⟩
  obtain ⟨a1, c1, e1⟩ := own_shape hO1
  subst e1
  have HB1 := hid (hb0'.trans (hb1.mono hb0'.size))
  have hba1 := (hb1.block w.heap.size (by omega)).trans hba0
  have hbb1 := (hb1.block (w.heap.size + 1) (by omega)).trans hbb0
  have HO1 := hid hO1
  have hs1 := hb1.size
  clear hb1 hba0 hbb0 hb0 hb0' k0 k1 hO1
  by_cases hk : Ed.validN s a.length b.length = 0
  · have hV := Ed.validN_zero.1 hk
    have hNV := (Ed.normal_Val hV).1
    have hne : nrmA s a.length b.length = Ed.normal s a.length b.length := by unfold nrmA; rw [if_pos hk]
    have hn := Ed.cnt_iff.1 hV.1
    have hm := Ed.cnt_iff.1 hV.2.1
    have HDF := hid (deleteFunc_any 24 (fun _ _ => by kernel_rfl) #[.pointer (some ⟨w.heap.size, 0, none⟩), .pointer (some ⟨w.heap.size + 1, 0, none⟩)] (chB a b) HO1.out hs1 (by rw [hne]; exact Nat.le_trans (Val_len hNV) (by omega)) (fun c hc w2 hb2 => by
      rw [hne] at hc
      obtain ⟨p1, p2, p3, p4, p5, p6⟩ := val_in hNV.2.2 (by omega) (by omega) c hc
      obtain ⟨x, hx⟩ := Int.eq_ofNat_of_zero_le p1
      obtain ⟨n, hn'⟩ := Int.eq_ofNat_of_zero_le p2
      obtain ⟨y, hy⟩ := Int.eq_ofNat_of_zero_le p4
      obtain ⟨m, hm'⟩ := Int.eq_ofNat_of_zero_le p5
      obtain ⟨ca', cn', cb', cm'⟩ := c
      dsimp only at hx hn' hy hm' p3 p6
      subst hx hn' hy hm'
      have hbw := HB1.out.trans (hb2.mono (by omega))
      exact test_any (HA.out.below hbw) (HBb.out.below hbw) (cell_of_blk ((hb2.block w.heap.size (by omega)).trans hba1) 0) (cell_of_blk ((hb2.block (w.heap.size + 1) (by omega)).trans hbb1) 0) (by omega) (by omega) HSA.out HSB.out (by omega) (by omega)))
    have HE : Hid (errV (Ed.validN s a.length b.length) = .nilIface) := hid (by rw [hk, errV_zero])
    rw [HE.out]
    clear hk hV hNV hne hn hm
    go_wp2_with fail
    refine HDF.out.mono ?_
    rintro e w2 ⟨v2, rfl, h2, hb2⟩
    have HR2 := hid h2
    have HB2 := hid (HB1.out.trans (hb2.mono (by omega)))
    clear h2 hb2
    go_wp2
    go_ret2
    exact ⟨_, by rw [HE.out]; rfl, HR2.out, HB2.out⟩
  · have he : errV (Ed.validN s a.length b.length) = .iface 60 (.int .i64 (Ed.validN s a.length b.length)) := by unfold errV; rw [if_neg hk]
    have HBL : Hid (blA s a b = []) := hid (by unfold blA nrmA; rw [if_neg hk]; rfl)
    have HE := hid he
    rw [he]
    clear he
    go_wp2
    go_ret2
    refine ⟨_, by rw [HE.out]; rfl, ?_, HB1.out⟩
    rw [HBL.out]
    exact .inl ⟨rfl, none, 0, rfl⟩
end Go.Proofs.YtmomeemkdfoklaaDoor
