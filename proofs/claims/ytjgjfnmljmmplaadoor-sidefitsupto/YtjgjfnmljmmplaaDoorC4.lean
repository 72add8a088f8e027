/-
  The walks of (*writer).ended and Normal.
-/
import Derived.Test.YtjgjfnmljmmplaaDoorC3
namespace Go.Proofs.YtjgjfnmljmmplaaDoor
open Go.RowKit
open Ed (Ch Run Pr)

theorem val_len {s : List Ch} {a b n m : Int} (h : Ed.val s a b n m = true) (ha : a ≤ n) (hb : b ≤ m) : (s.length : Int) ≤ (n - a) + (m - b) := by
  induction s generalizing a b with
  | nil => simp; omega
  | cons c r ih =>
    obtain ⟨⟨h1, h2, h3, h4⟩, hr⟩ := Ed.val_cons.1 h
    have := ih hr (by omega) (by omega)
    rw [List.length_cons]
    push_cast
    omega
theorem Val_len {s : List Ch} {n m : Int} (h : Ed.Val s n m) : s.length ≤ 8388608 := by
  have hn := Ed.cnt_iff.1 h.1
  have hm := Ed.cnt_iff.1 h.2.1
  have := val_len h.2.2 hn.1 hm.1
  omega
theorem run1_len (a b k : Int) : (Ed.run1 a b k).length ≤ 1 := by
  unfold Ed.run1; split <;> simp
theorem runs_len : ∀ (s : List Ch) (n a b : Int), (Ed.runs s n a b).length ≤ s.length + 1
  | [], n, a, b => run1_len _ _ _
  | c :: r, n, a, b => by
    rw [Ed.runs, List.length_append, List.length_cons]
    have h1 := run1_len a b (c.a - a)
    have h2 := runs_len r n (c.a + c.n) (c.b + c.m)
    omega
theorem gap_len (a b x y : Int) : (Ed.gap a b x y).length ≤ 1 := by
  unfold Ed.gap; split <;> simp
theorem stay_len : ∀ (d : List Run) (st : WS), (d.foldl stayP st).1.length ≤ st.1.length + d.length
  | [], st => Nat.le_refl _
  | r :: d, st => by
    rw [List.foldl_cons, List.length_cons]
    have h1 := stay_len d (stayP st r)
    have h2 := gap_len st.2.1 st.2.2 r.1 r.2.1
    have h3 : (stayP st r).1.length = st.1.length + (Ed.gap st.2.1 st.2.2 r.1 r.2.1).length := by unfold stayP; rw [List.length_append]
    omega
theorem wrC_len (d : List Run) : (wrC d).1.length ≤ d.length := by
  have := stay_len d ([], 0, 0)
  simpa [wrC] using this

set_option maxHeartbeats 1000000 in
theorem ended_any {B g : Nat} {st : WS} {X : Nat → Prop} {n m : Int} {w : World} (hW : WrAt B g st X w) (hl : st.1.length ≤ 1000000000) (hB : B ≤ w.heap.size) (ha : 0 ≤ st.2.1) (hb : 0 ≤ st.2.2) (h4 : st.2.1 ≤ 100000000) (h5 : st.2.2 ≤ 100000000) (hn : 0 ≤ n) (hm : 0 ≤ m) (h1 : n ≤ 4194304) (h2 : m ≤ 4194304) :
    Calls Tryd.prog 41 #[.pointer (some ⟨g, 0, none⟩), .int .i64 n, .int .i64 m] w fun e w' => ∃ v, e = .returned v ∧ OwnC w' B v (stayP st (n, m, 0)).1 ∧ Kept X w w' := by
  have HC := hid (stay_any (r := (n, m, 0)) hW hl hB ha hb hn hm (Int.le_refl _) h1 h2 (by simp only; omega) h4 h5)
  unfold rV at HC
  clear hW
  go_enter Tryd.func41, Tryd.ntmps41
  go_wp2_with fail
  refine HC.out.mono ?_
  rintro e w1 ⟨rfl, hK, X', v, hg, hO, hne, hBg, _⟩
  have k0 : w1.cell? ⟨g, 0, none⟩ = some v := cell_of_blk hg 0
  have HO := hid hO
  have HK := hid hK
  clear hO hK hg HC
  go_wp2
  go_ret
  exact ⟨v, rfl, HO.out, HK.out⟩

/-- what Normal's function keeps -/
def NrI (B g : Nat) (N : Int) (d : List Run) (X : Nat → Prop) (w : World) : Prop := WrAt B g (wrC d) X w ∧ 0 ≤ (wrC d).2.1 ∧ (wrC d).2.1 ≤ N ∧ 0 ≤ (wrC d).2.2 ∧ (wrC d).2.2 ≤ N
theorem runB_le {n m : Int} {r : Run} (h : RunB n m r) (hn : n ≤ 4194304) (hm : m ≤ 4194304) : 0 ≤ r.1 ∧ r.1 ≤ 4194304 ∧ 0 ≤ r.2.1 ∧ r.2.1 ≤ 4194304 ∧ 0 ≤ r.2.2 ∧ r.2.2 ≤ 4194304 := by
  obtain ⟨h1, h2, h3, h4, h5⟩ := h; omega
theorem NrI.next {B g : Nat} {n m : Int} {d : List Run} {r : Run} {X' : Nat → Prop} {w : World} (h : WrAt B g (stayP (wrC d) r) X' w) (hr : RunB n m r) (hn : n ≤ 4194304) (hm : m ≤ 4194304) : NrI B g 4194304 (d ++ [r]) X' w := by
  unfold NrI
  rw [wrC_snoc]
  obtain ⟨h1, h2, h3, h4, h5⟩ := hr
  refine ⟨h, ?_, ?_, ?_, ?_⟩ <;> (unfold stayP; simp only; omega)

set_option maxHeartbeats 1000000 in
theorem normalF_any {B g : Nat} {n m : Int} {d : List Run} {r : Run} {X : Nat → Prop} {w : World} (hI : NrI B g 4194304 d X w) (hr : RunB n m r) (hB : B ≤ w.heap.size) (hn : n ≤ 4194304) (hm : m ≤ 4194304) (hd : d.length ≤ 1000000000) :
    Calls Tryd.prog 39 #[rV r, .pointer (some ⟨g, 0, none⟩)] w fun e w' => e = .returned (.tuple #[]) ∧ Kept X w w' ∧ ∃ X', NrI B g 4194304 (d ++ [r]) X' w' := by
  obtain ⟨hW, i1, i2, i3, i4⟩ := hI
  obtain ⟨b1, b2, b3, b4, b5, b6⟩ := runB_le hr hn hm
  have hlen := wrC_len d
  have hb0 : Below w.heap.size w (w.alloc (.cells #[.int .i64 r.1, .int .i64 r.2.1, .int .i64 r.2.2] 80)) := (Below.refl _ _).alloc (Nat.le_refl _) _
  have HC := hid (stay_any (r := r) (hW.later hb0) (by omega) (Nat.le_trans hB hb0.size) i1 i3 b1 b3 b5 b2 b4 b6 (by omega) (by omega))
  have HIN := hid hW.in
  have HR := hid hr
  clear hW hr
  unfold rV at HC ⊢
  go_enter Tryd.func39, Tryd.ntmps39
  go_wp2_with fail
  refine HC.out.mono ?_
  rintro e w1 ⟨rfl, hK, X', hW'⟩
  have HE : Hid (Kept X w w1) := hid ⟨hK.os.trans hb0.os, hK.tape.trans hb0.tape, hK.output.trans hb0.output, Nat.le_trans hb0.size hK.size, fun k hk hx => (hK.block k (Nat.lt_of_lt_of_le hk hb0.size) hx).trans (hb0.block k hk)⟩
  have HW := hid (NrI.next hW' HR.out hn hm)
  clear hK hW' HC
  go_wp2
  exact bodyPost_end (v := .tuple #[]) (by simp [results, Tryd.results39]) rfl ⟨rfl, HE.out, X', HW.out⟩

set_option maxHeartbeats 2000000 in
theorem normal_any {v : Value} {s : List Ch} {n m : Int} {w : World} (hr : RdC w v s) (hwf : ∀ c ∈ s, WfC c) (hV : Ed.Val s n m) :
    Calls Tryd.prog 17 #[v, .int .i64 n, .int .i64 m] w fun e w' => ∃ v', e = .returned (.tuple #[v', .nilIface]) ∧ OwnC w' w.heap.size v' (Ed.normal s n m) ∧ Below w.heap.size w w' := by
  have hl := Val_len hV
  have hn := Ed.cnt_iff.1 hV.1
  have hm := Ed.cnt_iff.1 hV.2.1
  obtain ⟨a, c, rfl⟩ := hr.shape
  have HR := hid hr
  have HWF := hid hwf
  have HV := hid hV
  have hz := Ed.validN_zero.2 hV
  have HZ := hid hz
  obtain ⟨hn0, hn1⟩ := hn
  obtain ⟨hm0, hm1⟩ := hm
  clear hr hwf hV hz
  go_enter Tryd.func17, Tryd.ntmps17
  go_wp2_with fail
  refine (valid_any HR.out HWF.out (by omega)).mono ?_
  rintro e w1 ⟨rfl, hb1⟩
  rw [HZ.out, errV_zero]
  have hg1 := heap_alloc_new w1 (.cells #[.slice none 0 0, .int .i64 0, .int .i64 0] 77)
  have hb2 : Below w.heap.size w (w1.alloc (.cells #[.slice none 0 0, .int .i64 0, .int .i64 0] 77)) := hb1.alloc hb1.size _
  have HW0 : Hid (WrAt w.heap.size w1.heap.size (wrC []) (fun k => k = w1.heap.size ∨ (Value.slice none 0 0).ownBlock = some k) (w1.alloc (.cells #[.slice none 0 0, .int .i64 0, .int .i64 0] 77))) := hid ⟨_, hg1, World.ownsRow_nil _ _ _ _, (by intro h; cases h), hb1.size, rfl⟩
  have HB2 := hid hb2
  have hsz : w1.heap.size < (w1.alloc (.cells #[.slice none 0 0, .int .i64 0, .int .i64 0] 77)).heap.size := by simp
  have HC := hid (eachRun_any (B := w.heap.size) 39 (fun _ _ => by kernel_rfl) #[.pointer (some ⟨w1.heap.size, 0, none⟩)] (NrI w.heap.size w1.heap.size 4194304) (HR.out.below hb2) HR.out.under hb2.size HV.out (by omega) (fun d X wa wb hI hb => ⟨hI.1.later hb, hI.2⟩) (fun d X wa hI => hI.1.in) (X0 := fun k => k = w1.heap.size ∨ (Value.slice none 0 0).ownBlock = some k) ⟨HW0.out, by simp [wrC], by simp [wrC], by simp [wrC], by simp [wrC]⟩
    (fun d X r wa hI hrb hba hrest => normalF_any hI hrb (Nat.le_trans hb2.size hba.size) hn1 hm1 (by
      obtain ⟨rest, hrest⟩ := hrest
      have h1 := runs_len s n 0 0
      rw [hrest, List.length_append] at h1
      omega)))
  clear hg1 hb1
  go_wp2_with fail
  refine HC.out.mono ?_
  rintro e w2 ⟨rfl, hb3, X, hW, i1, i2, i3, i4⟩
  have hlen : (wrC (Ed.runs s n 0 0)).1.length ≤ 1000000000 := by
    have h1 := wrC_len (Ed.runs s n 0 0)
    have h2 := runs_len s n 0 0
    omega
  have HB3 := hid (HB2.out.trans hb3)
  have HIN := hid hW.in
  have HE := hid (ended_any (n := n) (m := m) hW hlen (HB2.out.trans hb3).size i1 i3 (by omega) (by omega) hn0 hm0 hn1 hm1)
  clear hW hb3 hlen HC HW0 hb2
  go_wp2_with fail
  refine HE.out.mono ?_
  rintro e w3 ⟨v', rfl, hO, hK⟩
  have HO : Hid (OwnC w3 w.heap.size v' (Ed.normal s n m)) := hid (by
    have h := hO
    rw [wrC_ended] at h
    exact h)
  have HB4 := hid (HB3.out.trans (hK.below (fun k hk => (HIN.out k hk).1) HB3.out.size))
  clear hO hK HE
  go_wp2
  go_ret2
  exact ⟨v', rfl, HO.out, HB4.out⟩
end Go.Proofs.YtjgjfnmljmmplaaDoor
