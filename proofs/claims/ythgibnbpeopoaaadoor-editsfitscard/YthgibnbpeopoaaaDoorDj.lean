/-
  The walk of Join.
-/
import Derived.Test.YthgibnbpeopoaaaDoorDi
import Derived.Test.YthgibnbpeopoaaaDoorDk
namespace Go.Proofs.YthgibnbpeopoaaaDoor
open Go.RowKit
open Ed (Ch Run Pr)

theorem sorted_len {n : Int} : ∀ (l : List Run) (a : Int), l.Pairwise Ed.ltR → (∀ r ∈ l, a ≤ r.1 ∧ 0 < r.2.2 ∧ r.1 + r.2.2 ≤ n) → a ≤ n → (l.length : Int) ≤ n - a
  | [], a, _, _, h => by simp; omega
  | r :: l, a, hp, hb, h => by
    obtain ⟨h1, h2⟩ := List.pairwise_cons.1 hp
    obtain ⟨b1, b2, b3⟩ := hb r (List.mem_cons_self ..)
    have := sorted_len l (r.1 + r.2.2) h2 (fun q hq => by
      have g1 := hb q (List.mem_cons_of_mem _ hq)
      have g2 := h1 q hq
      unfold Ed.ltR at g2
      exact ⟨g2.1, g1.2⟩) b3
    rw [List.length_cons]
    push_cast
    omega
theorem jn_B {n m k : Int} {rs ts : List Run} (hr : rs.Pairwise Ed.ltR) (hrb : ∀ r ∈ rs, RunB n m r) (ht : ts.Pairwise Ed.ltR) (htb : ∀ t ∈ ts, RunB m k t) : ∀ x ∈ Ed.jn rs ts, RunB n k x := by
  intro x hx
  obtain ⟨r, h1, t, h2, h3, rfl⟩ := (Ed.jn_sub hr (fun r h => (hrb r h).2.2.1) ht (fun t h => (htb t h).2.2.1) x).1 hx
  exact through_B (hrb r h1) (htb t h2) h3.1 h3.2
theorem jn_len {n m k : Int} {rs ts : List Run} (hn : 0 ≤ n) (hr : rs.Pairwise Ed.ltR) (hrb : ∀ r ∈ rs, RunB n m r) (ht : ts.Pairwise Ed.ltR) (htb : ∀ t ∈ ts, RunB m k t) : ((Ed.jn rs ts).length : Int) ≤ n := by
  have := sorted_len (Ed.jn rs ts) 0 (Ed.jn_sorted hr (fun r h => (hrb r h).2.2.1) ht (fun t h => (htb t h).2.2.1)) (fun x hx => by
    obtain ⟨h1, h2, h3, h4, h5⟩ := jn_B hr hrb ht htb x hx
    exact ⟨h1, h3, h4⟩) hn
  omega
theorem left_sublist (ts : List Run) (r : Run) : (Ed.left ts r).Sublist ts := List.dropWhile_sublist _
theorem leftA_sublist (d : List Run) : ∀ ts, (leftA ts d).Sublist ts := by
  induction d with
  | nil => intro ts; exact List.Sublist.refl _
  | cons r d ih => intro ts; exact (ih _).trans (left_sublist ts r)
theorem rt_of_rs {B g : Nat} {l : List Run} {X : Nat → Prop} {w : World} (h : RsAt B g l X w) : RtAt g l w := by
  obtain ⟨v, h1, h2, _⟩ := h
  refine ⟨v, h1, own_rd h2, fun b o n c hv => ?_⟩
  rcases h2.2 with ⟨hv', _⟩ | ⟨g', cap, cur, hv', _, hh, _⟩
  · rw [hv'] at hv; cases hv
  · rw [hv'] at hv; cases hv; exact ⟨cur, hh⟩

set_option maxHeartbeats 4000000 in
set_option maxRecDepth 100000 in
theorem join_any {v u : Value} {s t : List Ch} {n m k : Int} {w : World} (hr : RdC w v s) (hwf : ∀ c ∈ s, WfC c) (hu : RdC w u t) (hwt : ∀ c ∈ t, WfC c) (hV : Ed.Val s n m) (hT : Ed.Val t m k) :
    Calls Tryd.prog 15 #[v, u, .int .i64 n, .int .i64 m, .int .i64 k] w fun e w' => ∃ v', e = .returned (.tuple #[v', .nilIface]) ∧ OwnC w' w.heap.size v' (Ed.joinP s t n m k) ∧ Below w.heap.size w w' := by
  have hls := Val_len hV
  have hlt := Val_len hT
  have HC1 := hid (valid_any (n := n) (m := m) hr hwf (by omega))
  have HC2 := hid (fun w1 (h : RdC w1 u t) => valid_any (n := m) (m := k) h hwt (by omega))
  rw [Ed.validN_zero.2 hV, errV_zero] at HC1
  rw [Ed.validN_zero.2 hT, errV_zero] at HC2
  have HR := hid hr
  have HU := hid hu
  have HV := hid hV
  have HT := hid hT
  obtain ⟨a0, c0, rfl⟩ := hr.shape
  obtain ⟨a1, c1, rfl⟩ := hu.shape
  obtain ⟨hn0, hn1⟩ := Ed.cnt_iff.1 hV.1
  obtain ⟨hm0, hm1⟩ := Ed.cnt_iff.1 hV.2.1
  obtain ⟨hk0, hk1⟩ := Ed.cnt_iff.1 hT.2.1
  have HTS : Hid (∀ q ∈ Ed.runs t m 0 0, RunB m k q) := hid hT.runsB
  have HSS : Hid (∀ q ∈ Ed.runs s n 0 0, RunB n m q) := hid hV.runsB
  have HTP := hid (Ed.runs_sorted hT.2.2 hm0 hk0).1
  have HSP := hid (Ed.runs_sorted hV.2.2 hn0 hm0).1
  have HTL : Hid ((Ed.runs t m 0 0).length ≤ 8388609) := hid (by have := runs_len t m 0 0; omega)
  have HJE : Hid (Ed.ofR (Ed.jn (Ed.runs s n 0 0) (Ed.runs t m 0 0)) 0 0 n k = Ed.joinP s t n m k) := hid rfl
  clear hr hwf hu hwt hV hT
  go_enter Tryd.func15, Tryd.ntmps15
  go_wp2_with fail
  refine HC1.out.mono ?_
  rintro e w1 ⟨rfl, hb1⟩
  have HB1 := hid hb1
  clear hb1
  go_wp2_with fail
  refine (HC2.out _ (HU.out.below HB1.out)).mono ?_
  rintro e w2 ⟨rfl, hb2⟩
  have hB2 := HB1.out.trans (hb2.mono HB1.out.size)
  clear hb2
  have hg2 := heap_alloc_new w2 (.cells #[.slice none 0 0] 75)
  have hB3 : Below w.heap.size w (w2.alloc (.cells #[.slice none 0 0] 75)) := hB2.alloc hB2.size _
  have HI0 : Hid (RsAt w.heap.size w2.heap.size [] (fun j => j = w2.heap.size ∨ (Value.slice none 0 0).ownBlock = some j) (w2.alloc (.cells #[.slice none 0 0] 75))) := hid ⟨_, hg2, World.ownsRow_nil _ _ _ _, (by intro h; cases h), hB2.size, rfl⟩
  have HB3 := hid hB3
  have HE1 := hid (eachRun_any (B := w.heap.size) 35 (fun _ _ => by kernel_rfl) #[.pointer (some ⟨w2.heap.size, 0, none⟩)] (RsAt w.heap.size w2.heap.size) (HU.out.below hB3) HU.out.under hB3.size HT.out (by omega) (fun d X wa wb hI hb => hI.later hb) (fun d X wa hI => hI.in) (X0 := fun j => j = w2.heap.size ∨ (Value.slice none 0 0).ownBlock = some j) HI0.out
    (fun d X r wa hI hrb hba hrest => joinF_any hI (by
      obtain ⟨rest, hrest⟩ := hrest
      have h := HTL.out
      rw [hrest, List.length_append] at h
      omega) (Nat.le_trans hB3.size hba.size)))
  have HS2 : Hid (w.heap.size ≤ w2.heap.size) := hid hB2.size
  clear hg2 hB3 hB2 HI0
  go_wp2_with fail
  refine HE1.out.mono ?_
  rintro e w3 ⟨rfl, hb3, X, hI⟩
  have hB4 := HB3.out.trans hb3
  have HRT := hid (rt_of_rs hI)
  clear hI hb3 HE1
  have hg3 := heap_alloc_new w3 (.cells #[.slice none 0 0, .int .i64 0, .int .i64 0] 77)
  have hB5 : Below w.heap.size w (w3.alloc (.cells #[.slice none 0 0, .int .i64 0, .int .i64 0] 77)) := hB4.alloc hB4.size _
  have HW0 : Hid (WrAt w.heap.size w3.heap.size (wrC []) (fun j => j = w3.heap.size ∨ (Value.slice none 0 0).ownBlock = some j) (w3.alloc (.cells #[.slice none 0 0, .int .i64 0, .int .i64 0] 77))) := hid ⟨_, hg3, World.ownsRow_nil _ _ _ _, (by intro h; cases h), hB4.size, rfl⟩
  have HJ0 : Hid (JnI (Ed.runs t m 0 0) w.heap.size w2.heap.size w3.heap.size [] (fun j => (j = w3.heap.size ∨ (Value.slice none 0 0).ownBlock = some j) ∨ j = w2.heap.size) (w3.alloc (.cells #[.slice none 0 0, .int .i64 0, .int .i64 0] 77))) := hid ⟨_, HW0.out, by simp [Ed.jn, wrC], HRT.out.below ((Below.refl _ _).alloc (Nat.le_refl _) _), HS2.out, rfl⟩
  have HB5 := hid hB5
  have HE2 := hid (eachRun_any (B := w.heap.size) 36 (fun _ _ => by kernel_rfl) #[.pointer (some ⟨w2.heap.size, 0, none⟩), .pointer (some ⟨w3.heap.size, 0, none⟩)] (JnI (Ed.runs t m 0 0) w.heap.size w2.heap.size w3.heap.size) (HR.out.below hB5) HR.out.under hB5.size HV.out (by omega) (fun d X wa wb hI hb => hI.later hb) (fun d X wa hI => hI.in) (X0 := fun j => (j = w3.heap.size ∨ (Value.slice none 0 0).ownBlock = some j) ∨ j = w2.heap.size) HJ0.out
    (fun d X r wa hI hrb hba hrest => joinG_any hI hrb HTS.out (HTP.out.sublist (leftA_sublist d _)) hn1 hm1 hk1 (by
      obtain ⟨rest, hrest⟩ := hrest
      have hsub : d.Sublist (Ed.runs s n 0 0) := by rw [hrest]; exact List.sublist_append_left _ _
      have h := jn_len hn0 (HSP.out.sublist hsub) (fun q hq => HSS.out q (hsub.subset hq)) HTP.out HTS.out
      have h2 := HTL.out
      omega) (Nat.le_trans hB5.size hba.size)))
  have HJL := hid (jn_len hn0 HSP.out HSS.out HTP.out HTS.out)
  clear hg3 hB5 hB4 HW0 HJ0
  go_wp2_with fail
  refine HE2.out.mono ?_
  rintro e w4 ⟨rfl, hb4, X2, X3, hW, ⟨i1, i2, i3, i4⟩, hRt, _, hXe⟩
  have HB6 := hid (HB5.out.trans hb4)
  have HIN := hid hW.in
  have hlen : (wrC (Ed.jn (Ed.runs s n 0 0) (Ed.runs t m 0 0))).1.length ≤ 1000000000 := by
    have h1 := wrC_len (Ed.jn (Ed.runs s n 0 0) (Ed.runs t m 0 0))
    have h2 := HJL.out
    omega
  have HE := hid (ended_any (n := n) (m := k) hW hlen (HB5.out.trans hb4).size i1 i3 (by omega) (by omega) hn0 hk0 hn1 hk1)
  clear hW hb4 hlen HE2 hRt hXe
  go_wp2_with fail
  refine HE.out.mono ?_
  rintro e w5 ⟨v', rfl, hO, hK⟩
  have HO : Hid (OwnC w5 w.heap.size v' (Ed.joinP s t n m k)) := hid (by
    have h := hO
    rw [wrC_ended, HJE.out] at h
    exact h)
  have HB7 := hid (HB6.out.trans (hK.below (fun j hj => (HIN.out j hj).1) HB6.out.size))
  clear hO hK HE
  go_wp2
  go_ret2
  exact ⟨v', rfl, HO.out, HB7.out⟩

set_option maxHeartbeats 1000000 in
theorem join_all {v u : Value} {s t : List Ch} {n m k : Int} {w : World} (hr : RdC w v s) (hwf : ∀ c ∈ s, WfC c) (hl : s.length ≤ 10000000000000) (hu : RdC w u t) (hwt : ∀ c ∈ t, WfC c) (hlt : t.length ≤ 10000000000000) :
    Calls Tryd.prog 15 #[v, u, .int .i64 n, .int .i64 m, .int .i64 k] w fun e w' => ∃ v', e = .returned (.tuple #[v', errV (joinN s t n m k)]) ∧ OwnC w' w.heap.size v' (joinA s t n m k) ∧ Below w.heap.size w w' := by
  by_cases h1 : Ed.validN s n m = 0
  · by_cases h2 : Ed.validN t m k = 0
    · have e1 : joinN s t n m k = 0 := by unfold joinN; rw [if_pos h1, h2]
      have e2 : joinA s t n m k = Ed.joinP s t n m k := by unfold joinA; rw [if_pos ⟨h1, h2⟩]
      rw [e1, e2, errV_zero]
      exact join_any hr hwf hu hwt (Ed.validN_zero.1 h1) (Ed.validN_zero.1 h2)
    · have e1 : joinN s t n m k = Ed.validN t m k := by unfold joinN; rw [if_pos h1]
      have e2 : joinA s t n m k = [] := by unfold joinA; rw [if_neg (fun h => h2 h.2)]
      rw [e1, e2]
      have HC1 := hid (valid_any (n := n) (m := m) hr hwf hl)
      have HC2 := hid (fun w1 (h : RdC w1 u t) => valid_any (n := m) (m := k) h hwt hlt)
      have HU := hid hu
      obtain ⟨a0, c0, rfl⟩ := hr.shape
      obtain ⟨a1, c1, rfl⟩ := hu.shape
      rw [h1, errV_zero] at HC1
      generalize Ed.validN t m k = z at HC2 h2
      have he : errV z = .iface 71 (.int .i64 z) := by unfold errV; rw [if_neg h2]
      rw [he] at HC2 ⊢
      clear hr hwf hu hwt he e1 e2 h1 h2
      go_enter Tryd.func15, Tryd.ntmps15
      go_wp2_with fail
      refine HC1.out.mono ?_
      rintro e w1 ⟨rfl, hb1⟩
      have HB1 := hid hb1
      clear hb1
      go_wp2_with fail
      refine (HC2.out _ (HU.out.below HB1.out)).mono ?_
      rintro e w2 ⟨rfl, hb2⟩
      have HB2 := hid (HB1.out.trans (hb2.mono HB1.out.size))
      clear hb2
      go_wp2
      go_ret2
      exact ⟨_, rfl, World.ownsRow_nil _ _ _ _, HB2.out⟩
  · have e1 : joinN s t n m k = Ed.validN s n m := by unfold joinN; rw [if_neg h1]
    have e2 : joinA s t n m k = [] := by unfold joinA; rw [if_neg (fun h => h1 h.1)]
    rw [e1, e2]
    have HC1 := hid (valid_any (n := n) (m := m) hr hwf hl)
    obtain ⟨a0, c0, rfl⟩ := hr.shape
    obtain ⟨a1, c1, rfl⟩ := hu.shape
    generalize Ed.validN s n m = z at HC1 h1
    have he : errV z = .iface 71 (.int .i64 z) := by unfold errV; rw [if_neg h1]
    rw [he] at HC1 ⊢
    clear hr hwf hu hwt he e1 e2 h1
    go_enter Tryd.func15, Tryd.ntmps15
    go_wp2_with fail
    refine HC1.out.mono ?_
    rintro e w1 ⟨rfl, hb1⟩
    have HB1 := hid hb1
    clear hb1
    go_wp2
    go_ret2
    exact ⟨_, rfl, World.ownsRow_nil _ _ _ _, HB1.out⟩
end Go.Proofs.YthgibnbpeopoaaaDoor
