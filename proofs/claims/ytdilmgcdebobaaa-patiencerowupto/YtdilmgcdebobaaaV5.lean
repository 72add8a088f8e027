/-
  The walk of Rising.
-/
import Derived.Test.YtdilmgcdebobaaaV4
namespace Go.Proofs.Ytdilmgcdebobaaa
open Go.RowKit
open Ed (Ch Run Pr)

/-- a row of places, as numbers -/
def ni (S : List Nat) : List Int := S.map fun p : Nat => (p : Int)

/-- where the walk down a pile stands -/
def Inn (f : Nat → Int) (n : Nat) (R : List Int) (k s : Nat) : Prop := s < n ∧ Pn.lg f s = k + 1 ∧ (k + 1 = R.length → ∀ i, i < s → Pn.lg f i ≠ k + 1) ∧ (∀ q : Nat, R[k + 1]? = some (q : Int) → ∀ i, i < s → Pn.lg f i = k + 1 → f q ≤ f i)
theorem inn_next {f : Nat → Int} {n k s q : Nat} {R B : List Int} (h : Inn f n R k s) (hB : Pn.BelowOk f n B) (hk : k + 1 < R.length) (hq : R[k + 1]? = some (q : Int)) (hqn : q < n) (hql : Pn.lg f q = k + 2) (hge : f q ≤ f s) : ∃ s' : Nat, B[s]? = some (s' : Int) ∧ s < s' ∧ Inn f n R k s' := by
  obtain ⟨h1, h2, h3, h4⟩ := h
  obtain ⟨i, i1, i2, i3⟩ := Pn.lg_ahead (f := f) (j := q) (by omega)
  have hsi : s < i := by
    rcases Nat.lt_trichotomy s i with r | r | r
    · exact r
    · subst r; omega
    · have := h4 q hq i r (by omega); omega
  obtain ⟨s', b1, b2, b3, b4, b5⟩ := Pn.below_next hB hsi (by omega) (by omega)
  refine ⟨s', b1, b2, by omega, by omega, fun e => by omega, fun q' hq' j hj hjl => ?_⟩
  have e1 : q' = q := by rw [hq] at hq'; have := Option.some.inj hq'; omega
  subst e1
  rcases Nat.lt_trichotomy j s with r | r | r
  · exact h4 q' hq j r hjl
  · subst r; exact hge
  · exact absurd (show Pn.lg f j = Pn.lg f s by omega) (b5 j r hj)
theorem inn_done {f : Nat → Int} {n k s : Nat} {R : List Int} (h : Inn f n R k s) (hd : Pn.DoneFrom f n (k + 1) R) (hk : k < R.length) (hex : ∀ q : Nat, R[k + 1]? = some (q : Int) → f s < f q) : Pn.DoneFrom f n k (R.set k (s : Int)) := by
  obtain ⟨h1, h2, h3, h4⟩ := h
  refine Pn.done_set hd hk h1 h2 h3 (fun q hq => ?_)
  have hkl : k + 1 < R.length := by
    rcases Nat.lt_or_ge (k + 1) R.length with r | r
    · exact r
    · rw [List.getElem?_eq_none r] at hq; cases hq
  obtain ⟨q', q1, q2, q3, _, _⟩ := hd (k + 1) (Nat.le_refl _) hkl
  have e1 : q = q' := by rw [hq] at q1; have := Option.some.inj q1; omega
  subst e1
  obtain ⟨i, i1, i2, i3⟩ := Pn.lg_ahead (f := f) (j := q) (by omega)
  have hsi : s ≤ i := by
    rcases Nat.lt_or_ge i s with r | r
    · have := h4 q hq i r (by omega); omega
    · exact r
  exact ⟨by omega, hex q hq, fun j hj hjl => h4 q hq j hj hjl⟩

set_option maxHeartbeats 8000000 in
set_option maxRecDepth 100000 in
theorem rising_any {w : World} {v : Value} {l : List Int} (hv : RdI w v l) (hl : l.length ≤ 4194304) :
    Calls Try.prog 14 #[v] w fun e w' => ∃ (v' : Value) (S : List Nat), e = .returned v' ∧ w'.ownsRow w.heap.size 3 1 v' S.length (isC (ni S)) ∧ S.length ≤ l.length ∧ Pn.RowOk (fn l) l.length S ∧ Below w.heap.size w w' := by
  obtain ⟨a0, c0, rfl⟩ := hv.shape
  have HV := hid hv
  have HL := hid (isLong_any hv)
  have HPL := hid (pilesOf_any hv (by omega))
  rw [decide_eq_false (show ¬ (l.length : Int) > 4194304 by omega)] at HL
  clear hv
  go_enter Try.func14, Try.ntmps14
  go_wp2_with fail
  refine HL.out.mono ?_
  rintro e w0 ⟨rfl, hw0⟩
  rw [hw0]
  clear hw0 w0
  go_wp2_with fail
  refine HPL.out.mono ?_
  rintro e w1 ⟨v2, g3, P, B, rfl, hO, hI, hg3, hBl, hok, hokB, hfew, hb1⟩
  obtain ⟨a2, c2, rfl⟩ := own_shape hO
  have HP := hid hO.rd
  have HPK := hid hok
  have HBK := hid hokB
  have HB1 := hid hb1
  have HI := hid hI
  have hm := mkN P.length (by omega)
  have hbZ : Below w1.heap.size w1 (w1.alloc (.cells (isC (List.replicate P.length 0)).toArray 3)) := (Below.refl _ _).alloc (Nat.le_refl _) _
  have HP2 := hid (HP.out.below hbZ)
  have HI2 := hid (HI.out.far (hbZ.block g3 HI.out.lt))
  have HB2 := hid (HB1.out.trans (hbZ.mono HB1.out.size))
  have HR2 : Hid (IlR (w1.alloc (.cells (isC (List.replicate P.length 0)).toArray 3)) w1.heap.size (List.replicate P.length 0)) := hid (heap_alloc_new w1 _)
  have hw1 : w.heap.size ≤ w1.heap.size := HB1.out.size
  have hg31 : g3 ≠ w1.heap.size := by have := HI.out.lt; omega
  have HUP : Hid (Under w1.heap.size (.slice a2 P.length c2)) := hid (by have h := HP.out.under; exact h)
  have hpl2 := plI_len P
  rw [hpl2] at HP2
  have i0 : IntKind.i64.wrap ((P.length : Int) - 1) = (P.length : Int) - 1 := wrapOk (by omega) (by omega)
  obtain ⟨Z, hZ⟩ : ∃ Z, Z = (isC (List.replicate P.length 0)).toArray := ⟨_, rfl⟩
  rw [← hZ] at hm HP2 HI2 HB2 HR2
  clear hO hI hok hokB hb1 hbZ hZ HP HI HB1 hpl2 HL HPL
  go_wp2
  generalize w1.alloc (.cells Z 3) = w2 at HP2 HI2 HB2 HR2 ⊢
  obtain ⟨g5, hg5⟩ : ∃ g5, g5 = w1.heap.size := ⟨_, rfl⟩
  rw [← hg5] at HR2 hw1 hg31 HUP ⊢
  clear hg5 hm
  have HMO := hid HPK.out.most
  go_loopw [6] (fun i wr => ∃ (m : Nat) (Rl : List Int), m ≤ P.length ∧ Rl.length = P.length ∧ i = .int .i64 ((m : Int) - 1) ∧ Hid (IlR wr g5 Rl) ∧ Hid (Pn.DoneFrom (fn l) l.length m Rl) ∧ Hid (Kept (fun j => j = g5) w2 wr)) (fun i _ => (intOf i + 1).toNat)
  case atStart => exact ⟨P.length, List.replicate P.length 0, Nat.le_refl _, List.length_replicate, rfl, HR2, hid (by have h := Pn.done_none (fn l) l.length (List.replicate P.length (0 : Int)); rw [List.length_replicate] at h; exact h), hid (Kept.refl _ _)⟩
  case round =>
    clear HR2
    obtain ⟨m, Rl, hm, hRl, rfl, HR, HD, HK⟩ := hrel
    have HBr : Hid (Below w.heap.size w wr) := hid (HB2.out.trans (HK.out.below (fun g h => by rw [h]; exact hw1) HB2.out.size))
    by_cases h0 : m = 0
    · subst h0
      have j0 : ¬ ((0 : Int) - 1 ≥ 0) := by omega
      obtain ⟨S, hS, hrow⟩ := Pn.done_row HD.out (by rw [hRl]; exact HMO.out)
      have hSl : S.length = P.length := by rw [← hRl, hS, List.length_map]
      have HOW := hid (HR.out.own hw1 (by unfold maxLen; omega))
      go_wp2
      go_ret
      refine ⟨_, rfl, S, ?_, by omega, hrow, HBr.out⟩
      have h := HOW.out
      rw [hRl] at h
      rw [hSl]
      unfold ni
      rw [← hS]
      exact h
    · obtain ⟨k, rfl⟩ : ∃ k, m = k + 1 := ⟨m - 1, by omega⟩
      have e0 : ((k + 1 : Nat) : Int) - 1 = (k : Int) := by omega
      rw [e0]
      obtain ⟨p, hp⟩ : ∃ p, P[k]? = some p := ⟨_, List.getElem?_eq_getElem (by omega)⟩
      obtain ⟨p1, p2, p3, p4, p5, p6⟩ := HPK.out.at_ k p hp
      have HPr : Hid (RdP wr (.slice a2 P.length c2) (plI P)) := hid (by
        show RdX _ _ _ _
        rw [plI_len]
        exact HP2.out.kept HK.out (fun g o h h2 => by
          have := HUP.out g o P.length c2 (by rw [h]) (by omega)
          omega))
      obtain ⟨b2, o2, rfl, _, t1, _⟩ := rdP_at HPr.out (plI_get hp)
      simp only at t1
      obtain ⟨s0, hs0⟩ : ∃ s0 : Nat, s0 = p.1 := ⟨_, rfl⟩
      rw [← hs0] at t1 p1 p3 p5
      have i1 : (k : Int) ≥ 0 := by omega
      have i2 : (0 : Int) ≤ (k : Int) := by omega
      have i3 : (k : Int) < (P.length : Int) := by omega
      have HI3 := hid (HI2.out.far (HK.out.block g3 HI2.out.lt hg31))
      have HS0 : Hid (s0 < l.length ∧ Pn.lg (fn l) s0 = k + 1 ∧ (∀ i, i < s0 → Pn.lg (fn l) i ≠ k + 1)) := hid ⟨by omega, p3, p5⟩
      clear hp p1 p2 p3 p4 p5 p6 hs0 HPr
      have HIN : Hid (Inn (fn l) l.length Rl k s0) := hid ⟨HS0.out.1, HS0.out.2.1, fun _ => HS0.out.2.2, fun q _ i hi he => absurd he (HS0.out.2.2 i hi)⟩
      have i5 : IntKind.i64.wrap ((k : Int) + 1) = ((k + 1 : Nat) : Int) := (wrapOk (by omega) (by omega)).trans (by omega)
      have i6 : IntKind.i64.wrap ((k : Int) - 1) = (k : Int) - 1 := wrapOk (by omega) (by omega)
      obtain ⟨k1, hk1⟩ : ∃ k1, k1 = k + 1 := ⟨_, rfl⟩
      rw [← hk1] at i5
      have HK1 := hid hk1
      obtain ⟨old, hold⟩ : ∃ old, Rl[k]? = some old := ⟨_, List.getElem?_eq_getElem (by omega)⟩
      have HOLD := hid hold
      clear hold hk1
      go_upto_region 9 with fail
      go_loopw [7] (fun i w9 => ∃ (s q : Nat), i = .int .i64 s ∧ w9 = wr.drewN q ∧ Hid (Inn (fn l) l.length Rl k s)) (fun i _ => l.length - (intOf i).toNat)
      case atStart => exact ⟨s0, 0, rfl, rfl, HIN⟩
      case round =>
        clear HIN HS0
        obtain ⟨s, nd, rfl, rfl, HN⟩ := hrel
        have hs := HN.out.1
        obtain ⟨xs, hxs⟩ : ∃ xs, l[s]? = some xs := ⟨_, List.getElem?_eq_getElem hs⟩
        have HFS := hid (fn_at hxs)
        obtain ⟨b1, o1, rfl, _, d1⟩ := rdI_at (HV.out.below HBr.out) hxs
        have j1 : (0 : Int) ≤ (s : Int) := by omega
        have j2 : (s : Int) < (l.length : Int) := by omega
        have r1 : wr.cell? ⟨g5, k, none⟩ = some (.int .i64 old) := HR.out.cell HOLD.out
        have f1 : wr.frozen? ⟨g5, k, none⟩ = false := HR.out.frozen k
        by_cases hlast : k1 < P.length
        · obtain ⟨q, q1, q2, q3, _, _⟩ := HD.out k1 (by have := HK1.out; omega) (by omega)
          obtain ⟨xq, hxq⟩ : ∃ xq, l[q]? = some xq := ⟨_, List.getElem?_eq_getElem q2⟩
          have HFQ := hid (fn_at hxq)
          obtain ⟨b1', o1', e1', _, d2⟩ := rdI_at (HV.out.below HBr.out) hxq
          cases e1'
          have d3 : wr.cell? ⟨g5, k1, none⟩ = some (.int .i64 (q : Int)) := HR.out.cell q1
          have j3 : (k1 : Int) < (P.length : Int) := by omega
          have j4 : (0 : Int) ≤ (k1 : Int) := by omega
          have j5 : (0 : Int) ≤ (q : Int) := by omega
          have j6 : (q : Int) < (l.length : Int) := by omega
          have HQ : Hid (Rl[k + 1]? = some (q : Int) ∧ Pn.lg (fn l) q = k + 2) := hid (by have := HK1.out; subst this; exact ⟨q1, q3⟩)
          clear hxs hxq q1 q3
          by_cases hge : xq ≤ xs
          · obtain ⟨s', b1'', b2'', b3''⟩ := inn_next HN.out HBK.out (by have := HK1.out; omega) HQ.out.1 q2 HQ.out.2 (by rw [HFS.out, HFQ.out]; exact hge)
            have d4 : wr.cell? ⟨g3, s, none⟩ = some (.int .i64 (s' : Int)) := HI3.out.cell b1''
            have HN' := hid b3''
            have hge' : xs ≥ xq := hge
            have hs'l := b3''.1
            clear b1'' b3'' hge
            go_wp2
            go_quiet (fail)
            go_wp2
            exact ⟨⟨s', _, rfl, rfl, HN'⟩, by simp [intOf]; omega⟩
          · have hge' : ¬ xs ≥ xq := hge
            have HDN : Hid (Pn.DoneFrom (fn l) l.length k (Rl.set k (s : Int))) := hid (by
              refine inn_done HN.out HD.out (by omega) (fun q' hq' => ?_)
              have h9 := Option.some.inj (HQ.out.1.symm.trans hq')
              have e : q = q' := by omega
              rw [← e, HFS.out, HFQ.out]
              omega)
            clear HN
            go_wp2
            go_quiet (fail)
            go_wp2
            exact ⟨⟨k, Rl.set k (s : Int), by omega, by rw [List.length_set]; exact hRl, rfl, hid (IlR.set (w := wr.drewN (nd + nq)) HR.out k (s : Int)), HDN, hid ((HK.out.drewN (nd + nq)).set (g := g5) (k := k) rfl (.int .i64 (s : Int)))⟩, by simp [intOf]⟩
        · have j3 : ¬ (k1 : Int) < (P.length : Int) := by omega
          have HDN : Hid (Pn.DoneFrom (fn l) l.length k (Rl.set k (s : Int))) := hid (inn_done HN.out HD.out (by omega) (fun q' hq' => by rw [List.getElem?_eq_none (by have := HK1.out; omega)] at hq'; cases hq'))
          clear HN hxs
          go_wp2
          go_quiet (fail)
          go_wp2
          exact ⟨⟨k, Rl.set k (s : Int), by omega, by rw [List.length_set]; exact hRl, rfl, hid (IlR.set (w := wr.drewN (nd + nq)) HR.out k (s : Int)), HDN, hid ((HK.out.drewN (nd + nq)).set (g := g5) (k := k) rfl (.int .i64 (s : Int)))⟩, by simp [intOf]⟩
end Go.Proofs.Ytdilmgcdebobaaa
