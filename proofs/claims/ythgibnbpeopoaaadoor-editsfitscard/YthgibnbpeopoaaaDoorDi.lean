/-
  The walk of Join's second function.
-/
import Derived.Test.YthgibnbpeopoaaaDoorDh
import Derived.Deep.DeepCutAuto
import Derived.Deep.Cut
import Derived.Deep.CutRange
namespace Go.Proofs.YthgibnbpeopoaaaDoor
open Go.RowKit
open Ed (Ch Run Pr)

theorem take_end (p : Run → Bool) : ∀ (l : List Run) (t : Run), l[(l.takeWhile p).length]? = some t → p t = false
  | [], t, h => by simp at h
  | x :: l, t, h => by
    rw [List.takeWhile_cons] at h
    cases hx : p x with
    | true =>
      rw [hx] at h
      exact take_end p l t (by simpa using h)
    | false =>
      rw [hx] at h
      simp at h
      rw [← h]; exact hx
theorem take_at (p : Run → Bool) : ∀ (l : List Run) (i : Nat) (t : Run), (l.takeWhile p)[i]? = some t → l[i]? = some t ∧ p t = true
  | [], i, t, h => by simp at h
  | x :: l, i, t, h => by
    rw [List.takeWhile_cons] at h
    cases hx : p x with
    | true =>
      rw [hx] at h
      cases i with
      | zero => simp at h; subst h; exact ⟨rfl, hx⟩
      | succ i =>
        simp at h
        have := take_at p l i t h
        exact ⟨by rw [List.getElem?_cons_succ]; exact this.1, this.2⟩
    | false =>
      rw [hx] at h
      simp at h
theorem through_B {n m k : Int} {r t : Run} (hr : RunB n m r) (ht : RunB m k t) (h1 : r.2.1 < t.1 + t.2.2) (h2 : t.1 < r.2.1 + r.2.2) : RunB n k (Ed.through r t) := by
  obtain ⟨a, b, c⟩ := r
  obtain ⟨x, y, z⟩ := t
  unfold RunB Ed.through at *
  simp only at *
  omega
theorem Kept.drewN {X : Nat → Prop} {w w' : World} (h : Kept X w w') (q : Nat) : Kept X w (w'.drewN q) := ⟨h.os, h.tape, h.output, h.size, h.block⟩
/-- whether the first run lies ahead -/
def onF (l : List Run) (y : Int) : Bool := match l with
  | [] => false
  | t :: _ => decide (t.1 + t.2.2 ≤ y)
theorem snoc_take {l : List Run} {i : Nat} {t : Run} (h : l[i]? = some t) : l.take (i + 1) = l.take i ++ [t] := by
  rw [List.take_add_one, h]; rfl

set_option maxHeartbeats 8000000 in
set_option maxRecDepth 100000 in
theorem joinG_any {ts : List Run} {B g gw : Nat} {d : List Run} {X : Nat → Prop} {r : Run} {w : World} {n m k : Int} (hI : JnI ts B g gw d X w) (hr : RunB n m r) (hts : ∀ t ∈ ts, RunB m k t) (hso : (leftA ts d).Pairwise Ed.ltR) (hn : n ≤ 4194304) (hm : m ≤ 4194304) (hk : k ≤ 4194304) (hl : (Ed.jn d ts).length + ts.length ≤ 100000000) (hB : B ≤ w.heap.size) :
    Calls Tryd.prog 36 #[rV r, .pointer (some ⟨g, 0, none⟩), .pointer (some ⟨gw, 0, none⟩)] w fun e w' => e = .returned (.tuple #[]) ∧ Kept X w w' ∧ ∃ X', JnI ts B g gw (d ++ [r]) X' w' := by
  have HIN := hid hI.in
  obtain ⟨X0, hW, hbd, hRt, hBg, rfl⟩ := hI
  obtain ⟨b1, b2, b3, b4, b5, b6⟩ := runB_le hr hn hm
  have HALL := hid (Ed.left_all (r := r) hso (fun t ht => (hts t (leftA_sub d ts t ht)).2.2.1))
  have HTS : Hid (∀ t ∈ leftA ts d, RunB m k t) := hid (fun t ht => hts t (leftA_sub d ts t ht))
  have HJ := hid (jn_snoc d r ts)
  have HLA := hid (leftA_snoc ts d r)
  have hlen0 := leftA_len d ts
  have hlenL := left_len (leftA ts d) r
  have HR := hid hr
  have HBD := hid hbd
  have HBB : Hid (∀ i, ∀ t, (Ed.left (leftA ts d) r)[i]? = some t → RunB m k t ∧ r.2.1 < t.1 + t.2.2) := hid (fun i t h => ⟨HTS.out t (left_sub _ r t (List.mem_of_getElem? h)), HALL.out t (List.mem_of_getElem? h)⟩)
  generalize hT : leftA ts d = T at *
  clear hT hso hts
  obtain ⟨x, y, z⟩ := r
  simp only at b1 b2 b3 b4 b5 b6
  have hbA : Below w.heap.size w (w.alloc (.cells #[.int .i64 x, .int .i64 y, .int .i64 z] 68)) := (Below.refl _ _).alloc (Nat.le_refl _) _
  have hRb := heap_alloc_new w (.cells #[.int .i64 x, .int .i64 y, .int .i64 z] 68)
  have HW := hid hW
  have HRT := hid hRt
  have HBA := hid hbA
  have HRB := hid hRb
  have hiz : IntKind.i64.wrap (y + z) = y + z := wrapOk (by omega) (by omega)
  unfold rV
  clear hr hW hRt hbA hRb hbd
  obtain ⟨wb, hwb⟩ : ∃ wb, wb = w.heap.size := ⟨_, rfl⟩
  have HWB := hid hwb
  go_enter Tryd.func36, Tryd.ntmps36
  go_wp2
  rw [← hwb] at HRB ⊢
  clear hwb
  go_loopw [] (fun wr => ∃ l : List Run, Hid (RtAt g l wr) ∧ Hid (Ed.left l (x, y, z) = Ed.left T (x, y, z)) ∧ Hid (∀ t ∈ l, RunB m k t) ∧ Hid (WrAt B gw (wrC (Ed.jn d ts)) X0 wr) ∧ Hid (Kept (fun k => X0 k ∨ k = g) w wr) ∧ Hid (wr.heap[wb]? = some (.cells #[.int .i64 x, .int .i64 y, .int .i64 z] 68))) (fun wr => lenAt g wr)
  case atStart => exact ⟨T, hid (HRT.out.below HBA.out), hid rfl, HTS, hid (HW.out.later HBA.out), hid ⟨HBA.out.os, HBA.out.tape, HBA.out.output, HBA.out.size, fun k hk _ => HBA.out.block k hk⟩, HRB⟩
  case round =>
    obtain ⟨l, HRt, HL, HTs, HWr, HK, HRb⟩ := hrel
    obtain ⟨v, h1, h2, h3⟩ := HRt.out
    obtain ⟨a, c, rfl⟩ := h2.shape
    have k0 : wr.cell? ⟨g, 0, none⟩ = some (.slice a l.length c) := cell_of_blk h1 0
    have f0 : wr.frozen? ⟨g, 0, none⟩ = false := frozen_of_blk h1 0
    have r1 : wr.cell? ⟨wb, 1, none⟩ = some (.int .i64 y) := cell_of_blk HRb.out 1
    have H1 := hid h1
    have H2 := hid h2
    have H3 := hid h3
    clear h1 h2 h3
    have HDR : Hid (∀ q, wr.drewN q = wr.drewN q) := hid (fun _ => rfl)
    clear HDR
    go_upto_region 1 with fail
    go_cut [21] (fun c21 wc => c21 = .bool (onF l y) ∧ ∃ q, wc = wr.drewN q)
    case first =>
      cases l with
      | nil =>
        go_quiet (fail)
        go_wp2
        go_meet
        exact ⟨rfl, _, rfl⟩
      | cons t l =>
        obtain ⟨tb, tof, e, _, c0, c1, c2⟩ := rdR_at (k := 0) H2.out rfl
        subst e
        obtain ⟨t1, t2, t3, t4, t5⟩ := HTs.out t (List.mem_cons_self ..)
        have hiw : IntKind.i64.wrap (t.1 + t.2.2) = t.1 + t.2.2 := wrapOk (by omega) (by omega)
        have i1 : (0 : Int) < ((l.length + 1 : Nat) : Int) := by omega
        rw [List.length_cons] at k0
        rw [Nat.zero_mul, Nat.add_zero] at c0 c1 c2
        clear t1 t2 t3 t4 t5
        go_quiet (fail)
        go_wp2
        go_meet
        exact ⟨rfl, _, rfl⟩
    case rest =>
      obtain ⟨rfl, q, rfl⟩ := hcut
      have hDq : Below wr.heap.size wr (wr.drewN q) := below_drewN (Below.refl _ _) q
      have HDq := hid hDq
      have g1 : (wr.drewN q).heap[g]? = some (.cells #[.slice a l.length c] 75) := H1.out
      have k1 : (wr.drewN q).cell? ⟨g, 0, none⟩ = some (.slice a l.length c) := k0
      have f1 : (wr.drewN q).frozen? ⟨g, 0, none⟩ = false := f0
      have HG1 := hid g1
      clear g1 hDq
      cases hon : onF l y with
      | true =>
        cases l with
        | nil => cases hon
        | cons t l =>
          have hah : t.1 + t.2.2 ≤ y := by simpa [onF] using hon
          have HL2 : Hid (Ed.left l (x, y, z) = Ed.left T (x, y, z)) := hid (by
            rw [← HL.out, left_cons, if_pos]
            unfold Ed.ahead
            exact decide_eq_true hah)
          obtain ⟨tb, tof, e, _, _⟩ := rdR_at (k := 0) H2.out rfl
          subst e
          obtain ⟨A, hAe⟩ : ∃ A, (if c = 1 then some (⟨tb, tof, none⟩ : Addr) else some ⟨tb, tof + 3, none⟩) = A := ⟨_, rfl⟩
          have HTAIL := hid (rt_tail (w := wr.drewN q) HG1.out (H2.out.below HDq.out) H3.out A (by rw [← hAe, Option.map_some, Go.WideShapes.add_plain]))
          have hNX := HWr.out.not H1.out (by decide) (by decide)
          have HWr2 := hid ((HWr.out.later HDq.out).set HTAIL.out.2 hNX)
          have HK2 : Hid (Kept (fun k => X0 k ∨ k = g) w ((wr.drewN q).setCell ⟨g, 0, none⟩ (.slice A l.length (c - 1)))) := hid ((HK.out.drewN q).step HTAIL.out.2 (fun k hk => .inl (.inr hk)))
          have hbg : wb ≠ g := fun e => by have h := HRb.out; rw [e, H1.out] at h; cases h
          have HRb2 : Hid (((wr.drewN q).setCell ⟨g, 0, none⟩ (.slice A l.length (c - 1))).heap[wb]? = some (.cells #[.int .i64 x, .int .i64 y, .int .i64 z] 68)) := hid ((set_other _ hbg).trans HRb.out)
          have HTs2 : Hid (∀ t ∈ l, RunB m k t) := hid (fun t' ht => HTs.out t' (List.mem_cons_of_mem _ ht))
          have HLEN : Hid (lenAt g ((wr.drewN q).setCell ⟨g, 0, none⟩ (.slice A l.length (c - 1))) = l.length ∧ lenAt g wr = l.length + 1) := hid ⟨HTAIL.out.1.len, HRt.out.len⟩
          have HRt2 := hid HTAIL.out.1
          have i1 : (0 : Int) ≤ 1 := by omega
          have i2 : (1 : Int) ≤ ((l.length + 1 : Nat) : Int) := by omega
          rw [List.length_cons] at k0 k1
          clear hon hah HTAIL
          go_wp2
          go_roundw
          case rel => exact ⟨l, HRt2, HL2, HTs2, HWr2, HK2, HRb2⟩
          case measure => have := HLEN.out; omega
      | false =>
        have HLL : Hid (l = Ed.left T (x, y, z)) := hid (by
          rw [← HL.out]
          cases l with
          | nil => rfl
          | cons t l =>
            rw [left_cons, if_neg]
            unfold Ed.ahead
            have : ¬ t.1 + t.2.2 ≤ y := by simpa [onF] using hon
            simpa using this)
        have HRtL : Hid (RtAt g (Ed.left T (x, y, z)) (wr.drewN q)) := hid (by rw [← HLL.out]; exact HRt.out.below HDq.out)
        have HWrL := hid (HWr.out.later HDq.out)
        have HKL : Hid (Kept (fun k => X0 k ∨ k = g) w (wr.drewN q)) := hid (HK.out.drewN q)
        have HRbL : Hid ((wr.drewN q).heap[wb]? = some (.cells #[.int .i64 x, .int .i64 y, .int .i64 z] 68)) := HRb
        have hHH : Ed.hits T (x, y, z) = ((Ed.left T (x, y, z)).takeWhile (Ed.meets (x, y, z))).map (Ed.through (x, y, z)) := rfl
        rw [hHH] at HJ
        clear hon hHH
        generalize hL0 : Ed.left T (x, y, z) = L at *
        obtain ⟨w5, hw5⟩ : ∃ w5, w5 = wr.drewN q := ⟨_, rfl⟩
        rw [← hw5] at HRtL HWrL HKL HRbL ⊢
        obtain ⟨M, hM⟩ : ∃ M, M = L.takeWhile (Ed.meets (x, y, z)) := ⟨_, rfl⟩
        rw [← hM] at HJ
        have hMl : M.length ≤ L.length := by rw [hM]; exact (List.takeWhile_sublist _).length_le
        have HM := hid hM
        clear hM hL0 hw5 HRt HL HTs HWr HK HRb H1 H2 H3 HG1 HLL HDq k0 f0 r1 k1 f1
        go_wp2
        go_loopw [4] (fun i wr => ∃ (j : Nat) (X1 : Nat → Prop), j ≤ M.length ∧ i = .int .i64 j ∧ Hid (WrAt B gw (wrC (Ed.jn d ts ++ (M.take j).map (Ed.through (x, y, z)))) X1 wr) ∧ Hid (∀ k, X1 k → X0 k ∨ w.heap.size ≤ k) ∧ Hid (0 ≤ (wrC (Ed.jn d ts ++ (M.take j).map (Ed.through (x, y, z)))).2.1 ∧ (wrC (Ed.jn d ts ++ (M.take j).map (Ed.through (x, y, z)))).2.1 ≤ 8388608 ∧ 0 ≤ (wrC (Ed.jn d ts ++ (M.take j).map (Ed.through (x, y, z)))).2.2 ∧ (wrC (Ed.jn d ts ++ (M.take j).map (Ed.through (x, y, z)))).2.2 ≤ 8388608) ∧ Hid (RtAt g L wr) ∧ Hid (Kept (fun k => X0 k ∨ k = g) w wr) ∧ Hid (wr.heap[wb]? = some (.cells #[.int .i64 x, .int .i64 y, .int .i64 z] 68))) (fun i _ => M.length - (intOf i).toNat)
        case atStart => exact ⟨0, X0, Nat.zero_le _, rfl, hid (by rw [List.take_zero, List.map_nil, List.append_nil]; exact HWrL.out), hid (fun k hk => .inl hk), hid (by rw [List.take_zero, List.map_nil, List.append_nil]; exact HBD.out), HRtL, HKL, HRbL⟩
        case round =>
          obtain ⟨j, X1, hj, rfl, HWr, HX1, HBd, HRt, HK, HRb⟩ := hrel
          obtain ⟨w6, hw6⟩ : ∃ w6, w6 = wr := ⟨_, rfl⟩
          subst hw6
          obtain ⟨v, h1, h2, h3⟩ := HRt.out
          obtain ⟨a', c', rfl⟩ := h2.shape
          have k0 : w6.cell? ⟨g, 0, none⟩ = some (.slice a' L.length c') := cell_of_blk h1 0
          have r0 : w6.cell? ⟨wb, 0, none⟩ = some (.int .i64 x) := cell_of_blk HRb.out 0
          have r1 : w6.cell? ⟨wb, 1, none⟩ = some (.int .i64 y) := cell_of_blk HRb.out 1
          have r2 : w6.cell? ⟨wb, 2, none⟩ = some (.int .i64 z) := cell_of_blk HRb.out 2
          have H2 := hid h2
          clear h1 h2 h3
          go_upto_region 4 with fail
          go_cut [40] (fun c40 wc => c40 = .bool (decide (j < M.length)) ∧ ∃ q, wc = w6.drewN q)
          case first =>
            by_cases hjl : j < L.length
            · obtain ⟨t, ht⟩ : ∃ t, L[j]? = some t := ⟨_, List.getElem?_eq_getElem hjl⟩
              obtain ⟨tb, tof, e, _, c0, c1, c2⟩ := rdR_at H2.out ht
              subst e
              have HDE : Hid (decide (j < M.length) = decide (t.1 < y + z)) := hid (by
                rw [HM.out]
                by_cases hjm : j < (L.takeWhile (Ed.meets (x, y, z))).length
                · obtain ⟨t', ht'⟩ : ∃ t', (L.takeWhile (Ed.meets (x, y, z)))[j]? = some t' := ⟨_, List.getElem?_eq_getElem hjm⟩
                  obtain ⟨e1, e2⟩ := take_at _ _ _ _ ht'
                  rw [ht] at e1
                  cases e1
                  rw [decide_eq_true hjm]
                  exact e2.symm
                · have hje : j = (L.takeWhile (Ed.meets (x, y, z))).length := by have := hj; rw [HM.out] at this; omega
                  rw [decide_eq_false hjm]
                  have := take_end (Ed.meets (x, y, z)) L t (by rw [← hje]; exact ht)
                  exact this.symm)
              have i1 : (0 : Int) ≤ (j : Int) := by omega
              have i2 : (j : Int) < (L.length : Int) := by omega
              clear ht
              go_quiet (fail)
              go_wp2
              go_meet
              exact ⟨by rw [HDE.out], _, rfl⟩
            · have HDE : Hid (decide (j < M.length) = false) := hid (decide_eq_false (by omega))
              have i2 : ¬ (j : Int) < (L.length : Int) := by omega
              go_quiet (fail)
              go_wp2
              go_meet
              exact ⟨by rw [HDE.out], _, rfl⟩
          case rest =>
            obtain ⟨rfl, q2, rfl⟩ := hcut
            by_cases hjm : j < M.length
            · rw [decide_eq_true hjm]
              obtain ⟨t, ht⟩ : ∃ t, M[j]? = some t := ⟨_, List.getElem?_eq_getElem hjm⟩
              have HNX : Hid (wrC (Ed.jn d ts ++ (M.take (j + 1)).map (Ed.through (x, y, z))) = stayP (wrC (Ed.jn d ts ++ (M.take j).map (Ed.through (x, y, z)))) (Ed.through (x, y, z) t)) := hid (by
                rw [snoc_take ht, List.map_append, ← List.append_assoc]
                exact wrC_snoc _ _)
              have hLt := ht
              rw [HM.out] at hLt
              obtain ⟨hLj, hmt⟩ := take_at _ _ _ _ hLt
              obtain ⟨hBt, hov⟩ := HBB.out j t hLj
              have hRB := through_B HR.out hBt hov (by simpa [Ed.meets] using hmt)
              obtain ⟨t1, t2, t3, t4, t5, t6⟩ := runB_le hBt hm hk
              obtain ⟨p1, p2, p3, p4, p5, p6⟩ := runB_le hRB hn hk
              obtain ⟨tb, tof, e, _, c0, c1, c2⟩ := rdR_at H2.out hLj
              subst e
              obtain ⟨s1, s2, s3, s4⟩ := HBd.out
              have hlen : (wrC (Ed.jn d ts ++ (M.take j).map (Ed.through (x, y, z)))).1.length ≤ 1000000000 := by
                have h := wrC_len (Ed.jn d ts ++ (M.take j).map (Ed.through (x, y, z)))
                rw [List.length_append, List.length_map, List.length_take] at h
                omega
              have HTH := hid (fun w1 => through_any (r := (x, y, z)) (t := t) (w := w1) b1 b3 b5 t1 t3 t5 b2 b4 b6 t2 t4 t6)
              have HST := hid (fun w1 (h : Below w6.heap.size w6 w1) => stay_far (r := Ed.through (x, y, z) t) (HWr.out.later h) hlen (Nat.le_trans hB (Nat.le_trans HK.out.size h.size)) s1 s3 p1 p3 p5 p2 p4 p6 (by omega) (by omega))
              have HBD2 : Hid (0 ≤ (wrC (Ed.jn d ts ++ (M.take (j + 1)).map (Ed.through (x, y, z)))).2.1 ∧ (wrC (Ed.jn d ts ++ (M.take (j + 1)).map (Ed.through (x, y, z)))).2.1 ≤ 8388608 ∧ 0 ≤ (wrC (Ed.jn d ts ++ (M.take (j + 1)).map (Ed.through (x, y, z)))).2.2 ∧ (wrC (Ed.jn d ts ++ (M.take (j + 1)).map (Ed.through (x, y, z)))).2.2 ≤ 8388608) := hid (by
                rw [HNX.out]
                unfold stayP
                simp only
                omega)
              have HTT := hid HTH.out
              unfold rV at HTH
              generalize Ed.through (x, y, z) t = Y at HTH HTT HST HNX
              have i1 : (0 : Int) ≤ (j : Int) := by omega
              have i2 : (j : Int) < (L.length : Int) := by omega
              obtain ⟨ta, tbb, tn⟩ := t
              simp only at c0 c1 c2
              clear ht hLt hLj hmt hBt hov hRB t1 t2 t3 t4 t5 t6 p1 p2 p3 p4 p5 p6 hlen HTT
              go_wp2_with fail
              refine wp_region_qtail 5 (by kernel_rfl) (by kernel_rfl) ?_
              simp only [List.take_succ_cons, List.take_zero, List.drop_succ_cons, List.drop_zero]
              repeat go_big_quiet_step (fail)
              refine wpQuiet_nil ?_
              go_wp2_with fail
              refine (HTH.out _).mono ?_
              rintro e w7 ⟨rfl, hb7⟩
              have HB7 : Hid (Below w6.heap.size w6 w7) := hid ((below_drewN (below_drewN (Below.refl w6.heap.size w6) q2) 1).trans hb7)
              clear hb7
              go_wp2_with fail
              refine (HST.out w7 HB7.out).mono ?_
              rintro e w8 ⟨rfl, hK8, X2, hW8, hX2⟩
              have hnw : ∀ {g' : Nat} {cur : Array Value} {ty : TypeId}, w6.heap[g']? = some (.cells cur ty) → ty ≠ 77 → ty ≠ 61 → ¬ X1 g' := fun h1 h2 h3 => HWr.out.not h1 h2 h3
              have HW8 : Hid (WrAt B gw (wrC (Ed.jn d ts ++ (M.take (j + 1)).map (Ed.through (x, y, z)))) X2 w8) := hid (by rw [HNX.out]; exact hW8)
              have HX2 : Hid (∀ k, X2 k → X0 k ∨ w.heap.size ≤ k) := hid (fun k hk => by
                rcases hX2 k hk with h | h
                · exact HX1.out k h
                · right; have := HK.out.size; have := HB7.out.size; omega)
              have HRt8 : Hid (RtAt g L w8) := hid ((HRt.out.below HB7.out).kept (HWr.out.later HB7.out) hK8)
              have HK8 : Hid (Kept (fun k => X0 k ∨ k = g) w w8) := hid ((HK.out.step (X' := fun _ => False) ⟨HB7.out.os, HB7.out.tape, HB7.out.output, HB7.out.size, fun i hi _ => HB7.out.block i hi⟩ (fun _ h => h.elim)).step hK8 (fun k hk => by
                rcases HX1.out k hk with h | h
                · exact .inl (.inl h)
                · exact .inr h))
              have HRb8 : Hid (w8.heap[wb]? = some (.cells #[.int .i64 x, .int .i64 y, .int .i64 z] 68)) := hid ((hK8.block wb (Nat.lt_of_lt_of_le (lt_of_heap HRb.out) HB7.out.size) (hnw HRb.out (by decide) (by decide))).trans ((HB7.out.block wb (lt_of_heap HRb.out)).trans HRb.out))
              clear hK8 hW8 hX2 hnw
              go_wp2
              go_roundw
              case rel => exact ⟨j + 1, X2, by omega, by go_num, HW8, HX2, HBD2, HRt8, HK8, HRb8⟩
              case measure => simp [intOf]; omega
            · rw [decide_eq_false hjm]
              have hje : M.take j = M := List.take_of_length_le (by omega)
              rw [hje, ← HJ.out] at HWr HBd
              have HE : Hid (JnI ts B g gw (d ++ [(x, y, z)]) (fun k => X1 k ∨ k = g) (w6.drewN q2)) := hid ⟨X1, HWr.out.later (below_drewN (Below.refl _ _) q2), HBd.out, by rw [HLA.out]; exact HRt.out.below (below_drewN (Below.refl _ _) q2), hBg, rfl⟩
              have HKE : Hid (Kept (fun k => X0 k ∨ k = g) w (w6.drewN q2)) := hid (HK.out.drewN q2)
              clear hje
              go_wp2
              exact bodyPost_end (v := .tuple #[]) (by simp [results, Tryd.results36]) rfl ⟨rfl, HKE.out, _, HE.out⟩
end Go.Proofs.YthgibnbpeopoaaaDoor
