/-
  The walk of the document's Common: the table, line by line.
-/
import Derived.Test.YtdilmgcdebobaaaL1
import Derived.Test.YtdilmgcdebobaaaT1
namespace Go.Proofs.Ytdilmgcdebobaaa
open Go.RowKit
open Ed (Ch Run Pr)

/-- a row of numbers that is the program's own -/
def IlR (w : World) (g : Nat) (l : List Int) : Prop := w.heap[g]? = some (.cells (isC l).toArray 3)
theorem IlR.lt {w : World} {g : Nat} {l : List Int} (h : IlR w g l) : g < w.heap.size := lt_of_heap h
theorem IlR.far {w w' : World} {g : Nat} {l : List Int} (h : IlR w g l) (hb : w'.heap[g]? = w.heap[g]?) : IlR w' g l := hb.trans h
theorem IlR.cell {w : World} {g k : Nat} {l : List Int} {v : Int} (h : IlR w g l) (hk : l[k]? = some v) : w.cell? ⟨g, k, none⟩ = some (.int .i64 v) := by
  refine (cell_of_blk h k).trans ?_
  rw [List.getElem?_toArray]
  unfold isC
  rw [List.getElem?_map, hk]; rfl
theorem IlR.frozen {w : World} {g : Nat} {l : List Int} (h : IlR w g l) (o : Nat) : w.frozen? ⟨g, o, none⟩ = false := frozen_of_blk h o
theorem IlR.set {w : World} {g : Nat} {l : List Int} (h : IlR w g l) (k : Nat) (v : Int) : IlR (w.setCell ⟨g, k, none⟩ (.int .i64 v)) g (l.set k v) := by
  have h1 := set_heap w g k _ _ (.int .i64 v) h
  unfold IlR
  rw [h1]
  congr 2
  apply Array.ext'
  unfold isC
  rw [Array.toList_setIfInBounds, List.map_set]
theorem isC_made (n : Nat) : madeCells (Value.int .i64 0).cells (n * 1) = (isC (List.replicate n 0)).toArray := by
  apply Array.ext'
  rw [show (Value.int .i64 0).cells = #[Value.int .i64 0] from rfl, toList_madeCells_one]
  unfold isC
  rw [List.map_replicate, Nat.mul_one]
theorem mkN (n : Nat) (hn : n ≤ 100000000) (w : World) : (Instr.makeSlice 22 (.int .i64 (n : Int)) (.int .i64 (n : Int))).run Try.prog w = .ok (.slice (some ⟨w.heap.size, 0, none⟩) n n) (w.alloc (.cells (isC (List.replicate n 0)).toArray 3)) := by
  cases hi : Try.prog.info? 3 with
  | none => have h := Try.infoInt; rw [hi] at h; cases h
  | some i =>
    have h := Try.infoInt
    rw [hi] at h
    simp at h
    obtain ⟨h1, h2, h3⟩ := h
    have := run_make (P := Try.prog) w 22 3 i (.int .i64 0) Try.underlying22 hi h1 .i64 .i64 n n (by omega) (by omega) (by rw [h3]; omega) (by omega)
    rw [h2, isC_made] at this
    simpa using this
theorem run_max2 (t : TypeId) (x y : Int) (w : World) : (Builtin.max_ #[3, 3] t #[.int .i64 x, .int .i64 y]).run Try.prog w = .ok (.int .i64 (max x y)) w := by
  by_cases h : x < y
  · simp [Builtin.max_, Builtin.max2, go_sem, h]; omega
  · simp [Builtin.max_, Builtin.max2, go_sem, h]; omega
/-- a line of the table, filled up to a place -/
def tabR (f : Nat → Nat) (N k : Nat) : List Int := (List.range (N + 1)).map fun y => if y ≤ k then (f y : Int) else 0
theorem tabR_len (f : Nat → Nat) (N k : Nat) : (tabR f N k).length = N + 1 := by unfold tabR; rw [List.length_map, List.length_range]
theorem tabR_get (f : Nat → Nat) {N k y : Nat} (hk : y ≤ k) (hy : y ≤ N) : (tabR f N k)[y]? = some (f y : Int) := by
  unfold tabR
  rw [List.getElem?_map, List.getElem?_range (by omega)]
  simp [hk]
theorem tabR_none (f : Nat → Nat) {N k y : Nat} (hk : ¬ y ≤ k) (hy : y ≤ N) : (tabR f N k)[y]? = some 0 := by
  unfold tabR
  rw [List.getElem?_map, List.getElem?_range (by omega)]
  simp [hk]
theorem tabR_zero (f : Nat → Nat) (N : Nat) (h : f 0 = 0) : List.replicate (N + 1) 0 = tabR f N 0 := by
  apply List.ext_getElem?
  intro y
  by_cases hy : y ≤ N
  · rw [List.getElem?_replicate, if_pos (by omega)]
    by_cases h0 : y ≤ 0
    · rw [tabR_get f h0 hy, show y = 0 by omega, h]; rfl
    · rw [tabR_none f h0 hy]
  · rw [List.getElem?_replicate, if_neg (by omega), List.getElem?_eq_none (by rw [tabR_len]; omega)]
theorem tabR_set (f : Nat → Nat) {N k : Nat} (h : k < N) : (tabR f N k).set (k + 1) (f (k + 1) : Int) = tabR f N (k + 1) := by
  apply List.ext_getElem?
  intro y
  by_cases hy : y ≤ N
  · by_cases hk : y = k + 1
    · subst hk
      rw [List.getElem?_set_self (by rw [tabR_len]; omega), tabR_get f (Nat.le_refl _) hy]
    · rw [List.getElem?_set_ne (Ne.symm hk)]
      by_cases hl : y ≤ k
      · rw [tabR_get f hl hy, tabR_get f (by omega) hy]
      · rw [tabR_none f hl hy, tabR_none f (by omega) hy]
  · rw [List.getElem?_eq_none (by rw [List.length_set, tabR_len]; omega), List.getElem?_eq_none (by rw [tabR_len]; omega)]

theorem tabR_start (a b : List Int) (N : Nat) : List.replicate (N + 1) 0 = tabR (My.el a b 0) N N := by
  apply List.ext_getElem?
  intro y
  by_cases hy : y ≤ N
  · rw [List.getElem?_replicate, if_pos (by omega), tabR_get _ hy hy]; rfl
  · rw [List.getElem?_replicate, if_neg (by omega), List.getElem?_eq_none (by rw [tabR_len]; omega)]
theorem set_below {B n k : Nat} {w wr : World} {u : Value} (h : Below B w wr) (hn : B ≤ n) (hB : B ≤ wr.heap.size) : Below B w (wr.setCell ⟨n, k, none⟩ u) :=
  h.trans ((Kept.set (Kept.refl (fun j => j = n) wr) (g := n) rfl _).below (fun g e => by rw [e]; exact hn) hB)
theorem eqAt_of {a b : List Int} {x y : Nat} {u z : Int} (h1 : a[x]? = some u) (h2 : b[y]? = some z) : My.eqAt a b x y = (u == z) := by
  unfold My.eqAt; rw [h1, h2]

set_option maxHeartbeats 8000000 in
set_option maxRecDepth 100000 in
theorem refCommon_any {w : World} {v u : Value} {a b : List Int} (hv : RdI w v a) (hu : RdI w u b) (hla : a.length ≤ 10000000) (hlb : b.length ≤ 10000000) :
    Calls Try.prog 20 #[v, u] w fun e w' => e = .returned (.int .i64 (My.lcs a b)) ∧ Below w.heap.size w w' := by
  obtain ⟨a0, c0, rfl⟩ := hv.shape
  obtain ⟨a1, c1, rfl⟩ := hu.shape
  have HV := hid hv
  have HU := hid hu
  obtain ⟨L, hL⟩ : ∃ L, L = b.length + 1 := ⟨_, rfl⟩
  have hm := mkN L (by omega)
  have hT0 := tabR_start a b b.length
  rw [← hL] at hT0
  have HT0 := hid hT0
  have i0 : IntKind.i64.wrap ((b.length : Int) + 1) = (L : Int) := (wrapOk (by omega) (by omega)).trans (by omega)
  have HL := hid hL
  have jL : (b.length : Int) < (L : Int) := by omega
  have jL0 : (0 : Int) ≤ (b.length : Int) := by omega
  have HLE : Hid (∀ x y, y ≤ b.length → My.el a b x y ≤ 10000000) := hid (fun x y hy => by have := (My.el_le a b x y).2; omega)
  obtain ⟨Z, hZ⟩ : ∃ Z, Z = (isC (List.replicate L 0)).toArray := ⟨_, rfl⟩
  rw [← hZ] at hm
  have HZ := hid hZ
  clear hv hu hL hT0 hZ
  go_enter Try.func20, Try.ntmps20
  go_wp2
  have HI0 : Hid (IlR (w.alloc (.cells Z 3)) w.heap.size (tabR (My.el a b 0) b.length b.length)) := hid (by
    have h := heap_alloc_new w (.cells Z 3)
    rw [HZ.out, HT0.out] at h ⊢
    exact h)
  have HB0 : Hid (Below w.heap.size w (w.alloc (.cells Z 3))) := hid ((Below.refl _ _).alloc (Nat.le_refl _) _)
  generalize w.alloc (.cells Z 3) = w1 at HI0 HB0 ⊢
  go_loopw [5, 6] (fun r i wr => ∃ x g : Nat, x ≤ a.length ∧ i = .int .i64 x ∧ r = .slice (some ⟨g, 0, none⟩) L L ∧ w.heap.size ≤ g ∧ Hid (IlR wr g (tabR (My.el a b x) b.length b.length)) ∧ Hid (Below w.heap.size w wr)) (fun _ i _ => a.length - (intOf i).toNat)
  case atStart => exact ⟨0, w.heap.size, Nat.zero_le _, rfl, rfl, Nat.le_refl _, HI0, HB0⟩
  case round =>
    clear HI0 HB0
    obtain ⟨x, g, hx, rfl, rfl, hg, HI, HB⟩ := hrel
    by_cases hlt : x < a.length
    · obtain ⟨u, hu⟩ : ∃ u, a[x]? = some u := ⟨_, List.getElem?_eq_getElem hlt⟩
      have HX := hid hu
      have j0 : (x : Int) < (a.length : Int) := by omega
      have j1 : (0 : Int) ≤ (x : Int) := by omega
      have i1 : IntKind.i64.wrap ((x : Int) + 1) = (x : Int) + 1 := wrapOk (by omega) (by omega)
      obtain ⟨b1, o1, rfl, _, _⟩ := rdI_at (HV.out.below HB.out) hu
      clear hu
      go_wp2
      have HN1 : Hid (IlR (wr.alloc (.cells Z 3)) wr.heap.size (tabR (My.el a b (x + 1)) b.length 0)) := hid (by
        have h := heap_alloc_new wr (.cells Z 3)
        have h0 := tabR_zero (My.el a b (x + 1)) b.length (My.el_none _ _ _)
        rw [← HL.out] at h0
        rw [HZ.out, h0] at h ⊢
        exact h)
      have hbn : Below wr.heap.size wr (wr.alloc (.cells Z 3)) := (Below.refl _ _).alloc (Nat.le_refl _) _
      have HI1 : Hid (IlR (wr.alloc (.cells Z 3)) g (tabR (My.el a b x) b.length b.length)) := hid (HI.out.far (hbn.block g HI.out.lt))
      have HB1 : Hid (Below w.heap.size w (wr.alloc (.cells Z 3))) := hid (HB.out.trans (hbn.mono HB.out.size))
      have hgn : g ≠ wr.heap.size := by have := HI.out.lt; omega
      have hgw : w.heap.size ≤ wr.heap.size := HB.out.size
      generalize wr.alloc (.cells Z 3) = w2 at HN1 HI1 HB1 ⊢
      obtain ⟨n, hn⟩ : ∃ n, n = wr.heap.size := ⟨_, rfl⟩
      rw [← hn] at HN1 hgn hgw ⊢
      clear hbn HI HB hn
      go_loopw [8] (fun k wr => ∃ y : Nat, y ≤ b.length ∧ k = .int .i64 y ∧ Hid (IlR wr n (tabR (My.el a b (x + 1)) b.length y)) ∧ Hid (IlR wr g (tabR (My.el a b x) b.length b.length)) ∧ Hid (Below w.heap.size w wr)) (fun k _ => b.length - (intOf k).toNat)
      case atStart => exact ⟨0, Nat.zero_le _, rfl, HN1, HI1, HB1⟩
      case round =>
        clear HN1 HI1 HB1
        obtain ⟨y, hy, rfl, HN, HI, HB⟩ := hrel
        by_cases hlt2 : y < b.length
        · obtain ⟨z, hz⟩ : ∃ z, b[y]? = some z := ⟨_, List.getElem?_eq_getElem hlt2⟩
          have HEQ := hid (eqAt_of HX.out hz)
          obtain ⟨b2, o2, rfl, _, d2⟩ := rdI_at (HU.out.below HB.out) hz
          obtain ⟨b1', o1', e1, _, d1⟩ := rdI_at (HV.out.below HB.out) HX.out
          cases e1
          obtain ⟨E, hE⟩ : ∃ E, E = y + 1 := ⟨_, rfl⟩
          have hEb : E ≤ b.length := by omega
          have HELE := hid (fun y' h => HLE.out x y' h)
          obtain ⟨p, hp⟩ : ∃ p, p = My.el a b x y := ⟨_, rfl⟩
          obtain ⟨q, hq⟩ : ∃ q, q = My.el a b x E := ⟨_, rfl⟩
          obtain ⟨r, hr⟩ : ∃ r, r = My.el a b (x + 1) y := ⟨_, rfl⟩
          have hpl : p ≤ 10000000 := by rw [hp]; exact HLE.out x y hy
          have d3 : wr.cell? ⟨g, y, none⟩ = some (.int .i64 (p : Int)) := by rw [hp]; exact HI.out.cell (tabR_get _ hy hy)
          have d4 : wr.cell? ⟨g, E, none⟩ = some (.int .i64 (q : Int)) := by rw [hq]; exact HI.out.cell (tabR_get _ hEb hEb)
          have d5 : wr.cell? ⟨n, y, none⟩ = some (.int .i64 (r : Int)) := by rw [hr]; exact HN.out.cell (tabR_get _ (Nat.le_refl _) hy)
          obtain ⟨old, d6⟩ : ∃ old, wr.cell? ⟨n, E, none⟩ = some (.int .i64 old) := ⟨_, HN.out.cell (tabR_none _ (by omega) hEb)⟩
          have f6 := HN.out.frozen E
          have k0 : (y : Int) < (b.length : Int) := by omega
          have k1 : (0 : Int) ≤ (y : Int) := by omega
          have k2 : (y : Int) < (L : Int) := by omega
          have k3 : (0 : Int) ≤ (E : Int) := by omega
          have k4 : (E : Int) < (L : Int) := by omega
          have i2 : IntKind.i64.wrap ((y : Int) + 1) = (E : Int) := (wrapOk (by omega) (by omega)).trans (by omega)
          have i3 : IntKind.i64.wrap ((p : Int) + 1) = (p : Int) + 1 := wrapOk (by omega) (by omega)
          have HE := hid hE
          have HP := hid hp
          have HQ := hid hq
          have HR := hid hr
          have HLT := hid hlt2
          clear hz hE hp hq hr HELE
          by_cases huz : u = z
          · have hz2 : (u == z) = true := zeq huz
            have HS : Hid (∀ X, IlR X n (tabR (My.el a b (x + 1)) b.length y) → IlR (X.setCell ⟨n, E, none⟩ (.int .i64 ((p : Int) + 1))) n (tabR (My.el a b (x + 1)) b.length E)) := hid (fun X h => by
              have h2 := h.set E ((p : Int) + 1)
              have h3 := tabR_set (My.el a b (x + 1)) HLT.out
              rw [My.el_match (by rw [HEQ.out]; exact hz2), ← HP.out, ← HE.out] at h3
              push_cast at h3
              rw [h3] at h2
              exact h2)
            clear huz HEQ d4 d5
            go_wp2
            go_quiet (fail)
            go_wp2
            go_roundw
            case rel => exact ⟨E, by omega, rfl, hid (HS.out _ HN.out), hid (HI.out.far (set_other _ hgn)), hid (set_below (below_drewN HB.out _) hgw HB.out.size)⟩
            case measure => have := HE.out; simp [intOf]; omega
          · have hz2 : (u == z) = false := zne huz
            have hmx : ∀ X : World, (Builtin.max_ #[3, 3] 3 #[.int .i64 (q : Int), .int .i64 (r : Int)]).run Try.prog X = .ok (.int .i64 (max (q : Int) (r : Int))) X := run_max2 _ _ _
            clear huz d3
            go_wp2
            go_quiet (fail)
            go_wp2
            have HS : Hid (∀ X, IlR X n (tabR (My.el a b (x + 1)) b.length y) → IlR (X.setCell ⟨n, E, none⟩ (.int .i64 (max (q : Int) (r : Int)))) n (tabR (My.el a b (x + 1)) b.length E)) := hid (fun X h => by
              have h2 := h.set E (max (q : Int) (r : Int))
              have h3 := tabR_set (My.el a b (x + 1)) HLT.out
              rw [My.el_miss (by rw [HEQ.out]; exact hz2), ← HE.out, ← HQ.out, ← HR.out] at h3
              rw [show ((max q r : Nat) : Int) = max (q : Int) (r : Int) by omega] at h3
              rw [h3] at h2
              exact h2)
            have HN2 : Hid (IlR (wr.drewN nq) n (tabR (My.el a b (x + 1)) b.length y)) := HN
            have HI2 : Hid (IlR (wr.drewN nq) g (tabR (My.el a b x) b.length b.length)) := HI
            have HB2 : Hid (Below w.heap.size w (wr.drewN nq)) := hid (below_drewN HB.out _)
            have e4 : (wr.drewN nq).cell? ⟨g, E, none⟩ = some (.int .i64 (q : Int)) := d4
            have e5 : (wr.drewN nq).cell? ⟨n, y, none⟩ = some (.int .i64 (r : Int)) := d5
            have e6 : (wr.drewN nq).cell? ⟨n, E, none⟩ = some (.int .i64 old) := d6
            have e7 : (wr.drewN nq).frozen? ⟨n, E, none⟩ = false := f6
            clear d1 d2 d4 d5 d6 f6 HN HI HB HEQ
            generalize wr.drewN nq = w3 at HN2 HI2 HB2 e4 e5 e6 e7 ⊢
            refine wp_region_qtail 14 (by decide +kernel) (by decide +kernel) ?_
            simp only [List.take_succ_cons, List.take_zero, List.drop_succ_cons, List.drop_zero]
            repeat go_big_quiet_step (fail)
            refine wpQuiet_nil ?_
            have e6' : (w3.drewN 1).cell? ⟨n, E, none⟩ = some (.int .i64 old) := e6
            have e7' : (w3.drewN 1).frozen? ⟨n, E, none⟩ = false := e7
            clear e4 e5 e6 e7
            go_wp2
            go_roundw
            case rel => exact ⟨E, by omega, rfl, hid (HS.out _ HN2.out), hid (HI2.out.far (set_other _ hgn)), hid (set_below (below_drewN HB2.out _) hgw HB2.out.size)⟩
            case measure => have := HE.out; simp [intOf]; omega
        · have HN2 : Hid (IlR wr n (tabR (My.el a b (x + 1)) b.length b.length)) := hid (by have h := HN.out; rw [show y = b.length by omega] at h; exact h)
          clear HN HI
          go_wp2
          exact ⟨⟨x + 1, n, by omega, by push_cast; rfl, rfl, hgw, HN2, HB⟩, by simp [intOf]; omega⟩
    · have HR : Hid (IlR wr g (tabR (My.el a b a.length) b.length b.length)) := hid (by have h := HI.out; rw [show x = a.length by omega] at h; exact h)
      have d1 : wr.cell? ⟨g, b.length, none⟩ = some (.int .i64 (My.lcs a b : Int)) := HR.out.cell (tabR_get _ (Nat.le_refl _) (Nat.le_refl _))
      clear HI HR
      go_wp2
      go_ret
      exact ⟨rfl, HB.out⟩
end Go.Proofs.Ytdilmgcdebobaaa
