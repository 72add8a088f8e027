/-
  The walk of the document's fits.
-/
import Derived.Test.YtfjhjhjdneihbaaGreatDoorI6
namespace Go.Proofs.YtfjhjhjdneihbaaGreatDoor
open Go.RowKit

theorem wp_region_class {id : Nat} {C : World → Prop} {Q : Exit → Act → World → Prop} {a : Act} {w : World} {l : List Oper} (hm : Tryz.prog.follows .mixedOrders = true) (hB : Region.lexB .any l.toArray = true) (hC : C w.drew)
    (h : wpQuiet Tryz.prog l.toArray C (fun a' => ∀ w', C w' → Q .normal a' w') l a) : (Code.region id l.toArray true).wp Tryz.prog Q a w :=
  wp_region_quiet (C := C) hm hB hC (by simpa using h)
/-- pieces that are read -/
def DpRd (w : World) (B : Nat) (v : Value) (ps : List Pg.Pi) : Prop := (ps = [] ∧ ∃ a c, v = .slice a 0 c) ∨ ∃ b o c, v = .slice (some ⟨b, o, none⟩) ps.length c ∧ ps.length ≤ c ∧ b < w.heap.size ∧ ∀ (j : Nat) q, ps[j]? = some q → w.cell? ⟨b, o + j * 2, none⟩ = some (.bool q.isNone) ∧ ∃ u, w.cell? ⟨b, o + j * 2 + 1, none⟩ = some u ∧ (∃ a n c, u = .slice a n c) ∧ ∀ P, q = some P → OwnP w B u P ∧ P.length ≤ 1024
theorem DpRd.later {w w' : World} {B : Nat} {v : Value} {ps : List Pg.Pi} (h : DpRd w B v ps) (hb : Below w.heap.size w w') : DpRd w' B v ps := by
  rcases h with h | ⟨b, o, c, hv, hc, hlt, hX⟩
  · exact .inl h
  · refine .inr ⟨b, o, c, hv, hc, Nat.lt_of_lt_of_le hlt hb.size, fun j q hj => ?_⟩
    obtain ⟨e1, u, e2, e4, e3⟩ := hX j q hj
    exact ⟨(hb.cell (p := ⟨b, _, none⟩) hlt).trans e1, u, (hb.cell (p := ⟨b, _, none⟩) hlt).trans e2, e4, fun P hP => ⟨(e3 P hP).1.stays hb, (e3 P hP).2⟩⟩
theorem OwnDp.read {w : World} {B : Nat} {v : Value} {ps : List Pg.Pi} (h : OwnDp w B v ps) : DpRd w B v ps := by
  obtain ⟨cs, h1, h2⟩ := h
  rcases h1.2 with ⟨hv, hn⟩ | ⟨g, cap, cur, hv, hg, hh, hc, hm, hsz, ht⟩
  · exact .inl ⟨List.length_eq_zero_iff.1 hn, none, 0, hv⟩
  · refine .inr ⟨g, 0, cap, hv, hc, lt_of_heap hh, fun j q hj => ?_⟩
    obtain ⟨u, x, e1, e2, e3, e4, e5⟩ := h2 j q hj
    have hcell : ∀ i y, cs[i]? = some y → w.cell? ⟨g, i, none⟩ = some y := fun i y hy => by
      rw [← ht, List.getElem?_take] at hy
      split at hy
      · have := cell_of_blk hh i
        rw [this, ← Array.getElem?_toList]; exact hy
      · cases hy
    refine ⟨?_, x, ?_, e4, e5⟩
    · rw [Nat.zero_add, hcell _ _ e1, e3]
    · rw [Nat.zero_add]; exact hcell _ _ e2
theorem DpRd.tail {w : World} {B b o c : Nat} {q : Pg.Pi} {r : List Pg.Pi} (h : DpRd w B (.slice (some ⟨b, o, none⟩) (r.length + 1) c) (q :: r)) : (c = 1 → DpRd w B (.slice (some ⟨b, o, none⟩) r.length 0) r) ∧ (¬ c = 1 → DpRd w B (.slice (some ⟨b, o + 2, none⟩) r.length (c - 1)) r) := by
  rcases h with ⟨h, _⟩ | ⟨b', o', c', hv, hc, hlt, hX⟩
  · cases h
  · rw [List.length_cons] at hv hc
    cases hv
    constructor
    · intro h1
      have : r = [] := List.length_eq_zero_iff.1 (by omega)
      subst this
      exact .inl ⟨rfl, _, _, rfl⟩
    · intro h1
      refine .inr ⟨b, o + 2, c - 1, rfl, by omega, hlt, fun j p hj => ?_⟩
      have := hX (j + 1) p (by simpa using hj)
      rw [show o + (j + 1) * 2 = o + 2 + j * 2 by omega] at this
      exact this

set_option maxHeartbeats 8000000 in
set_option maxRecDepth 100000 in
theorem fits_one (several : Bool) (P : List Pg.Pt) (r : List Pg.Pi) (B : Nat) (w : World) (v u : Value) (ns : List (List UInt8)) (hv : DpRd w B v (some P :: r)) (hu : Rd w u (BL ns)) (hsz : ∀ n ∈ ns, n.length ≤ 10000000) (hnl : ns.length ≤ 10000000) (hrl : r.length ≤ 100000000)
    (ih : ∀ (w : World) (v u : Value) (ns : List (List UInt8)), DpRd w B v r → Rd w u (BL ns) → (∀ n ∈ ns, n.length ≤ 10000000) → ns.length ≤ 10000000 → Calls Tryz.prog 46 #[v, u, .bool several] w fun e w' => e = .returned (.bool (Pg.D several r ns)) ∧ Below w.heap.size w w') :
    Calls Tryz.prog 46 #[v, u, .bool several] w fun e w' => e = .returned (.bool (Pg.D several (some P :: r) ns)) ∧ Below w.heap.size w w' := by
  have HV := hid hv
  have HU := hid hu
  rcases hv with ⟨h, _⟩ | ⟨b, o, c, rfl, hc, hlt, hX⟩
  · cases h
  obtain ⟨e1, x, e2, ⟨ax, nx, cx, rfl⟩, e3⟩ := hX 0 (some P) rfl
  obtain ⟨hO, hPl⟩ := e3 P rfl
  rw [Nat.zero_mul, Nat.add_zero] at e1 e2
  rw [List.length_cons] at hc HV ⊢
  have HO := hid hO
  have HT := hid HV.out.tail
  have HIH := hid ih
  have HSZ := hid hsz
  have e1' : w.cell? ⟨b, o, none⟩ = some (.bool false) := e1
  have HE2 := hid e2
  have HLT := hid hlt
  obtain ⟨L, hL⟩ : ∃ L, L = r.length + 1 := ⟨_, rfl⟩
  rw [← hL] at hc HV ⊢
  have hL0 : (0 : Int) < (L : Int) := by omega
  have hL0n : 0 < L := by omega
  have hLz : ((L : Int) == 0) = false := beq_eq_false_iff_ne.2 (by omega)
  have HLL := hid hL
  clear hX e1 e2 e3 ih hsz hL hO HV
  cases ns with
  | nil =>
    obtain ⟨a2, c2, rfl⟩ := HU.out.shape
    have hz : (BL ([] : List (List UInt8))).length = 0 := rfl
    rw [hz]
    clear hu HU
    go_enter Tryz.func46, Tryz.ntmps46
    go_wp2
    go_quiet (fail)
    go_wp2
    go_ret
    exact ⟨rfl, below_drewN (Below.refl _ _) _⟩
  | cons n ns =>
    have hn0 := HSZ.out n (by simp)
    have HSZ2 : Hid (∀ m ∈ ns, m.length ≤ 10000000) := hid (fun m hm => HSZ.out m (by simp [hm]))
    rw [List.length_cons] at hnl
    rcases hu with ⟨h, _⟩ | ⟨b2, o2, c2, rfl, hc2, hlt2, hX2⟩
    · cases h
    have d2 := hX2 0 ⟨n.toArray⟩ rfl
    rw [Nat.add_zero] at d2
    have hbl : (BL (n :: ns)).length = ns.length + 1 := by rw [BL_length]; rfl
    rw [hbl] at HU hc2 ⊢
    have HTN := hid (rd_drop HU.out 1 (by rw [hbl]; omega) hc2)
    rw [BL_drop] at HTN
    obtain ⟨M, hM⟩ : ∃ M, M = ns.length + 1 := ⟨_, rfl⟩
    rw [← hM] at hc2 HU HTN ⊢
    have hM0 : (0 : Int) < (M : Int) := by omega
    have hM0n : 0 < M := by omega
    obtain ⟨nb, hnb⟩ : ∃ nb : ByteArray, nb = ⟨n.toArray⟩ := ⟨_, rfl⟩
    have HNB : Hid (nb.data.toList = n) := hid (by rw [hnb])
    have hnbs : nb.size ≤ 10000000 := by rw [← size_data, HNB.out]; exact hn0
    rw [← hnb] at d2
    have HD2 := hid d2
    have HLT2 := hid hlt2
    have HMM := hid hM
    have HMT := hid (fun (W : World) (hW : Below w.heap.size w W) => refMatch_any nb (HO.out.stays hW) (by omega) hPl)
    rw [HNB.out] at HMT
    have HDD : Hid (Pg.D several (some P :: r) (n :: ns) = (Pg.mt P n && Pg.D several r ns)) := hid rfl
    have HTN2 : Hid ((c2 = 1 → Rd w (.slice (some ⟨b2, o2, none⟩) ns.length 0) (BL ns)) ∧ (¬ c2 = 1 → Rd w (.slice (some ⟨b2, o2 + 1, none⟩) ns.length (c2 - 1)) (BL ns))) := hid (by
      have h := HTN.out
      rw [show M - 1 = ns.length by omega] at h
      constructor
      · intro e; rw [if_pos e, e] at h; exact h
      · intro e
        rw [if_neg e, Option.map_some, Go.WideShapes.add_plain] at h
        exact h)
    have hLr : L - 1 = r.length := by have := HLL.out; omega
    have hMn : M - 1 = ns.length := by omega
    clear hX2 hbl hnb d2 hlt2 hlt HU hM HTN hn0
    have jc : (L : Int) ≤ (c : Int) := by omega
    have jc2 : (M : Int) ≤ (c2 : Int) := by omega
    have jL1 : (1 : Int) ≤ (L : Int) := by omega
    have jM1 : (1 : Int) ≤ (M : Int) := by omega
    have HIH2 : Hid (∀ (W : World), Below w.heap.size w W → ∀ v1 u1, (DpRd w B v1 r) → (Rd w u1 (BL ns)) → Calls Tryz.prog 46 #[v1, u1, .bool several] W fun e w' => e = .returned (.bool (Pg.D several r ns)) ∧ Below W.heap.size W w') := hid (fun W hW v1 u1 h1 h2 => HIH.out W v1 u1 ns (h1.later hW) (h2.below hW) HSZ2.out (by omega))
    rw [HDD.out]
    by_cases hm : Pg.mt P n = true
    · rw [hm] at HMT ⊢
      rw [Bool.true_and]
      generalize Pg.D several r ns = dd at HIH2
      clear hm HIH HDD HSZ HSZ2
      by_cases hc1 : c = 1
      · have HT1 := hid (HT.out.1 hc1)
        by_cases hc3 : c2 = 1
        · have HN1 := hid (HTN2.out.1 hc3)
          go_enter Tryz.func46, Tryz.ntmps46
          go_wp2
          refine wp_region_class (C := fun w' => Below w.heap.size w w') (by kernel_rfl) (by kernel_rfl) (below_drewN (Below.refl _ _) 1) ?_
          refine wpQuiet_step (fun K hK => ?_)
          go_simp
          refine ⟨_, fun _ _ => rfl, hK _ ?_⟩
          clear hK K
          refine wpQuiet_step (fun K hK => ?_)
          go_simp
          refine ⟨_, fun _ _ => rfl, hK _ ?_⟩
          clear hK K
          refine wpQuiet_step (fun K hK => ?_)
          go_simp
          refine ⟨_, fun _ _ => rfl, hK _ ?_⟩
          clear hK K
          refine wpQuiet_step (fun K hK => ?_)
          go_simp
          refine ⟨_, fun _ _ => rfl, hK _ ?_⟩
          clear hK K
          refine wpQuiet_step (fun K hK => ?_)
          go_simp
          refine ⟨_, fun _ _ => rfl, hK _ ?_⟩
          clear hK K
          refine wpQuiet_step (fun K hK => ?_)
          go_simp
          refine ⟨_, fun _ _ => rfl, hK _ ?_⟩
          clear hK K
          refine wpQuiet_step (fun K hK => ?_)
          go_simp
          refine ⟨_, fun _ _ => rfl, hK _ ?_⟩
          clear hK K
          refine wpQuiet_step (fun K hK => ?_)
          rw [if_pos (by rfl)]
          refine ⟨.slice ax nx cx, fun w' hw' => ?_, hK _ ?_⟩
          · have c1 := (hw'.cell (p := ⟨b, o + 1, none⟩) HLT.out).trans HE2.out
            go_simp
          clear hK K
          refine wpQuiet_step (fun K hK => ?_)
          go_simp
          refine ⟨_, fun _ _ => rfl, hK _ ?_⟩
          clear hK K
          refine wpQuiet_step (fun K hK => ?_)
          go_simp
          refine ⟨_, fun _ _ => rfl, hK _ ?_⟩
          clear hK K
          refine wpQuiet_step (fun K hK => ?_)
          rw [if_pos (by rfl)]
          refine ⟨.string nb, fun w' hw' => ?_, hK _ ?_⟩
          · have c1 := (hw'.cell (p := ⟨b2, o2, none⟩) HLT2.out).trans HD2.out
            go_simp
          clear hK K
          refine wpQuiet_step (fun K hK => ?_)
          rw [if_pos (by rfl)]
          refine ⟨.bool true, fun w' hw' => ?_, hK _ ?_⟩
          · go_simp
            refine (HMT.out w' hw').mono ?_
            rintro r wn ⟨rfl, hbn⟩
            exact ⟨rfl, hw'.trans (hbn.mono hw'.size)⟩
          clear hK K
          refine wpQuiet_step (fun K hK => ?_)
          go_simp
          refine ⟨_, fun _ _ => rfl, hK _ ?_⟩
          clear hK K
          refine wpQuiet_step (fun K hK => ?_)
          go_simp
          refine ⟨_, fun _ _ => rfl, hK _ ?_⟩
          clear hK K
          refine wpQuiet_step (fun K hK => ?_)
          go_simp
          refine ⟨_, fun _ _ => rfl, hK _ ?_⟩
          clear hK K
          refine wpQuiet_step (fun K hK => ?_)
          go_simp
          refine ⟨_, fun _ _ => rfl, hK _ ?_⟩
          clear hK K
          refine wpQuiet_step (fun K hK => ?_)
          go_simp
          refine ⟨_, fun _ _ => rfl, hK _ ?_⟩
          clear hK K
          refine wpQuiet_step (fun K hK => ?_)
          go_simp
          refine ⟨_, fun _ _ => rfl, hK _ ?_⟩
          clear hK K
          refine wpQuiet_step (fun K hK => ?_)
          go_simp
          refine ⟨_, fun _ _ => rfl, hK _ ?_⟩
          clear hK K
          refine wpQuiet_step (fun K hK => ?_)
          rw [if_pos (by rfl)]
          refine ⟨.bool dd, fun w' hw' => ?_, hK _ ?_⟩
          · go_simp
            refine (HIH2.out w' hw' _ _ HT1.out HN1.out).mono ?_
            rintro r wn ⟨rfl, hbn⟩
            exact ⟨rfl, hw'.trans (hbn.mono hw'.size)⟩
          clear hK K
          refine wpQuiet_step (fun K hK => ?_)
          go_simp
          refine ⟨_, fun _ _ => rfl, hK _ ?_⟩
          clear hK K
          refine wpQuiet_step (fun K hK => ?_)
          go_simp
          refine ⟨_, fun _ _ => rfl, hK _ ?_⟩
          clear hK K
          refine wpQuiet_nil ?_
          intro w' hw'
          go_wp2
          go_ret
          exact ⟨rfl, hw'⟩
        · have HN1 := hid (HTN2.out.2 hc3)
          go_enter Tryz.func46, Tryz.ntmps46
          go_wp2
          refine wp_region_class (C := fun w' => Below w.heap.size w w') (by kernel_rfl) (by kernel_rfl) (below_drewN (Below.refl _ _) 1) ?_
          refine wpQuiet_step (fun K hK => ?_)
          go_simp
          refine ⟨_, fun _ _ => rfl, hK _ ?_⟩
          clear hK K
          refine wpQuiet_step (fun K hK => ?_)
          go_simp
          refine ⟨_, fun _ _ => rfl, hK _ ?_⟩
          clear hK K
          refine wpQuiet_step (fun K hK => ?_)
          go_simp
          refine ⟨_, fun _ _ => rfl, hK _ ?_⟩
          clear hK K
          refine wpQuiet_step (fun K hK => ?_)
          go_simp
          refine ⟨_, fun _ _ => rfl, hK _ ?_⟩
          clear hK K
          refine wpQuiet_step (fun K hK => ?_)
          go_simp
          refine ⟨_, fun _ _ => rfl, hK _ ?_⟩
          clear hK K
          refine wpQuiet_step (fun K hK => ?_)
          go_simp
          refine ⟨_, fun _ _ => rfl, hK _ ?_⟩
          clear hK K
          refine wpQuiet_step (fun K hK => ?_)
          go_simp
          refine ⟨_, fun _ _ => rfl, hK _ ?_⟩
          clear hK K
          refine wpQuiet_step (fun K hK => ?_)
          rw [if_pos (by rfl)]
          refine ⟨.slice ax nx cx, fun w' hw' => ?_, hK _ ?_⟩
          · have c1 := (hw'.cell (p := ⟨b, o + 1, none⟩) HLT.out).trans HE2.out
            go_simp
          clear hK K
          refine wpQuiet_step (fun K hK => ?_)
          go_simp
          refine ⟨_, fun _ _ => rfl, hK _ ?_⟩
          clear hK K
          refine wpQuiet_step (fun K hK => ?_)
          go_simp
          refine ⟨_, fun _ _ => rfl, hK _ ?_⟩
          clear hK K
          refine wpQuiet_step (fun K hK => ?_)
          rw [if_pos (by rfl)]
          refine ⟨.string nb, fun w' hw' => ?_, hK _ ?_⟩
          · have c1 := (hw'.cell (p := ⟨b2, o2, none⟩) HLT2.out).trans HD2.out
            go_simp
          clear hK K
          refine wpQuiet_step (fun K hK => ?_)
          rw [if_pos (by rfl)]
          refine ⟨.bool true, fun w' hw' => ?_, hK _ ?_⟩
          · go_simp
            refine (HMT.out w' hw').mono ?_
            rintro r wn ⟨rfl, hbn⟩
            exact ⟨rfl, hw'.trans (hbn.mono hw'.size)⟩
          clear hK K
          refine wpQuiet_step (fun K hK => ?_)
          go_simp
          refine ⟨_, fun _ _ => rfl, hK _ ?_⟩
          clear hK K
          refine wpQuiet_step (fun K hK => ?_)
          go_simp
          refine ⟨_, fun _ _ => rfl, hK _ ?_⟩
          clear hK K
          refine wpQuiet_step (fun K hK => ?_)
          go_simp
          refine ⟨_, fun _ _ => rfl, hK _ ?_⟩
          clear hK K
          refine wpQuiet_step (fun K hK => ?_)
          go_simp
          refine ⟨_, fun _ _ => rfl, hK _ ?_⟩
          clear hK K
          refine wpQuiet_step (fun K hK => ?_)
          go_simp
          refine ⟨_, fun _ _ => rfl, hK _ ?_⟩
          clear hK K
          refine wpQuiet_step (fun K hK => ?_)
          go_simp
          refine ⟨_, fun _ _ => rfl, hK _ ?_⟩
          clear hK K
          refine wpQuiet_step (fun K hK => ?_)
          go_simp
          refine ⟨_, fun _ _ => rfl, hK _ ?_⟩
          clear hK K
          refine wpQuiet_step (fun K hK => ?_)
          rw [if_pos (by rfl)]
          refine ⟨.bool dd, fun w' hw' => ?_, hK _ ?_⟩
          · go_simp
            refine (HIH2.out w' hw' _ _ HT1.out HN1.out).mono ?_
            rintro r wn ⟨rfl, hbn⟩
            exact ⟨rfl, hw'.trans (hbn.mono hw'.size)⟩
          clear hK K
          refine wpQuiet_step (fun K hK => ?_)
          go_simp
          refine ⟨_, fun _ _ => rfl, hK _ ?_⟩
          clear hK K
          refine wpQuiet_step (fun K hK => ?_)
          go_simp
          refine ⟨_, fun _ _ => rfl, hK _ ?_⟩
          clear hK K
          refine wpQuiet_nil ?_
          intro w' hw'
          go_wp2
          go_ret
          exact ⟨rfl, hw'⟩
      · have HT1 := hid (HT.out.2 hc1)
        by_cases hc3 : c2 = 1
        · have HN1 := hid (HTN2.out.1 hc3)
          go_enter Tryz.func46, Tryz.ntmps46
          go_wp2
          refine wp_region_class (C := fun w' => Below w.heap.size w w') (by kernel_rfl) (by kernel_rfl) (below_drewN (Below.refl _ _) 1) ?_
          refine wpQuiet_step (fun K hK => ?_)
          go_simp
          refine ⟨_, fun _ _ => rfl, hK _ ?_⟩
          clear hK K
          refine wpQuiet_step (fun K hK => ?_)
          go_simp
          refine ⟨_, fun _ _ => rfl, hK _ ?_⟩
          clear hK K
          refine wpQuiet_step (fun K hK => ?_)
          go_simp
          refine ⟨_, fun _ _ => rfl, hK _ ?_⟩
          clear hK K
          refine wpQuiet_step (fun K hK => ?_)
          go_simp
          refine ⟨_, fun _ _ => rfl, hK _ ?_⟩
          clear hK K
          refine wpQuiet_step (fun K hK => ?_)
          go_simp
          refine ⟨_, fun _ _ => rfl, hK _ ?_⟩
          clear hK K
          refine wpQuiet_step (fun K hK => ?_)
          go_simp
          refine ⟨_, fun _ _ => rfl, hK _ ?_⟩
          clear hK K
          refine wpQuiet_step (fun K hK => ?_)
          go_simp
          refine ⟨_, fun _ _ => rfl, hK _ ?_⟩
          clear hK K
          refine wpQuiet_step (fun K hK => ?_)
          rw [if_pos (by rfl)]
          refine ⟨.slice ax nx cx, fun w' hw' => ?_, hK _ ?_⟩
          · have c1 := (hw'.cell (p := ⟨b, o + 1, none⟩) HLT.out).trans HE2.out
            go_simp
          clear hK K
          refine wpQuiet_step (fun K hK => ?_)
          go_simp
          refine ⟨_, fun _ _ => rfl, hK _ ?_⟩
          clear hK K
          refine wpQuiet_step (fun K hK => ?_)
          go_simp
          refine ⟨_, fun _ _ => rfl, hK _ ?_⟩
          clear hK K
          refine wpQuiet_step (fun K hK => ?_)
          rw [if_pos (by rfl)]
          refine ⟨.string nb, fun w' hw' => ?_, hK _ ?_⟩
          · have c1 := (hw'.cell (p := ⟨b2, o2, none⟩) HLT2.out).trans HD2.out
            go_simp
          clear hK K
          refine wpQuiet_step (fun K hK => ?_)
          rw [if_pos (by rfl)]
          refine ⟨.bool true, fun w' hw' => ?_, hK _ ?_⟩
          · go_simp
            refine (HMT.out w' hw').mono ?_
            rintro r wn ⟨rfl, hbn⟩
            exact ⟨rfl, hw'.trans (hbn.mono hw'.size)⟩
          clear hK K
          refine wpQuiet_step (fun K hK => ?_)
          go_simp
          refine ⟨_, fun _ _ => rfl, hK _ ?_⟩
          clear hK K
          refine wpQuiet_step (fun K hK => ?_)
          go_simp
          refine ⟨_, fun _ _ => rfl, hK _ ?_⟩
          clear hK K
          refine wpQuiet_step (fun K hK => ?_)
          go_simp
          refine ⟨_, fun _ _ => rfl, hK _ ?_⟩
          clear hK K
          refine wpQuiet_step (fun K hK => ?_)
          go_simp
          refine ⟨_, fun _ _ => rfl, hK _ ?_⟩
          clear hK K
          refine wpQuiet_step (fun K hK => ?_)
          go_simp
          refine ⟨_, fun _ _ => rfl, hK _ ?_⟩
          clear hK K
          refine wpQuiet_step (fun K hK => ?_)
          go_simp
          refine ⟨_, fun _ _ => rfl, hK _ ?_⟩
          clear hK K
          refine wpQuiet_step (fun K hK => ?_)
          go_simp
          refine ⟨_, fun _ _ => rfl, hK _ ?_⟩
          clear hK K
          refine wpQuiet_step (fun K hK => ?_)
          rw [if_pos (by rfl)]
          refine ⟨.bool dd, fun w' hw' => ?_, hK _ ?_⟩
          · go_simp
            refine (HIH2.out w' hw' _ _ HT1.out HN1.out).mono ?_
            rintro r wn ⟨rfl, hbn⟩
            exact ⟨rfl, hw'.trans (hbn.mono hw'.size)⟩
          clear hK K
          refine wpQuiet_step (fun K hK => ?_)
          go_simp
          refine ⟨_, fun _ _ => rfl, hK _ ?_⟩
          clear hK K
          refine wpQuiet_step (fun K hK => ?_)
          go_simp
          refine ⟨_, fun _ _ => rfl, hK _ ?_⟩
          clear hK K
          refine wpQuiet_nil ?_
          intro w' hw'
          go_wp2
          go_ret
          exact ⟨rfl, hw'⟩
        · have HN1 := hid (HTN2.out.2 hc3)
          go_enter Tryz.func46, Tryz.ntmps46
          go_wp2
          refine wp_region_class (C := fun w' => Below w.heap.size w w') (by kernel_rfl) (by kernel_rfl) (below_drewN (Below.refl _ _) 1) ?_
          refine wpQuiet_step (fun K hK => ?_)
          go_simp
          refine ⟨_, fun _ _ => rfl, hK _ ?_⟩
          clear hK K
          refine wpQuiet_step (fun K hK => ?_)
          go_simp
          refine ⟨_, fun _ _ => rfl, hK _ ?_⟩
          clear hK K
          refine wpQuiet_step (fun K hK => ?_)
          go_simp
          refine ⟨_, fun _ _ => rfl, hK _ ?_⟩
          clear hK K
          refine wpQuiet_step (fun K hK => ?_)
          go_simp
          refine ⟨_, fun _ _ => rfl, hK _ ?_⟩
          clear hK K
          refine wpQuiet_step (fun K hK => ?_)
          go_simp
          refine ⟨_, fun _ _ => rfl, hK _ ?_⟩
          clear hK K
          refine wpQuiet_step (fun K hK => ?_)
          go_simp
          refine ⟨_, fun _ _ => rfl, hK _ ?_⟩
          clear hK K
          refine wpQuiet_step (fun K hK => ?_)
          go_simp
          refine ⟨_, fun _ _ => rfl, hK _ ?_⟩
          clear hK K
          refine wpQuiet_step (fun K hK => ?_)
          rw [if_pos (by rfl)]
          refine ⟨.slice ax nx cx, fun w' hw' => ?_, hK _ ?_⟩
          · have c1 := (hw'.cell (p := ⟨b, o + 1, none⟩) HLT.out).trans HE2.out
            go_simp
          clear hK K
          refine wpQuiet_step (fun K hK => ?_)
          go_simp
          refine ⟨_, fun _ _ => rfl, hK _ ?_⟩
          clear hK K
          refine wpQuiet_step (fun K hK => ?_)
          go_simp
          refine ⟨_, fun _ _ => rfl, hK _ ?_⟩
          clear hK K
          refine wpQuiet_step (fun K hK => ?_)
          rw [if_pos (by rfl)]
          refine ⟨.string nb, fun w' hw' => ?_, hK _ ?_⟩
          · have c1 := (hw'.cell (p := ⟨b2, o2, none⟩) HLT2.out).trans HD2.out
            go_simp
          clear hK K
          refine wpQuiet_step (fun K hK => ?_)
          rw [if_pos (by rfl)]
          refine ⟨.bool true, fun w' hw' => ?_, hK _ ?_⟩
          · go_simp
            refine (HMT.out w' hw').mono ?_
            rintro r wn ⟨rfl, hbn⟩
            exact ⟨rfl, hw'.trans (hbn.mono hw'.size)⟩
          clear hK K
          refine wpQuiet_step (fun K hK => ?_)
          go_simp
          refine ⟨_, fun _ _ => rfl, hK _ ?_⟩
          clear hK K
          refine wpQuiet_step (fun K hK => ?_)
          go_simp
          refine ⟨_, fun _ _ => rfl, hK _ ?_⟩
          clear hK K
          refine wpQuiet_step (fun K hK => ?_)
          go_simp
          refine ⟨_, fun _ _ => rfl, hK _ ?_⟩
          clear hK K
          refine wpQuiet_step (fun K hK => ?_)
          go_simp
          refine ⟨_, fun _ _ => rfl, hK _ ?_⟩
          clear hK K
          refine wpQuiet_step (fun K hK => ?_)
          go_simp
          refine ⟨_, fun _ _ => rfl, hK _ ?_⟩
          clear hK K
          refine wpQuiet_step (fun K hK => ?_)
          go_simp
          refine ⟨_, fun _ _ => rfl, hK _ ?_⟩
          clear hK K
          refine wpQuiet_step (fun K hK => ?_)
          go_simp
          refine ⟨_, fun _ _ => rfl, hK _ ?_⟩
          clear hK K
          refine wpQuiet_step (fun K hK => ?_)
          rw [if_pos (by rfl)]
          refine ⟨.bool dd, fun w' hw' => ?_, hK _ ?_⟩
          · go_simp
            refine (HIH2.out w' hw' _ _ HT1.out HN1.out).mono ?_
            rintro r wn ⟨rfl, hbn⟩
            exact ⟨rfl, hw'.trans (hbn.mono hw'.size)⟩
          clear hK K
          refine wpQuiet_step (fun K hK => ?_)
          go_simp
          refine ⟨_, fun _ _ => rfl, hK _ ?_⟩
          clear hK K
          refine wpQuiet_step (fun K hK => ?_)
          go_simp
          refine ⟨_, fun _ _ => rfl, hK _ ?_⟩
          clear hK K
          refine wpQuiet_nil ?_
          intro w' hw'
          go_wp2
          go_ret
          exact ⟨rfl, hw'⟩
    · have hm' : Pg.mt P n = false := by simpa using hm
      rw [hm'] at HMT ⊢
      rw [Bool.false_and]
      clear hm hm' HIH HDD HSZ HSZ2 HIH2
      go_enter Tryz.func46, Tryz.ntmps46
      go_wp2
      refine wp_region_class (C := fun w' => Below w.heap.size w w') (by kernel_rfl) (by kernel_rfl) (below_drewN (Below.refl _ _) 1) ?_
      refine wpQuiet_step (fun K hK => ?_)
      go_simp
      refine ⟨_, fun _ _ => rfl, hK _ ?_⟩
      clear hK K
      refine wpQuiet_step (fun K hK => ?_)
      go_simp
      refine ⟨_, fun _ _ => rfl, hK _ ?_⟩
      clear hK K
      refine wpQuiet_step (fun K hK => ?_)
      go_simp
      refine ⟨_, fun _ _ => rfl, hK _ ?_⟩
      clear hK K
      refine wpQuiet_step (fun K hK => ?_)
      go_simp
      refine ⟨_, fun _ _ => rfl, hK _ ?_⟩
      clear hK K
      refine wpQuiet_step (fun K hK => ?_)
      go_simp
      refine ⟨_, fun _ _ => rfl, hK _ ?_⟩
      clear hK K
      refine wpQuiet_step (fun K hK => ?_)
      go_simp
      refine ⟨_, fun _ _ => rfl, hK _ ?_⟩
      clear hK K
      refine wpQuiet_step (fun K hK => ?_)
      go_simp
      refine ⟨_, fun _ _ => rfl, hK _ ?_⟩
      clear hK K
      refine wpQuiet_step (fun K hK => ?_)
      rw [if_pos (by rfl)]
      refine ⟨.slice ax nx cx, fun w' hw' => ?_, hK _ ?_⟩
      · have c1 := (hw'.cell (p := ⟨b, o + 1, none⟩) HLT.out).trans HE2.out
        go_simp
      clear hK K
      refine wpQuiet_step (fun K hK => ?_)
      go_simp
      refine ⟨_, fun _ _ => rfl, hK _ ?_⟩
      clear hK K
      refine wpQuiet_step (fun K hK => ?_)
      go_simp
      refine ⟨_, fun _ _ => rfl, hK _ ?_⟩
      clear hK K
      refine wpQuiet_step (fun K hK => ?_)
      rw [if_pos (by rfl)]
      refine ⟨.string nb, fun w' hw' => ?_, hK _ ?_⟩
      · have c1 := (hw'.cell (p := ⟨b2, o2, none⟩) HLT2.out).trans HD2.out
        go_simp
      clear hK K
      refine wpQuiet_step (fun K hK => ?_)
      rw [if_pos (by rfl)]
      refine ⟨.bool false, fun w' hw' => ?_, hK _ ?_⟩
      · go_simp
        refine (HMT.out w' hw').mono ?_
        rintro r wn ⟨rfl, hbn⟩
        exact ⟨rfl, hw'.trans (hbn.mono hw'.size)⟩
      clear hK K
      refine wpQuiet_step (fun K hK => ?_)
      go_simp
      refine ⟨_, fun _ _ => rfl, hK _ ?_⟩
      clear hK K
      refine wpQuiet_step (fun K hK => ?_)
      go_simp
      refine ⟨_, fun _ _ => rfl, hK _ ?_⟩
      clear hK K
      refine wpQuiet_step (fun K hK => ?_)
      go_simp
      refine hK _ ?_
      clear hK K
      refine wpQuiet_step (fun K hK => ?_)
      go_simp
      refine hK _ ?_
      clear hK K
      refine wpQuiet_step (fun K hK => ?_)
      go_simp
      refine hK _ ?_
      clear hK K
      refine wpQuiet_step (fun K hK => ?_)
      go_simp
      refine hK _ ?_
      clear hK K
      refine wpQuiet_step (fun K hK => ?_)
      go_simp
      refine hK _ ?_
      clear hK K
      refine wpQuiet_step (fun K hK => ?_)
      go_simp
      refine hK _ ?_
      clear hK K
      refine wpQuiet_step (fun K hK => ?_)
      go_simp
      refine ⟨_, fun _ _ => rfl, hK _ ?_⟩
      clear hK K
      refine wpQuiet_step (fun K hK => ?_)
      go_simp
      refine ⟨_, fun _ _ => rfl, hK _ ?_⟩
      clear hK K
      refine wpQuiet_nil ?_
      intro w' hw'
      go_wp2
      go_ret
      exact ⟨rfl, hw'⟩
end Go.Proofs.YtfjhjhjdneihbaaGreatDoor
