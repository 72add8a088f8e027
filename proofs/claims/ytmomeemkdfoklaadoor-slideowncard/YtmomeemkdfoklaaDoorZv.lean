/-
  Where what Slide answers lies: a part of a row of the call's own.
-/
import Derived.Test.YtmomeemkdfoklaaDoorZu
namespace Go.Proofs.YtmomeemkdfoklaaDoor
open Go.RowKit Go.Shelf
open Ed (Ch Run Pr)
attribute [local go_sem] Oper.semAt_some

/-- n changes that lie in memory from block B on, with all their room -/
def PtC (w : World) (B : Nat) (v : Value) (n : Nat) : Prop := ∃ ao c, v = .slice ao n c ∧ n ≤ c ∧ (ao = none → c = 0) ∧ (0 < c → ∃ (g o : Nat) (cur : Array Value), ao = some ⟨g, o, none⟩ ∧ B ≤ g ∧ w.heap[g]? = some (.cells cur 42) ∧ o + c * 4 ≤ cur.size)
theorem PtC.far {w w' : World} {B n : Nat} {v : Value} (h : PtC w B v n) (hb : ∀ (g : Nat) (cur : Array Value), w.heap[g]? = some (.cells cur 42) → w'.heap[g]? = w.heap[g]?) : PtC w' B v n := by
  obtain ⟨ao, c, h1, h2, h3, h4⟩ := h
  refine ⟨ao, c, h1, h2, h3, fun hc => ?_⟩
  obtain ⟨g, o, cur, i1, i2, i3, i4⟩ := h4 hc
  exact ⟨g, o, cur, i1, i2, (hb g cur i3).trans i3, i4⟩
theorem own_part {w : World} {B n cap dn : Nat} {A A' : Option Addr} {c' : Nat} {X : List Value} (h : w.ownsRow B 42 4 (.slice A n cap) n X) (hd : dn ≤ n)
    (hA : (c' ≤ cap - dn ∧ A' = A ∧ cap = dn) ∨ (A' = A.map (·.add (dn * 4)) ∧ c' = cap - dn)) : PtC w B (.slice A' (n - dn) c') (n - dn) := by
  have hcap := own_cap h
  rcases hA with ⟨h1, rfl, h2⟩ | ⟨rfl, rfl⟩
  · exact ⟨_, _, rfl, by omega, fun _ => by omega, fun h => by omega⟩
  · refine ⟨_, _, rfl, by omega, fun hn => ?_, fun hc => ?_⟩
    · rcases h.2 with ⟨hv, _⟩ | ⟨g, cap', cur, hv, _⟩
      · cases hv; omega
      · cases hv; simp at hn
    · rcases h.2 with ⟨hv, _⟩ | ⟨g, cap', cur, hv, hg, hh, _, _, hsz, _⟩
      · cases hv; omega
      · cases hv
        refine ⟨g, 0 + dn * 4, cur, ?_, hg, hh, by omega⟩
        show some ((⟨g, 0, none⟩ : Addr).add (dn * 4)) = _
        rw [Go.WideShapes.add_plain]

set_option maxHeartbeats 8000000 in
set_option maxRecDepth 100000 in
theorem slide_place {w : World} {v va vb : Value} {s : List Ch} {a b : List Int} (hr : RdC w v s) (hwf : ∀ c ∈ s, WfC c) (hl : s.length ≤ 10000000000000) (ha : RdI w va a) (hb : RdI w vb b) (hfit : fitN s a b = 0) :
    Calls Tryd.prog 6 #[v, va, vb] w fun e w' => ∃ v', e = .returned (.tuple #[v', .nilIface]) ∧ RdC w' v' (Ed.slideL a b (Ed.normal s a.length b.length)) ∧ Below w.heap.size w w' ∧ PtC w' w.heap.size v' (Ed.slideL a b (Ed.normal s a.length b.length)).length := by
  have HF := hid (fits_all hr hwf hl ha hb)
  rw [hfit, errV_zero] at HF
  obtain ⟨av, cv, rfl⟩ := ha.shape
  obtain ⟨au, cu, rfl⟩ := hb.shape
  obtain ⟨ah, ch, rfl⟩ := hr.shape
  have HR := hid hr
  have HA := hid ha
  have HB := hid hb
  have HWF := hid hwf
  have hval : Ed.validN s a.length b.length = 0 := by
    unfold fitN at hfit
    split at hfit
    · assumption
    · exact absurd hfit (by assumption)
  obtain ⟨l, hlE⟩ : ∃ l, l = Ed.normal s a.length b.length := ⟨_, rfl⟩
  rw [← hlE]
  have HLE := hid hlE
  have hV : Ed.Val s a.length b.length := Ed.validN_zero.1 hval
  have hNV := Ed.normal_Val hV
  rw [← hlE] at hNV
  have hft : Ed.fitsP a b (Ed.prs l a.length 0 0) = true := by
    rw [hNV.2]
    unfold fitN at hfit
    rw [if_pos hval] at hfit
    split at hfit
    · assumption
    · cases hfit
  have ha1 := Ed.cnt_iff.1 hV.1
  have hb1 := Ed.cnt_iff.1 hV.2.1
  have hlen : l.length ≤ 10000000 := by
    have := val_lenC l hNV.1.2.2 (by omega) (by omega)
    omega
  have HVL := hid hNV.1.2.2
  have HFT := hid hft
  have hla : a.length ≤ 4194304 := by omega
  have hlb : b.length ≤ 4194304 := by omega
  clear hV hNV hft ha1 hb1
  clear hr hwf ha hb hlE
  refine (callsIn_wide (n := 4)).1 (callsIn_of_wp_marks Tryd.func6 rfl trivial ?_ rfl)
  simp only [Tryd.ntmps6, List.size_toArray, List.length_cons, List.length_nil, Nat.reduceAdd, Nat.reduceSub, Array.replicate_succ, Array.replicate_zero, List.push_toArray, List.append_toArray, List.nil_append, List.cons_append]
  gi_wp2
  refine ⟨trivial, ?_⟩
  refine (callsIn_wide.2 HF.out).mono ?_
  rintro e w1 ⟨rfl, hb1⟩
  have HB1 := hid hb1
  have hw1 := hb1.size
  have HN := hid (normal_all (n := a.length) (m := b.length) (HR.out.below hb1) HWF.out hl)
  rw [hval, errV_zero] at HN
  have hnrm : nrmA s a.length b.length = Ed.normal s a.length b.length := by unfold nrmA; rw [if_pos hval]
  rw [hnrm] at HN
  rw [← HLE.out] at HN
  clear hb1 HF hnrm
  gi_wp2
  refine ⟨trivial, ?_⟩
  refine (callsIn_wide.2 HN.out).mono ?_
  rintro e w2 ⟨v2, rfl, hO2, hb2⟩
  obtain ⟨A, cap, rfl⟩ := own_shape hO2
  have HO2 := hid hO2
  have HB2 := hid (HB1.out.trans (hb2.mono HB1.out.size))
  clear hO2 hb2 HN HB1
  gi_wp2
  refine ⟨trivial, ?_⟩
  refine (callsIn_wide.2 (newTrack_any _ av a.length cv)).mono ?_
  rintro e w4 ⟨rfl, hT4, hs4, hb4⟩
  have HT4 := hid hT4
  have HB4 := hid hb4
  have HS4 := hid hs4
  clear hT4 hs4 hb4
  gi_wp2
  refine ⟨trivial, ?_⟩
  refine (callsIn_wide.2 (newTrack_any _ au b.length cu)).mono ?_
  rintro e w5 ⟨rfl, hT5, hs5, hb5⟩
  have HT5 := hid hT5
  have HB5 := hid hb5
  have HS5 := hid hs5
  clear hT5 hs5 hb5
  obtain ⟨g, hg⟩ : ∃ g, w2.heap.size = g := ⟨_, rfl⟩
  have s4 : w4.heap.size = g + 3 := by have h := HS4.out; rw [World.size_alloc] at h; omega
  have s5 : w5.heap.size = g + 5 := by have h := HS5.out; omega
  have HT4' : Hid (TrkAt w4 (g + 2) (g + 1) 0 (.slice av a.length cv) fun _ => 0) := hid (by have h := HT4.out; rw [World.size_alloc, hg] at h; exact h)
  have HT5' : Hid (TrkAt w5 (g + 4) (g + 3) 0 (.slice au b.length cu) fun _ => 0) := hid (by have h := HT5.out; rw [s4] at h; exact h)
  have B24 : Below (g + 1) (w2.alloc (Obj.cells #[.slice A l.length cap] 22)) w4 := by have h := HB4.out; rw [World.size_alloc, hg] at h; exact h
  have B45 : Below (g + 3) w4 w5 := by have h := HB5.out; rw [s4] at h; exact h
  have x9 : w5.heap[g]? = some (.cells #[.slice A l.length cap] 22) := (B45.block g (by omega)).trans ((B24.block g (by omega)).trans (by rw [← hg]; exact heap_alloc_new w2 _))
  obtain ⟨P1, hP1⟩ : ∃ P1, P1 = Obj.cells #[.pointer (some ⟨g + 1 + 1, 0, none⟩)] 46 := ⟨_, rfl⟩
  obtain ⟨P2, hP2⟩ : ∃ P2, P2 = Obj.cells #[.pointer (some ⟨g + 3 + 1, 0, none⟩)] 46 := ⟨_, rfl⟩
  have f9 : ((w5.alloc P1).alloc P2).cell? ⟨g, 0, none⟩ = some (.slice A l.length cap) := cell_of_blk ((((Below.refl _ w5).alloc (Nat.le_refl _) _).alloc (by simp) _).block g (by omega) |>.trans x9) 0
  obtain ⟨D0, hD0⟩ : ∃ D0, D0 = Obj.cells #[.int .i64 (l.length : Int)] 3 := ⟨_, rfl⟩
  obtain ⟨X0, hX0⟩ : ∃ X0, X0 = Obj.cells #[.int .i64 (a.length : Int), .int .i64 0, .int .i64 (b.length : Int), .int .i64 0] 42 := ⟨_, rfl⟩
  have f9' : ((((w5.alloc P1).alloc P2).alloc D0).alloc X0).cell? ⟨g, 0, none⟩ = some (.slice A l.length cap) := cell_of_blk ((((((Below.refl _ w5).alloc (Nat.le_refl _) _).alloc (by simp) _).alloc (by simp <;> omega) _).alloc (by simp <;> omega) _).block g (by omega) |>.trans x9) 0
  rw [hP1, hP2] at f9
  rw [hP1, hP2, hD0, hX0] at f9'
  clear HT4 HT5 HB4 HB5 HS4 HS5
  rw [s4, hg]
  gi_wp2
  refine ⟨trivial, ?_⟩
  refine (callsIn_wide.2 (backward_any _ _ _ _)).mono ?_
  rintro e w6 ⟨he, hw6⟩
  rw [← hP1, ← hP2, ← hD0, ← hX0] at he hw6
  rw [show ((((w5.alloc P1).alloc P2).alloc D0).alloc X0).heap.size = g + 9 by simp <;> omega] at he
  subst he
  have b56 : Below w5.heap.size w5 w6 := by rw [hw6]; exact (((((Below.refl _ w5).alloc (Nat.le_refl _) _).alloc (by simp) _).alloc (by simp <;> omega) _).alloc (by simp <;> omega) _).alloc (by simp <;> omega) _
  have s6 : w6.heap.size = g + 10 := by rw [hw6]; simp; omega
  have c11 : w6.heap[g + 5]? = some P1 := by rw [hw6, ← s5]; exact (((((Below.refl _ (w5.alloc P1)).alloc (Nat.le_refl _) P2).alloc (by simp) D0).alloc (by simp <;> omega) X0).alloc (by simp <;> omega) _).block w5.heap.size (by simp) |>.trans (heap_alloc_new w5 P1)
  have c12 : w6.heap[g + 6]? = some P2 := by rw [hw6]; exact ((((Below.refl _ ((w5.alloc P1).alloc P2)).alloc (Nat.le_refl _) D0).alloc (by simp) X0).alloc (by simp <;> omega) _).block (g + 6) (by simp <;> omega) |>.trans (by have h := heap_alloc_new (w5.alloc P1) P2; rw [World.size_alloc, s5] at h; exact h)
  have c13 : w6.heap[g + 7]? = some D0 := by rw [hw6]; exact (((Below.refl _ (((w5.alloc P1).alloc P2).alloc D0)).alloc (Nat.le_refl _) X0).alloc (by simp) _).block (g + 7) (by simp <;> omega) |>.trans (by have h := heap_alloc_new ((w5.alloc P1).alloc P2) D0; rw [World.size_alloc, World.size_alloc, s5] at h; exact h)
  have c14 : w6.heap[g + 8]? = some X0 := by rw [hw6]; exact ((Below.refl _ ((((w5.alloc P1).alloc P2).alloc D0).alloc X0)).alloc (Nat.le_refl _) _).block (g + 8) (by simp <;> omega) |>.trans (by have h := heap_alloc_new (((w5.alloc P1).alloc P2).alloc D0) X0; rw [World.size_alloc, World.size_alloc, World.size_alloc, s5] at h; exact h)
  have cbs : w6.heap[g + 9]? = some (.cells #[.slice A l.length cap] 22) := by rw [hw6]; have h := heap_alloc_new ((((w5.alloc P1).alloc P2).alloc D0).alloc X0) (.cells #[.slice A l.length cap] 22); rw [World.size_alloc, World.size_alloc, World.size_alloc, World.size_alloc, s5] at h; exact h
  have b26 : Below w2.heap.size w2 w6 := (((Below.refl _ w2).alloc (Nat.le_refl _) _).trans (B24.mono (by omega))).trans ((B45.mono (by omega)).trans (b56.mono (by omega)))
  have HB6 : Hid (Below w.heap.size w w6) := hid (HB2.out.trans (b26.mono HB2.out.size))
  have hrow : w6.ownsRow w.heap.size 42 4 (.slice A l.length cap) l.length (csC (Ed.rowX l [])) := by
    rw [Ed.rowX_nil]
    exact own_mono (own_stays HO2.out b26) hw1
  obtain ⟨gb, hgb0, hgb1, hgb2⟩ : ∃ gb, w.heap.size ≤ gb ∧ (gb < g ∨ w6.heap.size ≤ gb) ∧ (0 < l.length → A = some ⟨gb, 0, none⟩) := by
    rcases Nat.eq_zero_or_pos l.length with e0 | e0
    · exact ⟨w6.heap.size, HB6.out.size, .inr (Nat.le_refl _), fun h => by omega⟩
    · obtain ⟨gg, rfl⟩ := own_some HO2.out e0
      rcases HO2.out.2 with ⟨hv, _⟩ | ⟨g', cap', cur, hv, hg', hh, _⟩
      · cases hv
      · cases hv
        exact ⟨gg, by omega, .inl (by have := lt_of_heap hh; omega), fun _ => rfl⟩
  have HI0 : Hid (SlI w6 w6 a b l (.slice av a.length cv) (.slice au b.length cu) w.heap.size A gb cap g (g + 1) (g + 2) (g + 3) (g + 4) (g + 5) (g + 6) (g + 7) (g + 8) (g + 9) 0 []) := hid ⟨hrow, (b56.block g (by omega)).trans x9, by rw [c11, hP1], by rw [c12, hP2], by rw [c13, hD0]; rfl, by rw [c14, hX0]; rfl, cbs, by
      refine ⟨fun _ => 0, fun _ => 0, 0, 0, Nat.le_refl _, Nat.le_refl _, ?_, ?_, fun _ h => (Int.lt_irrefl _ h).elim, fun _ h => (Int.lt_irrefl _ h).elim⟩
      · exact HT4'.out.far ((b56.block _ (by omega)).trans (B45.block _ (by omega))) ((b56.block _ (by omega)).trans (B45.block _ (by omega)))
      · exact HT5'.out.far (b56.block _ (by omega)) (b56.block _ (by omega)), Kept.refl _ _⟩
  have HOB : Hid (∀ j, (Value.slice A l.length cap).ownBlock = some j → j < g) := hid (fun j e => by
    rcases HO2.out.2 with ⟨hv, _⟩ | ⟨g', cap', cur, hv, hg', hh, _⟩
    · rw [hv] at e; cases e
    · rw [hv] at e; cases e; have := lt_of_heap hh; show g' < g; omega)
  have HLY : Hid (Lay w w6 gb g (g + 1) (g + 2) (g + 3) (g + 4) (g + 5) (g + 6) (g + 7) (g + 8) (g + 9)) := hid ⟨hgb0, hgb1, by omega, by omega, by omega, by omega, by omega, by omega, by omega, by omega, by omega, by omega⟩
  have HGB := hid hgb2
  have HWG : Hid (w.heap.size ≤ g) := hid (by rw [← hg]; exact HB2.out.size)
  clear f9 f9' x9 b56 c11 c12 c13 c14 cbs b26 hrow hgb0 hgb1 hgb2 hP1 hP2 hD0 hX0 hw6 B24 B45 HT4' HT5' HB2 HO2 hg s4 s5 hw1
  gi_wp2
  refine range_plain (n := 4) (gf := 37) (lb := #[.pointer (some ⟨g + 9, 0, none⟩)]) rfl (enters_of Tryd.func37 (by kernel_rfl) rfl) l.length (bEnc l)
    (fun k W => k ≤ l.length ∧ SlI w6 W a b l (.slice av a.length cv) (.slice au b.length cu) w.heap.size A gb cap g (g + 1) (g + 2) (g + 3) (g + 4) (g + 5) (g + 6) (g + 7) (g + 8) (g + 9) k (Ed.slideL a b (l.drop (l.length - k))))
    (fun k a' W => ∃ Bx, w6.heap.size ≤ Bx ∧ W.heap[Bx]? = some (chC (l.getD (l.length - 1 - k) zCh)) ∧ a' = { tmps := #[.slice ah s.length ch, .slice av a.length cv, .slice au b.length cu, undef, undef, undef, .slice none 0 0, .nilIface, .nilIface, .pointer (some ⟨g, 0, none⟩), .nilIface, .pointer (some ⟨g + 5, 0, none⟩), .pointer (some ⟨g + 5 + 1, 0, none⟩), .pointer (some ⟨g + 5 + 1 + 1, 0, none⟩), .pointer (some ⟨g + 5 + 1 + 1 + 1, 0, none⟩), undef, .pointer (some ⟨Bx, 0, none⟩), .slice ah s.length ch, .slice av a.length cv, .slice au b.length cu, .nilIface, .nilIface, .bool false, undef, .tuple #[.slice A l.length cap, .nilIface], .slice ah s.length ch, .slice av a.length cv, .int .i64 (a.length : Int), .slice au b.length cu, .int .i64 (b.length : Int), .tuple #[.slice A l.length cap, .nilIface], .slice A l.length cap, .nilIface, .nilIface, .bool false, undef, .slice av a.length cv, .pointer (some ⟨g + 1 + 1, 0, none⟩), .slice au b.length cu, .pointer (some ⟨g + 3 + 1, 0, none⟩), .slice A l.length cap, .int .i64 (l.length : Int), .slice av a.length cv, .int .i64 (a.length : Int), .slice au b.length cu, .int .i64 (b.length : Int), .agg #[.int .i64 (a.length : Int), .int .i64 0, .int .i64 (b.length : Int), .int .i64 0], .slice A l.length cap, .func (.func 37) #[] #[.pointer (some ⟨g + 9, 0, none⟩)], .int .i64 ((l.length - 1 - k : Nat) : Int), chV (l.getD (l.length - 1 - k) zCh), undef, undef, undef, undef, undef, undef, undef, undef, undef, undef, undef, undef, undef, undef, undef, undef, undef, undef, undef, undef, undef, undef, undef, undef, undef, undef, undef, undef, undef, undef, undef, undef, undef, undef, undef, undef, undef, undef, undef, undef, undef], defers := [] })
    ⟨?low, ?box, ?fits, ?assign, ?body⟩ ?start ?seq ?done
  case low =>
    rintro k W W' ⟨hk, hS⟩ hb
    exact ⟨hk, hS.low HLY.out HOB.out hb⟩
  case box =>
    rintro k a' W L o o' ⟨Bx, h1, h2, h3⟩ hL ho
    refine ⟨Bx, h1, (World.putObj_heap_other (fun e => ?_)).trans h2, h3⟩
    subst e
    rw [h2] at hL
    cases hL
    cases ho
  case fits => intro k; rfl
  case assign =>
    intro L k W K hI hlt hK
    unfold bEnc
    gi_wp2
    exact hK _ _ ((KeepsOthers.alloc _ _).from _) ⟨hI.1, hI.2.low HLY.out HOB.out ((Below.refl _ _).alloc hI.2.kept.size _)⟩ ⟨W.heap.size, hI.2.kept.size, heap_alloc_new W _, rfl⟩
  case body =>
    rintro L k a' W hBL ⟨hk, hS⟩ ⟨Bx, hBx, hbx, rfl⟩ hlt
    obtain ⟨i, hi⟩ : ∃ i, i = l.length - 1 - k := ⟨_, rfl⟩
    rw [show l.length - k = i + 1 by omega] at hS
    rw [← hi] at hbx
    rw [show l.length - (k + 1) = i by omega]
    obtain ⟨c, hc⟩ : ∃ c, l[i]? = some c := ⟨_, List.getElem?_eq_getElem (by omega)⟩
    have hgd : l.getD i zCh = c := by rw [List.getD_eq_getElem?_getD, hc]; rfl
    rw [hgd] at hbx
    have hok := Ed.rd_ok HVL.out HFT.out hc
    have HST := hid (Ed.slide_step (a := a) (b := b) hc)
    have hol := Ed.slide_len a b (l.drop (i + 1))
    rw [List.length_drop] at hol
    rw [← hi, hgd]
    obtain ⟨out, hout⟩ : ∃ out, out = Ed.slideL a b (l.drop (i + 1)) := ⟨_, rfl⟩
    rw [← hout] at hS hok HST hol
    have hA := HGB.out (by omega)
    subst hA
    rcases c with ⟨cA, cN, cB, cM⟩
    obtain ⟨o1, o2, o3, o4, o5, o6, o7, o8, o9, o10, o11, o12⟩ := hok
    have c14 := hS.c14
    have two := hS.two
    obtain ⟨N0, hN0⟩ : ∃ N0, N0 = Ed.nx a b out := ⟨_, rfl⟩
    rw [← hN0] at o5 o6 o7 o9 o10 o11 o12 c14 two HST
    rcases N0 with ⟨nA, nN, nB, nM⟩
    simp only at o1 o2 o3 o4 o5 o6 o7 o8 o9 o10 o11 o12 two
    obtain ⟨xA, rfl⟩ : ∃ x : Nat, cA = (x : Int) := ⟨cA.toNat, by omega⟩
    obtain ⟨xN, rfl⟩ : ∃ x : Nat, cN = (x : Int) := ⟨cN.toNat, by omega⟩
    obtain ⟨xB, rfl⟩ : ∃ x : Nat, cB = (x : Int) := ⟨cB.toNat, by omega⟩
    obtain ⟨xM, rfl⟩ : ∃ x : Nat, cM = (x : Int) := ⟨cM.toNat, by omega⟩
    obtain ⟨yA, rfl⟩ : ∃ x : Nat, nA = (x : Int) := ⟨nA.toNat, by omega⟩
    obtain ⟨yB, rfl⟩ : ∃ x : Nat, nB = (x : Int) := ⟨nB.toNat, by omega⟩
    rw [Int.toNat_natCast, Int.toNat_natCast] at two
    have hBW : Below w.heap.size w W := HB6.out.trans (hS.kept.below (fun j e => by have := HWG.out; have := HLY.out.h0; rcases e with e | e | e | e | e <;> omega) HB6.out.size)
    have HSL := hid (slid_any (cA := xA) (cN := xN) (cB := xB) (cM := xM) (nN := nN) (nM := nM) HA.out HB.out hla hlb hBW (by have := HWG.out; omega) (by have := HWG.out; omega) (by omega) (by omega) (by omega) (by omega) (by omega) two (by omega) (by omega) (by omega) (by omega) (by omega) (by omega) (by omega))
    have q0 : W.cell? ⟨Bx, 0, none⟩ = some (.int .i64 xA) := cell_of_blk hbx 0
    have q1 : W.cell? ⟨Bx, 1, none⟩ = some (.int .i64 xN) := cell_of_blk hbx 1
    have q2 : W.cell? ⟨Bx, 2, none⟩ = some (.int .i64 xB) := cell_of_blk hbx 2
    have q3 : W.cell? ⟨Bx, 3, none⟩ = some (.int .i64 xM) := cell_of_blk hbx 3
    have r0 : W.cell? ⟨g + 5 + 1 + 1 + 1, 0, none⟩ = some (.int .i64 yA) := cell_of_blk c14 0
    have r1 : W.cell? ⟨g + 5 + 1 + 1 + 1, 1, none⟩ = some (.int .i64 nN) := cell_of_blk c14 1
    have r2 : W.cell? ⟨g + 5 + 1 + 1 + 1, 2, none⟩ = some (.int .i64 yB) := cell_of_blk c14 2
    have r3 : W.cell? ⟨g + 5 + 1 + 1 + 1, 3, none⟩ = some (.int .i64 nM) := cell_of_blk c14 3
    have t11 : W.cell? ⟨g + 5, 0, none⟩ = some (.pointer (some ⟨g + 2, 0, none⟩)) := cell_of_blk hS.c11 0
    have t12 : W.cell? ⟨g + 5 + 1, 0, none⟩ = some (.pointer (some ⟨g + 4, 0, none⟩)) := cell_of_blk hS.c12 0
    have HS := hid hS
    have HBXB := hid hbx
    have HC14 := hid c14
    have HN0 := hid hN0
    clear hS hbx c14 hN0 hc hgd hout two hBW hi
    have hBl := lt_of_heap HBXB.out
    have hW6 := HS.out.kept.size
    gi_wp2
    refine ⟨trivial, ?_⟩
    refine (CallsIn.inRound L (callsIn_wide.2 HSL.out)).mono ?_
    rintro e W3 ⟨K, hK1, hK2, hK3, rfl, hT3, hKp3⟩
    have x16 : W3.heap[Bx]? = _ := (hKp3.block Bx hBl (by omega)).trans HBXB.out
    have x14 : W3.heap[g + 5 + 1 + 1 + 1]? = _ := (hKp3.block (g + 5 + 1 + 1 + 1) (by omega) (by omega)).trans HC14.out
    have x13 : W3.heap[g + 5 + 1 + 1]? = _ := (hKp3.block (g + 5 + 1 + 1) (by omega) (by omega)).trans HS.out.c13
    have x9 : W3.heap[g]? = _ := (hKp3.block g (by omega) (by omega)).trans HS.out.c9
    obtain ⟨dn, hdn⟩ : ∃ dn, dn = l.length - out.length := ⟨_, rfl⟩
    rw [← hdn] at x13
    obtain ⟨nl, hnl⟩ : ∃ nl, nl = l.length := ⟨_, rfl⟩
    rw [← hnl] at x9
    have q0 : W3.cell? ⟨Bx, 0, none⟩ = some (.int .i64 xA) := cell_of_blk x16 0
    have q1 : W3.cell? ⟨Bx, 1, none⟩ = some (.int .i64 xN) := cell_of_blk x16 1
    have q2 : W3.cell? ⟨Bx, 2, none⟩ = some (.int .i64 xB) := cell_of_blk x16 2
    have q3 : W3.cell? ⟨Bx, 3, none⟩ = some (.int .i64 xM) := cell_of_blk x16 3
    have qf := fun o => frozen_of_blk x16 o
    have r0 : W3.cell? ⟨g + 5 + 1 + 1 + 1, 0, none⟩ = some (.int .i64 yA) := cell_of_blk x14 0
    have r1 : W3.cell? ⟨g + 5 + 1 + 1 + 1, 1, none⟩ = some (.int .i64 nN) := cell_of_blk x14 1
    have r2 : W3.cell? ⟨g + 5 + 1 + 1 + 1, 2, none⟩ = some (.int .i64 yB) := cell_of_blk x14 2
    have r3 : W3.cell? ⟨g + 5 + 1 + 1 + 1, 3, none⟩ = some (.int .i64 nM) := cell_of_blk x14 3
    have rf := fun o => frozen_of_blk x14 o
    have d0 : W3.cell? ⟨g + 5 + 1 + 1, 0, none⟩ = some (.int .i64 dn) := cell_of_blk x13 0
    have df := fun o => frozen_of_blk x13 o
    have s9 : W3.cell? ⟨g, 0, none⟩ = some (.slice (some ⟨gb, 0, none⟩) nl cap) := cell_of_blk x9 0
    have n1 : Bx ≠ g + 5 + 1 + 1 + 1 := by omega
    have n2 : Bx ≠ g + 5 + 1 + 1 := by omega
    have n3 : Bx ≠ g := by omega
    have n4 : gb ≠ Bx ∧ gb ≠ g + 5 + 1 + 1 + 1 ∧ gb ≠ g + 5 + 1 + 1 ∧ gb ≠ g := by have := HOB.out gb rfl; omega
    obtain ⟨n41, n42, n43, n44⟩ := n4
    have hrow3 : W3.ownsRow w.heap.size 42 4 (.slice (some ⟨gb, 0, none⟩) l.length cap) l.length (csC (Ed.rowX l out)) := own_same HS.out.row (fun j e => by cases e; have := HOB.out gb rfl; exact hKp3.block gb (by omega) (by omega))
    have hrx : (Ed.rowX l out).length = l.length := Ed.rowX_len (by omega)
    have rowf := fun o => own_frozen2 hrow3 o
    have HX := hid hrow3
    have HT3 := hid hT3
    have HKP3 := hid hKp3
    have HX16 := hid x16
    have HX14 := hid x14
    have HX13 := hid x13
    have HX9 := hid x9
    have HDN := hid hdn
    have HNL := hid hnl
    have HK1 := hid hK1
    clear HSL x16 x14 x13 x9 hT3 hKp3 hrow3 hK1 t11 t12 hdn hnl
    have w1' : IntKind.i64.wrap ((xA : Int) + (K : Int)) = (xA : Int) + (K : Int) := wrapOk (by omega) (by omega)
    have w2' : IntKind.i64.wrap ((xA : Int) + (K : Int) + (xN : Int)) = (xA : Int) + (K : Int) + (xN : Int) := wrapOk (by omega) (by omega)
    have w3' : IntKind.i64.wrap ((xN : Int) + nN) = (xN : Int) + nN := wrapOk (by omega) (by omega)
    have w4' : IntKind.i64.wrap ((xM : Int) + nM) = (xM : Int) + nM := wrapOk (by omega) (by omega)
    have w5' : IntKind.i64.wrap ((dn : Int) - 1) = (dn : Int) - 1 := wrapOk (by omega) (by have := HDN.out; omega)
    unfold Ed.mv
    dsimp only
    cases out with
    | nil =>
      have e1 : decide ((dn : Int) < (nl : Int)) = false := decide_eq_false (by have h1 := HDN.out; have := HNL.out; rw [List.length_nil] at h1; omega)
      have e2 : decide (dn < nl) = false := decide_eq_false (by have h1 := HDN.out; have := HNL.out; rw [List.length_nil] at h1; omega)
      obtain ⟨de, hde⟩ : ∃ de, de = dn - 1 := ⟨_, rfl⟩
      have hdn1 : 0 < dn := by have h1 := HDN.out; rw [List.length_nil] at h1; omega
      have w5'' : IntKind.i64.wrap ((dn : Int) - 1) = (de : Int) := (wrapOk (by omega) (by have := HDN.out; omega)).trans (by omega)
      have HDE := hid hde
      clear w5' hde
      gi_wp2
      obtain ⟨W4, hW4⟩ : ∃ W4, W4 = ((((W3.setCell ⟨Bx, 0, none⟩ (.int .i64 ((xA : Int) + (K : Int)))).setCell ⟨Bx, 1, none⟩ (.int .i64 (xN : Int))).setCell ⟨Bx, 2, none⟩ (.int .i64 ((xB : Int) + (K : Int)))).setCell ⟨Bx, 3, none⟩ (.int .i64 (xM : Int))).setCell ⟨g + 5 + 1 + 1, 0, none⟩ (.int .i64 (de : Int)) := ⟨_, rfl⟩
      rw [← hW4]
      obtain ⟨E, hE⟩ : ∃ E : Ch, E = ⟨(xA : Int) + (K : Int), xN, (xB : Int) + (K : Int), xM⟩ := ⟨_, rfl⟩
      have hW4' : W4 = (set4 W3 Bx 0 E).setCell ⟨g + 5 + 1 + 1, 0, none⟩ (.int .i64 (de : Int)) := by rw [hW4, hE]; rfl
      have k34 : Kept (fun j => j = Bx ∨ j = g + 7) W3 W4 := by rw [hW4']; exact (set4_kept (.inl rfl) (Kept.refl _ _)).set (.inr rfl) _
      have y16 : W4.heap[Bx]? = some (chC E) := by rw [hW4']; exact (set_other _ n2).trans (set4_heap HX16.out)
      have y13 : W4.heap[g + 5 + 1 + 1]? = some (.cells #[.int .i64 (de : Int)] 3) := by rw [hW4']; exact set_heap _ _ 0 _ _ _ ((set4_other (fun e => n2 e.symm)).trans HX13.out)
      have z3 := HKP3.out.size
      have y14 : W4.heap[g + 5 + 1 + 1 + 1]? = _ := (k34.block (g + 5 + 1 + 1 + 1) (by omega) (by omega)).trans HX14.out
      have y9 : W4.heap[g]? = _ := (k34.block g (by omega) (by omega)).trans HX9.out
      have hgbl : gb < g := HOB.out gb rfl
      have yrow : W4.ownsRow w.heap.size 42 4 (.slice (some ⟨gb, 0, none⟩) l.length cap) l.length (csC (Ed.rowX l [])) := own_same HX.out (fun j e => by cases e; exact k34.block gb (by omega) (by omega))
      have v0 : W4.cell? ⟨Bx, 0, none⟩ = some (.int .i64 E.a) := cell_of_blk y16 0
      have v1 : W4.cell? ⟨Bx, 1, none⟩ = some (.int .i64 E.n) := cell_of_blk y16 1
      have v2 : W4.cell? ⟨Bx, 2, none⟩ = some (.int .i64 E.b) := cell_of_blk y16 2
      have v3 : W4.cell? ⟨Bx, 3, none⟩ = some (.int .i64 E.m) := cell_of_blk y16 3
      have u0 : W4.cell? ⟨g + 5 + 1 + 1 + 1, 0, none⟩ = some (.int .i64 yA) := cell_of_blk y14 0
      have u1 : W4.cell? ⟨g + 5 + 1 + 1 + 1, 1, none⟩ = some (.int .i64 nN) := cell_of_blk y14 1
      have u2 : W4.cell? ⟨g + 5 + 1 + 1 + 1, 2, none⟩ = some (.int .i64 yB) := cell_of_blk y14 2
      have u3 : W4.cell? ⟨g + 5 + 1 + 1 + 1, 3, none⟩ = some (.int .i64 nM) := cell_of_blk y14 3
      have uf := fun o => frozen_of_blk y14 o
      have x13 : W4.cell? ⟨g + 5 + 1 + 1, 0, none⟩ = some (.int .i64 de) := cell_of_blk y13 0
      have x9 : W4.cell? ⟨g, 0, none⟩ = some (.slice (some ⟨gb, 0, none⟩) nl cap) := cell_of_blk y9 0
      have rwf := fun o => own_frozen2 yrow o
      have hdl : de < l.length := by have := HDE.out; have := HDN.out; omega
      obtain ⟨zz, hzz⟩ : ∃ zz, (Ed.rowX l [])[de]? = some zz := ⟨_, List.getElem?_eq_getElem (by rw [hrx]; exact hdl)⟩
      obtain ⟨b', o', e', _, m0, m1, m2, m3⟩ := rdC_at (w := W4) (a := some ⟨gb, 0, none⟩) (n := l.length) (c := cap) (k := de) (x := zz) (by have h := own_rd yrow; show RdX _ _ _ _; rw [hrx]; exact h) hzz
      cases e'
      rw [Nat.zero_add] at m0 m1 m2 m3
      have j1 : (0 : Int) ≤ (de : Int) := by omega
      have j2 : (de : Int) < (nl : Int) := by have := HNL.out; omega
      have hmo : Tryd.prog.follows .mixedOrders = true := by kernel_rfl
      have HK34 := hid k34
      have HY13 := hid y13
      have HY14 := hid y14
      have HYR := hid yrow
      have kA : Kept (fun j => j = gb ∨ j = g + 8) W4 (set4 (set4 W4 gb de E) (g + 8) 0 E).drew := (set4_kept (.inr rfl) (set4_kept (.inl rfl) (Kept.refl _ _))).drew
      have kB : Kept (fun j => j = gb ∨ j = g + 8) W4 (set4 (set4 W4 (g + 8) 0 E) gb de E).drew := (set4_kept (.inl rfl) (set4_kept (.inr rfl) (Kept.refl _ _))).drew
      have fA14 : (set4 (set4 W4 gb de E) (g + 8) 0 E).drew.heap[g + 8]? = some (chC E) := (drew_heap _ _).trans (set4_heap ((set4_other (by omega)).trans y14))
      have fB14 : (set4 (set4 W4 (g + 8) 0 E) gb de E).drew.heap[g + 8]? = some (chC E) := (drew_heap _ _).trans ((set4_other (by omega)).trans (set4_heap y14))
      have rA : (set4 (set4 W4 gb de E) (g + 8) 0 E).drew.ownsRow w.heap.size 42 4 (.slice (some ⟨gb, 0, none⟩) l.length cap) l.length (csC ((Ed.rowX l []).set de E)) := own_same (own_same (own_setC yrow E (by rw [hrx]; exact hdl)) (w' := set4 (set4 W4 gb de E) (g + 8) 0 E) (fun j e => by cases e; exact set4_other (by omega))) (fun j _ => drew_heap _ _)
      have rB : (set4 (set4 W4 (g + 8) 0 E) gb de E).drew.ownsRow w.heap.size 42 4 (.slice (some ⟨gb, 0, none⟩) l.length cap) l.length (csC ((Ed.rowX l []).set de E)) := own_same (own_setC (own_same yrow (w' := set4 W4 (g + 8) 0 E) (fun j e => by cases e; exact set4_other (by omega))) E (by rw [hrx]; exact hdl)) (fun j _ => drew_heap _ _)
      have hout' : Ed.slideL a b (l.drop i) = E :: [] := by
        have h := HST.out
        try dsimp only at h
        rw [HK1.out] at h
        rw [h, hE]
        rfl
      have hset : (Ed.rowX l []).set de E = Ed.rowX l (E :: []) := by
        have h1 := HDE.out
        have h2 := HDN.out
        rw [show de = l.length - ([] : List Ch).length - 1 by rw [List.length_nil] at h2 ⊢; omega]; exact Ed.rowX_more (by simp; omega)
      rw [hset] at rA rB
      have hx13 : W4.heap[g + 7]? = some (.cells #[.int .i64 ((l.length - (E :: []).length : Nat) : Int)] 3) := by
        have h1 := HDE.out
        have h2 := HDN.out
        rw [show l.length - (E :: []).length = de by (rw [List.length_nil] at h2; simp; omega)]
        exact y13
      have FA := hid (HS.out.next HLY.out hgbl HKP3.out HT3.out k34 hBx hx13 kA fA14 rA (by rw [hE]; rfl) (by rw [hE]; rfl))
      have FB := hid (HS.out.next HLY.out hgbl HKP3.out HT3.out k34 hBx hx13 kB fB14 rB (by rw [hE]; rfl) (by rw [hE]; rfl))
      rw [← hout'] at FA FB
      have GA := hid (keeps_next (B := w6.heap.size) HKP3.out k34 kA (by omega) (by omega) (by omega) (by omega) (by omega) HBXB.out rfl)
      have GB := hid (keeps_next (B := w6.heap.size) HKP3.out k34 kB (by omega) (by omega) (by omega) (by omega) (by omega) HBXB.out rfl)
      obtain ⟨eA, eN, eB, eM⟩ := E
      have HE := hid hE
      clear kA kB fA14 fB14 rA rB hout' hset hx13 hE
      clear q0 q1 q2 q3 qf r0 r1 r2 r3 rf d0 df s9 k34 y16 y13 y14 y9 yrow hW4 hW4' hzz rowf e1 e2
      gi_region
      all_goals first
        | exact ⟨rfl, GA.out, hlt, FA.out⟩
        | exact ⟨rfl, GB.out, hlt, FB.out⟩
    | cons d t =>
      have hd : d = ⟨yA, nN, yB, nM⟩ := HN0.out.symm
      have e1 : decide ((dn : Int) < (nl : Int)) = true := decide_eq_true (by have h1 := HDN.out; have := HNL.out; rw [List.length_cons] at h1; omega)
      have e2 : decide (dn < nl) = true := decide_eq_true (by have h1 := HDN.out; have := HNL.out; rw [List.length_cons] at h1; omega)
      have e3 : dn < nl := by have h1 := HDN.out; have := HNL.out; rw [List.length_cons] at h1; omega
      by_cases hm : xA + K + xN = yA
      · have z1 : (((xA : Int) + (K : Int) + (xN : Int)) == (yA : Int)) = true := by rw [beq_iff_eq]; omega
        obtain ⟨de, hde⟩ : ∃ de, de = dn := ⟨_, rfl⟩
        have HDE := hid hde
        clear w5' hde
        gi_wp2
        obtain ⟨W4, hW4⟩ : ∃ W4, W4 = (((((W3.setCell ⟨Bx, 0, none⟩ (.int .i64 ((xA : Int) + (K : Int)))).setCell ⟨Bx, 1, none⟩ (.int .i64 (xN : Int))).setCell ⟨Bx, 2, none⟩ (.int .i64 ((xB : Int) + (K : Int)))).setCell ⟨Bx, 3, none⟩ (.int .i64 (xM : Int))).setCell ⟨Bx, 1, none⟩ (.int .i64 ((xN : Int) + nN))).setCell ⟨Bx, 3, none⟩ (.int .i64 ((xM : Int) + nM)) := ⟨_, rfl⟩
        rw [← hW4]
        obtain ⟨E, hE⟩ : ∃ E : Ch, E = ⟨(xA : Int) + (K : Int), (xN : Int) + nN, (xB : Int) + (K : Int), (xM : Int) + nM⟩ := ⟨_, rfl⟩
        have hW4' : W4 = ((set4 W3 Bx 0 ⟨(xA : Int) + (K : Int), xN, (xB : Int) + (K : Int), xM⟩).setCell ⟨Bx, 1, none⟩ (.int .i64 ((xN : Int) + nN))).setCell ⟨Bx, 3, none⟩ (.int .i64 ((xM : Int) + nM)) := by rw [hW4]; rfl
        have k34 : Kept (fun j => j = Bx ∨ j = g + 7) W3 W4 := by rw [hW4']; exact ((set4_kept (.inl rfl) (Kept.refl _ _)).set (.inl rfl) _).set (.inl rfl) _
        have y16 : W4.heap[Bx]? = some (chC E) := by rw [hW4', hE]; exact set_heap _ Bx 3 _ _ _ (set_heap _ Bx 1 _ _ _ (set4_heap HX16.out))
        have y13 : W4.heap[g + 5 + 1 + 1]? = some (.cells #[.int .i64 (de : Int)] 3) := by rw [hW4', HDE.out]; exact (set_other _ (fun e => n2 e.symm)).trans ((set_other _ (fun e => n2 e.symm)).trans ((set4_other (fun e => n2 e.symm)).trans HX13.out))
        have z3 := HKP3.out.size
        have y14 : W4.heap[g + 5 + 1 + 1 + 1]? = _ := (k34.block (g + 5 + 1 + 1 + 1) (by omega) (by omega)).trans HX14.out
        have y9 : W4.heap[g]? = _ := (k34.block g (by omega) (by omega)).trans HX9.out
        have hgbl : gb < g := HOB.out gb rfl
        have yrow : W4.ownsRow w.heap.size 42 4 (.slice (some ⟨gb, 0, none⟩) l.length cap) l.length (csC (Ed.rowX l (d :: t))) := own_same HX.out (fun j e => by cases e; exact k34.block gb (by omega) (by omega))
        have v0 : W4.cell? ⟨Bx, 0, none⟩ = some (.int .i64 E.a) := cell_of_blk y16 0
        have v1 : W4.cell? ⟨Bx, 1, none⟩ = some (.int .i64 E.n) := cell_of_blk y16 1
        have v2 : W4.cell? ⟨Bx, 2, none⟩ = some (.int .i64 E.b) := cell_of_blk y16 2
        have v3 : W4.cell? ⟨Bx, 3, none⟩ = some (.int .i64 E.m) := cell_of_blk y16 3
        have u0 : W4.cell? ⟨g + 5 + 1 + 1 + 1, 0, none⟩ = some (.int .i64 yA) := cell_of_blk y14 0
        have u1 : W4.cell? ⟨g + 5 + 1 + 1 + 1, 1, none⟩ = some (.int .i64 nN) := cell_of_blk y14 1
        have u2 : W4.cell? ⟨g + 5 + 1 + 1 + 1, 2, none⟩ = some (.int .i64 yB) := cell_of_blk y14 2
        have u3 : W4.cell? ⟨g + 5 + 1 + 1 + 1, 3, none⟩ = some (.int .i64 nM) := cell_of_blk y14 3
        have uf := fun o => frozen_of_blk y14 o
        have x13 : W4.cell? ⟨g + 5 + 1 + 1, 0, none⟩ = some (.int .i64 de) := cell_of_blk y13 0
        have x9 : W4.cell? ⟨g, 0, none⟩ = some (.slice (some ⟨gb, 0, none⟩) nl cap) := cell_of_blk y9 0
        have rwf := fun o => own_frozen2 yrow o
        have hdl : de < l.length := by have h1 := HDE.out; have h2 := HDN.out; rw [List.length_cons] at h2; omega
        obtain ⟨zz, hzz⟩ : ∃ zz, (Ed.rowX l (d :: t))[de]? = some zz := ⟨_, List.getElem?_eq_getElem (by rw [hrx]; exact hdl)⟩
        obtain ⟨b', o', e', _, m0, m1, m2, m3⟩ := rdC_at (w := W4) (a := some ⟨gb, 0, none⟩) (n := l.length) (c := cap) (k := de) (x := zz) (by have h := own_rd yrow; show RdX _ _ _ _; rw [hrx]; exact h) hzz
        cases e'
        rw [Nat.zero_add] at m0 m1 m2 m3
        have j1 : (0 : Int) ≤ (de : Int) := by omega
        have j2 : (de : Int) < (nl : Int) := by have := HNL.out; omega
        have hmo : Tryd.prog.follows .mixedOrders = true := by kernel_rfl
        have HK34 := hid k34
        have HY13 := hid y13
        have HY14 := hid y14
        have HYR := hid yrow
        have kA : Kept (fun j => j = gb ∨ j = g + 8) W4 (set4 (set4 W4 gb de E) (g + 8) 0 E).drew := (set4_kept (.inr rfl) (set4_kept (.inl rfl) (Kept.refl _ _))).drew
        have kB : Kept (fun j => j = gb ∨ j = g + 8) W4 (set4 (set4 W4 (g + 8) 0 E) gb de E).drew := (set4_kept (.inl rfl) (set4_kept (.inr rfl) (Kept.refl _ _))).drew
        have fA14 : (set4 (set4 W4 gb de E) (g + 8) 0 E).drew.heap[g + 8]? = some (chC E) := (drew_heap _ _).trans (set4_heap ((set4_other (by omega)).trans y14))
        have fB14 : (set4 (set4 W4 (g + 8) 0 E) gb de E).drew.heap[g + 8]? = some (chC E) := (drew_heap _ _).trans ((set4_other (by omega)).trans (set4_heap y14))
        have rA : (set4 (set4 W4 gb de E) (g + 8) 0 E).drew.ownsRow w.heap.size 42 4 (.slice (some ⟨gb, 0, none⟩) l.length cap) l.length (csC ((Ed.rowX l (d :: t)).set de E)) := own_same (own_same (own_setC yrow E (by rw [hrx]; exact hdl)) (w' := set4 (set4 W4 gb de E) (g + 8) 0 E) (fun j e => by cases e; exact set4_other (by omega))) (fun j _ => drew_heap _ _)
        have rB : (set4 (set4 W4 (g + 8) 0 E) gb de E).drew.ownsRow w.heap.size 42 4 (.slice (some ⟨gb, 0, none⟩) l.length cap) l.length (csC ((Ed.rowX l (d :: t)).set de E)) := own_same (own_setC (own_same yrow (w' := set4 W4 (g + 8) 0 E) (fun j e => by cases e; exact set4_other (by omega))) E (by rw [hrx]; exact hdl)) (fun j _ => drew_heap _ _)
        have hout' : Ed.slideL a b (l.drop i) = E :: t := by
          have h := HST.out
          try dsimp only at h
          rw [HK1.out] at h
          rw [h, hE]
          (rw [Ed.put1_yes (by rw [hd]; simp only [Ed.mv]; omega), hd]; rfl)
        have hset : (Ed.rowX l (d :: t)).set de E = Ed.rowX l (E :: t) := by
          have h1 := HDE.out
          have h2 := HDN.out
          (rw [show de = l.length - (t.length + 1) by (rw [h1, h2, List.length_cons])]; exact Ed.rowX_join (by have h3 := hol; rw [List.length_cons] at h3; omega))
        rw [hset] at rA rB
        have hx13 : W4.heap[g + 7]? = some (.cells #[.int .i64 ((l.length - (E :: t).length : Nat) : Int)] 3) := by
          have h1 := HDE.out
          have h2 := HDN.out
          rw [show l.length - (E :: t).length = de by (rw [h1, h2, List.length_cons, List.length_cons])]
          exact y13
        have FA := hid (HS.out.next HLY.out hgbl HKP3.out HT3.out k34 hBx hx13 kA fA14 rA (by rw [hE]; rfl) (by rw [hE]; rfl))
        have FB := hid (HS.out.next HLY.out hgbl HKP3.out HT3.out k34 hBx hx13 kB fB14 rB (by rw [hE]; rfl) (by rw [hE]; rfl))
        rw [← hout'] at FA FB
        have GA := hid (keeps_next (B := w6.heap.size) HKP3.out k34 kA (by omega) (by omega) (by omega) (by omega) (by omega) HBXB.out rfl)
        have GB := hid (keeps_next (B := w6.heap.size) HKP3.out k34 kB (by omega) (by omega) (by omega) (by omega) (by omega) HBXB.out rfl)
        obtain ⟨eA, eN, eB, eM⟩ := E
        have HE := hid hE
        clear kA kB fA14 fB14 rA rB hout' hset hx13 hE
        clear q0 q1 q2 q3 qf r0 r1 r2 r3 rf d0 df s9 k34 y16 y13 y14 y9 yrow hW4 hW4' hzz rowf e1 e2
        gi_region
        all_goals first
          | exact ⟨rfl, GA.out, hlt, FA.out⟩
          | exact ⟨rfl, GB.out, hlt, FB.out⟩
      · have z1 : (((xA : Int) + (K : Int) + (xN : Int)) == (yA : Int)) = false := by rw [beq_eq_false_iff_ne]; omega
        obtain ⟨de, hde⟩ : ∃ de, de = dn - 1 := ⟨_, rfl⟩
        have hdn1 : 0 < dn := by have h1 := HDN.out; have h3 := hol; rw [List.length_cons] at h1 h3; omega
        have w5'' : IntKind.i64.wrap ((dn : Int) - 1) = (de : Int) := (wrapOk (by omega) (by have := HDN.out; omega)).trans (by omega)
        have HDE := hid hde
        clear w5' hde
        gi_wp2
        obtain ⟨W4, hW4⟩ : ∃ W4, W4 = ((((W3.setCell ⟨Bx, 0, none⟩ (.int .i64 ((xA : Int) + (K : Int)))).setCell ⟨Bx, 1, none⟩ (.int .i64 (xN : Int))).setCell ⟨Bx, 2, none⟩ (.int .i64 ((xB : Int) + (K : Int)))).setCell ⟨Bx, 3, none⟩ (.int .i64 (xM : Int))).setCell ⟨g + 5 + 1 + 1, 0, none⟩ (.int .i64 (de : Int)) := ⟨_, rfl⟩
        rw [← hW4]
        obtain ⟨E, hE⟩ : ∃ E : Ch, E = ⟨(xA : Int) + (K : Int), xN, (xB : Int) + (K : Int), xM⟩ := ⟨_, rfl⟩
        have hW4' : W4 = (set4 W3 Bx 0 E).setCell ⟨g + 5 + 1 + 1, 0, none⟩ (.int .i64 (de : Int)) := by rw [hW4, hE]; rfl
        have k34 : Kept (fun j => j = Bx ∨ j = g + 7) W3 W4 := by rw [hW4']; exact (set4_kept (.inl rfl) (Kept.refl _ _)).set (.inr rfl) _
        have y16 : W4.heap[Bx]? = some (chC E) := by rw [hW4']; exact (set_other _ n2).trans (set4_heap HX16.out)
        have y13 : W4.heap[g + 5 + 1 + 1]? = some (.cells #[.int .i64 (de : Int)] 3) := by rw [hW4']; exact set_heap _ _ 0 _ _ _ ((set4_other (fun e => n2 e.symm)).trans HX13.out)
        have z3 := HKP3.out.size
        have y14 : W4.heap[g + 5 + 1 + 1 + 1]? = _ := (k34.block (g + 5 + 1 + 1 + 1) (by omega) (by omega)).trans HX14.out
        have y9 : W4.heap[g]? = _ := (k34.block g (by omega) (by omega)).trans HX9.out
        have hgbl : gb < g := HOB.out gb rfl
        have yrow : W4.ownsRow w.heap.size 42 4 (.slice (some ⟨gb, 0, none⟩) l.length cap) l.length (csC (Ed.rowX l (d :: t))) := own_same HX.out (fun j e => by cases e; exact k34.block gb (by omega) (by omega))
        have v0 : W4.cell? ⟨Bx, 0, none⟩ = some (.int .i64 E.a) := cell_of_blk y16 0
        have v1 : W4.cell? ⟨Bx, 1, none⟩ = some (.int .i64 E.n) := cell_of_blk y16 1
        have v2 : W4.cell? ⟨Bx, 2, none⟩ = some (.int .i64 E.b) := cell_of_blk y16 2
        have v3 : W4.cell? ⟨Bx, 3, none⟩ = some (.int .i64 E.m) := cell_of_blk y16 3
        have u0 : W4.cell? ⟨g + 5 + 1 + 1 + 1, 0, none⟩ = some (.int .i64 yA) := cell_of_blk y14 0
        have u1 : W4.cell? ⟨g + 5 + 1 + 1 + 1, 1, none⟩ = some (.int .i64 nN) := cell_of_blk y14 1
        have u2 : W4.cell? ⟨g + 5 + 1 + 1 + 1, 2, none⟩ = some (.int .i64 yB) := cell_of_blk y14 2
        have u3 : W4.cell? ⟨g + 5 + 1 + 1 + 1, 3, none⟩ = some (.int .i64 nM) := cell_of_blk y14 3
        have uf := fun o => frozen_of_blk y14 o
        have x13 : W4.cell? ⟨g + 5 + 1 + 1, 0, none⟩ = some (.int .i64 de) := cell_of_blk y13 0
        have x9 : W4.cell? ⟨g, 0, none⟩ = some (.slice (some ⟨gb, 0, none⟩) nl cap) := cell_of_blk y9 0
        have rwf := fun o => own_frozen2 yrow o
        have hdl : de < l.length := by have h1 := HDE.out; have h2 := HDN.out; rw [List.length_cons] at h2; omega
        obtain ⟨zz, hzz⟩ : ∃ zz, (Ed.rowX l (d :: t))[de]? = some zz := ⟨_, List.getElem?_eq_getElem (by rw [hrx]; exact hdl)⟩
        obtain ⟨b', o', e', _, m0, m1, m2, m3⟩ := rdC_at (w := W4) (a := some ⟨gb, 0, none⟩) (n := l.length) (c := cap) (k := de) (x := zz) (by have h := own_rd yrow; show RdX _ _ _ _; rw [hrx]; exact h) hzz
        cases e'
        rw [Nat.zero_add] at m0 m1 m2 m3
        have j1 : (0 : Int) ≤ (de : Int) := by omega
        have j2 : (de : Int) < (nl : Int) := by have := HNL.out; omega
        have hmo : Tryd.prog.follows .mixedOrders = true := by kernel_rfl
        have HK34 := hid k34
        have HY13 := hid y13
        have HY14 := hid y14
        have HYR := hid yrow
        have kA : Kept (fun j => j = gb ∨ j = g + 8) W4 (set4 (set4 W4 gb de E) (g + 8) 0 E).drew := (set4_kept (.inr rfl) (set4_kept (.inl rfl) (Kept.refl _ _))).drew
        have kB : Kept (fun j => j = gb ∨ j = g + 8) W4 (set4 (set4 W4 (g + 8) 0 E) gb de E).drew := (set4_kept (.inl rfl) (set4_kept (.inr rfl) (Kept.refl _ _))).drew
        have fA14 : (set4 (set4 W4 gb de E) (g + 8) 0 E).drew.heap[g + 8]? = some (chC E) := (drew_heap _ _).trans (set4_heap ((set4_other (by omega)).trans y14))
        have fB14 : (set4 (set4 W4 (g + 8) 0 E) gb de E).drew.heap[g + 8]? = some (chC E) := (drew_heap _ _).trans ((set4_other (by omega)).trans (set4_heap y14))
        have rA : (set4 (set4 W4 gb de E) (g + 8) 0 E).drew.ownsRow w.heap.size 42 4 (.slice (some ⟨gb, 0, none⟩) l.length cap) l.length (csC ((Ed.rowX l (d :: t)).set de E)) := own_same (own_same (own_setC yrow E (by rw [hrx]; exact hdl)) (w' := set4 (set4 W4 gb de E) (g + 8) 0 E) (fun j e => by cases e; exact set4_other (by omega))) (fun j _ => drew_heap _ _)
        have rB : (set4 (set4 W4 (g + 8) 0 E) gb de E).drew.ownsRow w.heap.size 42 4 (.slice (some ⟨gb, 0, none⟩) l.length cap) l.length (csC ((Ed.rowX l (d :: t)).set de E)) := own_same (own_setC (own_same yrow (w' := set4 W4 (g + 8) 0 E) (fun j e => by cases e; exact set4_other (by omega))) E (by rw [hrx]; exact hdl)) (fun j _ => drew_heap _ _)
        have hout' : Ed.slideL a b (l.drop i) = E :: d :: t := by
          have h := HST.out
          try dsimp only at h
          rw [HK1.out] at h
          rw [h, hE]
          (rw [Ed.put1_no (by rw [hd]; simp only [Ed.mv]; omega)]; rfl)
        have hset : (Ed.rowX l (d :: t)).set de E = Ed.rowX l (E :: d :: t) := by
          have h1 := HDE.out
          have h2 := HDN.out
          (rw [show de = l.length - (d :: t).length - 1 by omega]; exact Ed.rowX_more (by omega))
        rw [hset] at rA rB
        have hx13 : W4.heap[g + 7]? = some (.cells #[.int .i64 ((l.length - (E :: d :: t).length : Nat) : Int)] 3) := by
          have h1 := HDE.out
          have h2 := HDN.out
          rw [show l.length - (E :: d :: t).length = de by (rw [List.length_cons] at h2; simp; omega)]
          exact y13
        have FA := hid (HS.out.next HLY.out hgbl HKP3.out HT3.out k34 hBx hx13 kA fA14 rA (by rw [hE]; rfl) (by rw [hE]; rfl))
        have FB := hid (HS.out.next HLY.out hgbl HKP3.out HT3.out k34 hBx hx13 kB fB14 rB (by rw [hE]; rfl) (by rw [hE]; rfl))
        rw [← hout'] at FA FB
        have GA := hid (keeps_next (B := w6.heap.size) HKP3.out k34 kA (by omega) (by omega) (by omega) (by omega) (by omega) HBXB.out rfl)
        have GB := hid (keeps_next (B := w6.heap.size) HKP3.out k34 kB (by omega) (by omega) (by omega) (by omega) (by omega) HBXB.out rfl)
        obtain ⟨eA, eN, eB, eM⟩ := E
        have HE := hid hE
        clear kA kB fA14 fB14 rA rB hout' hset hx13 hE
        clear q0 q1 q2 q3 qf r0 r1 r2 r3 rf d0 df s9 k34 y16 y13 y14 y9 yrow hW4 hW4' hzz rowf e1 e2
        gi_region
        all_goals first
          | exact ⟨rfl, GA.out, hlt, FA.out⟩
          | exact ⟨rfl, GB.out, hlt, FB.out⟩
  case start => exact ⟨Nat.zero_le _, by rw [Nat.sub_zero, List.drop_length]; exact HI0.out⟩
  case seq =>
    intro L J W hJI hY h0
    refine back_in 3 L (g + 9) A cap l hlen J (fun k W hJ => ?_) hY W h0
    obtain ⟨hk, hS⟩ := hJI k W hJ
    refine ⟨cell_of_blk hS.cs 0, fun hlt => ⟨gb, 0, HGB.out (by omega), fun c hc => ?_⟩⟩
    have hol := Ed.slide_len a b (l.drop (l.length - k))
    rw [List.length_drop] at hol
    have hrd : RdC W (.slice (some ⟨gb, 0, none⟩) l.length cap) (Ed.rowX l (Ed.slideL a b (l.drop (l.length - k)))) := by
      have h := own_rd hS.row
      rw [HGB.out (by omega)] at h
      show RdX _ _ _ _
      rw [Ed.rowX_len (by omega)]
      exact h
    obtain ⟨b', o', e', _, q0, q1, q2, q3⟩ := rdC_at (k := l.length - 1 - k) (x := c) hrd (by rw [Ed.rowX_low (by omega)]; exact hc)
    cases e'
    exact ⟨q0, q1, q2, q3⟩
  case done =>
    rintro D W hD ⟨_, hS⟩ hK
    rw [Nat.sub_self, List.drop_zero] at hS
    have hol := Ed.slide_len a b l
    obtain ⟨out, hout⟩ : ∃ out, out = Ed.slideL a b l := ⟨_, rfl⟩
    rw [← hout] at hS hol
    obtain ⟨dn, hdn⟩ : ∃ dn, dn = l.length - out.length := ⟨_, rfl⟩
    have c13 := hS.c13
    rw [← hdn] at c13
    have t9 : W.cell? ⟨g, 0, none⟩ = some (.slice A l.length cap) := cell_of_blk hS.c9 0
    have t13 : W.cell? ⟨g + 5 + 1 + 1, 0, none⟩ = some (.int .i64 dn) := cell_of_blk c13 0
    have hcap : l.length ≤ cap := own_cap hS.row
    obtain ⟨nl, hnl⟩ : ∃ nl, nl = l.length := ⟨_, rfl⟩
    rw [← hnl] at t9 hcap
    have i1 : (0 : Int) ≤ (dn : Int) := by omega
    have i2 : (dn : Int) ≤ (nl : Int) := by omega
    have i3 : (nl : Int) ≤ (cap : Int) := by omega
    have i4 : dn ≤ nl := by omega
    have FIN : ∀ (A' : Option Addr) (c' : Nat), (dn < nl → A' = A.map (·.add (dn * 4)) ∧ nl - dn ≤ c') → RdC (W.putObj D (.deferred none)) (.slice A' (nl - dn) c') (Ed.slideL a b l) := fun A' c' hA => by
      have h := own_rd hS.row
      have hx := Ed.rowX_len (l := l) (out := out) hol
      have ht := rdC_tail (d := dn) h hx (by omega) (A' := A') (c' := c') (by rw [← hnl]; exact hA)
      have e : (Ed.rowX l out).drop dn = out := by
        unfold Ed.rowX
        rw [← hdn, List.drop_append, List.drop_eq_nil_of_le (by rw [List.length_take]; omega), List.nil_append, List.length_take, show dn - min dn l.length = 0 by omega, List.drop_zero]
      rw [e, ← hnl, hout] at ht
      rcases ht with ht | ⟨b, o, c, hv, hc1, hb, hc2⟩
      · exact .inl ht
      · refine .inr ⟨b, o, c, hv, hc1, by simpa using hb, fun j u hj => ?_⟩
        have h3 := hc2 j u hj
        have hne : b ≠ D := fun e => by
          subst e
          unfold World.cell? at h3
          rw [hK] at h3
          cases h3
        unfold World.cell? at h3 ⊢
        rw [World.putObj_heap_other hne]
        exact h3
    have HBF : Below w.heap.size w (W.putObj D (.deferred none)) := (HB6.out.trans (hS.kept.below (fun j e => by have := HWG.out; have := HLY.out.h0; rcases e with e | e | e | e | e <;> omega) HB6.out.size)).trans (below_put (by have := HWG.out; omega))
    have PT : ∀ (A' : Option Addr) (c' : Nat), ((c' ≤ cap - dn ∧ A' = A ∧ cap = dn) ∨ (A' = A.map (·.add (dn * 4)) ∧ c' = cap - dn)) → PtC (W.putObj D (.deferred none)) w.heap.size (.slice A' (nl - dn) c') (Ed.slideL a b l).length := fun A' c' hA => by
      have h := own_part (dn := dn) hS.row (by omega) hA
      rw [← hnl] at h
      have e : (Ed.slideL a b l).length = nl - dn := by rw [← hout]; omega
      rw [e]
      exact h.far (fun g cur hg => by
        have hne : g ≠ D := fun e' => by
          rw [e', hK] at hg
          cases hg
        exact World.putObj_heap_other hne)
    have HDN := hid hdn
    have HNL := hid hnl
    have HOUT := hid hout
    clear hS c13 hdn hnl hout
    gi_wp2
    all_goals refine ⟨by simp, .inl ⟨_, _, rfl, run_takeDeferred hK, ?_⟩⟩
    all_goals refine ⟨_, by simp [results, Tryd.results6]; rfl, ?_⟩
    all_goals refine ⟨_, rfl, FIN _ _ ?_, HBF, PT _ _ ?_⟩
    all_goals first
      | (intro hlt; first | exact ⟨rfl, by omega⟩ | (exfalso; omega))
      | exact .inr ⟨rfl, rfl⟩
      | exact .inl ⟨by omega, rfl, by omega⟩
end Go.Proofs.YtmomeemkdfoklaaDoor
