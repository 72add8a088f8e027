/-
  The program's Runs.
-/
import Derived.Test.YtagjjhlegojpbaaYd
namespace Go.Proofs.Ytagjjhlegojpbaa
open Go.RowKit Go.Shelf
open Ed (Ch Pr)
attribute [local go_sem] Oper.semAt_some

theorem Try.infoSp : (Try.prog.info? 45).map (fun i => (i.zero, i.size, i.bytes)) = some (some (.agg #[.int .i64 0, .int .i64 0]), 2, 16) := by kernel_rfl
abbrev OwnSp (w : World) (B : Nat) (v : Value) (l : List Pr) : Prop := w.ownsRow B 45 2 v l.length (psC l)
theorem psC_set : ∀ {l : List Pr} {k : Nat} {p : Pr} (z : Int), l[k]? = some p → (psC l).set (k * 2 + 1) (.int .i64 z) = psC (l.set k (p.1, z))
  | x :: r, 0, c, z, h => by cases h; rfl
  | x :: r, k + 1, c, z, h => by
    have ih := psC_set (l := r) (k := k) z (by simpa using h)
    show (pC x ++ psC r).set ((k + 1) * 2 + 1) _ = pC x ++ psC (r.set k (c.1, z))
    rw [← ih, show (k + 1) * 2 + 1 = (pC x).length + (k * 2 + 1) by show _ = 2 + _; omega, List.set_append_right _ _ (Nat.le_add_right _ _), Nat.add_sub_cancel_left]
theorem own_setSp {w : World} {B g n c k : Nat} {e : TypeId} {l : List Pr} {x : Pr} (h : w.ownsRow B e 2 (.slice (some ⟨g, 0, none⟩) n c) n (psC l)) (hx : l[k]? = some x) (z : Int) : (w.setCell ⟨g, k * 2 + 1, none⟩ (.int .i64 z)).ownsRow B e 2 (.slice (some ⟨g, 0, none⟩) n c) n (psC (l.set k (x.1, z))) := by
  rw [← psC_set z hx]
  exact (h.stored _ _).1
theorem own_atP {w : World} {B n : Nat} {e : TypeId} {v : Value} {l : List Pr} {k : Nat} {x : Pr} (h : w.ownsRow B e 2 v n (psC l)) (hx : l[k]? = some x) : ∃ g c, v = .slice (some ⟨g, 0, none⟩) n c ∧ B ≤ g ∧ g < w.heap.size ∧ w.cell? ⟨g, k * 2, none⟩ = some (.int .i64 x.1) ∧ w.cell? ⟨g, k * 2 + 1, none⟩ = some (.int .i64 x.2) ∧ ∀ j, w.frozen? ⟨g, j, none⟩ = false := by
  have h0 := h
  obtain ⟨h1, h2⟩ := h
  rcases h2 with ⟨hv, hn⟩ | ⟨g, cap, cur, hv, hg, hh, hc, hm, hsz, ht⟩
  · rw [hn, psC_length] at h1
    have := (List.getElem?_eq_some_iff.1 hx).1
    omega
  · subst hv
    have hl : k * 2 + 1 < (psC l).length := by
      have := (List.getElem?_eq_some_iff.1 hx).1
      rw [psC_length]; omega
    refine ⟨g, cap, rfl, hg, lt_of_heap hh, ?_, ?_, fun j => h0.frozenAt j⟩
    · rw [h0.cellAt (k * 2) (by omega)]; exact (psC_get hx 0 (by omega)).trans rfl
    · rw [h0.cellAt (k * 2 + 1) (by omega)]; exact (psC_get hx 1 (by omega)).trans rfl
/-- what holds between two rounds of Runs -/
structure RuI (w W : World) (g : Nat) (most : Int) (x y : ByteArray) (acc : List Pr) : Prop where
  c0 : W.heap[g]? = some (.cells #[.int .i64 most] 3)
  row : ∃ v, Boxed W (g + 1) 39 v ∧ OwnSp W g v acc
  c2 : W.heap[g + 2]? = some (strO x)
  c3 : W.heap[g + 3]? = some (strO y)
  bl : Below g w W
theorem RuI.ext {w W W' : World} {g : Nat} {most : Int} {x y : ByteArray} {acc : List Pr} (h : RuI w W g most x y acc) (hb : Below W.heap.size W W') (hg : g ≤ w.heap.size) : RuI w W' g most x y acc := by
  obtain ⟨h0, ⟨v, hv, hr⟩, h2, h3, h4⟩ := h
  have lt := @lt_of_heap
  exact ⟨(hb.block _ (lt h0)).trans h0, ⟨v, (hb.block _ hv.lt).trans hv, own_stays hr hb⟩, (hb.block _ (lt h2)).trans h2, (hb.block _ (lt h3)).trans h3, h4.trans (hb.mono (Nat.le_trans hg h4.size))⟩
theorem RuI.put {w W : World} {g l : Nat} {o o' : Obj} {most : Int} {x y : ByteArray} {acc : List Pr} (h : RuI w W g most x y acc) (hl : W.heap[l]? = some o) (ho : o.isCells = false) (hgl : g ≤ l) : RuI w (W.putObj l o') g most x y acc := by
  obtain ⟨h0, ⟨v, hv, hr⟩, h2, h3, h4⟩ := h
  exact ⟨putObj_cells hl ho h0 rfl, ⟨v, putObj_cells hl ho hv rfl, ownsRow_putObj hr o' hl ho⟩, putObj_cells hl ho h2 rfl, putObj_cells hl ho h3 rfl, h4.trans ⟨rfl, rfl, rfl, by simp, fun j hj => World.putObj_heap_other (by omega)⟩⟩
/-- a store into the row's own block: the boxes stay -/
theorem RuI.upped {w W : World} {g g' c m : Nat} {most : Int} {x y : ByteArray} {acc : List Pr} {p : Pr} {z : Int} (h0 : W.heap[g]? = some (.cells #[.int .i64 most] 3)) (hv : Boxed W (g + 1) 39 (.slice (some ⟨g', 0, none⟩) acc.length c)) (hr : OwnSp W g (.slice (some ⟨g', 0, none⟩) acc.length c) acc) (h2 : W.heap[g + 2]? = some (strO x)) (h3 : W.heap[g + 3]? = some (strO y)) (hb : Below g w W) (hg : g ≤ g') (hm : acc[m]? = some p) :
    RuI w (W.setCell ⟨g', m * 2 + 1, none⟩ (.int .i64 z)) g most x y (acc.set m (p.1, z)) := by
  have n0 : g ≠ g' := fun e => (Boxed.not_row (show Boxed W g 3 (.int .i64 most) from h0) (by decide) hr) (by rw [e]; rfl)
  have n1 : g + 1 ≠ g' := fun e => (Boxed.not_row hv (by decide) hr) (by rw [e]; rfl)
  have n2 : g + 2 ≠ g' := fun e => (Boxed.not_row (show Boxed W (g + 2) 9 (.string x) from h2) (by decide) hr) (by rw [e]; rfl)
  have n3 : g + 3 ≠ g' := fun e => (Boxed.not_row (show Boxed W (g + 3) 9 (.string y) from h3) (by decide) hr) (by rw [e]; rfl)
  have ot : ∀ j, j ≠ g' → (W.setCell ⟨g', m * 2 + 1, none⟩ (.int .i64 z)).heap[j]? = W.heap[j]? := fun j hj => Below.heap_setCell _ _ _ _ (by show j ≠ g'; exact hj)
  refine ⟨(ot _ n0).trans h0, ⟨_, (ot _ n1).trans hv, ?_⟩, (ot _ n2).trans h2, (ot _ n3).trans h3, hb.trans ⟨rfl, rfl, rfl, by simp [World.setCell], fun j hj => ot j (by omega)⟩⟩
  unfold OwnSp
  rw [List.length_set]
  exact own_setSp hr hm z
/-- how great a run's numbers are -/
def Bnd (M : Nat) (acc : List Pr) : Prop := ∀ p ∈ acc, 0 ≤ p.1 ∧ 0 ≤ p.2 ∧ p.1 + p.2 ≤ (M : Int) + 1
theorem bnd_set {M : Nat} {acc : List Pr} {m : Nat} {p : Pr} (h : Bnd M acc) (hm : acc[m]? = some p) (hp : p.1 + p.2 ≤ M) : Bnd M (acc.set m (p.1, p.2 + 1)) := by
  intro q hq
  rcases List.mem_or_eq_of_mem_set hq with hq | hq
  · exact h q hq
  · have := h p (List.mem_of_getElem? hm)
    rw [hq]
    exact ⟨this.1, by show 0 ≤ p.2 + 1; omega, by show p.1 + (p.2 + 1) ≤ _; omega⟩
theorem bnd_new {M : Nat} {acc : List Pr} {a : Int} (h : Bnd M acc) (h0 : 0 ≤ a) (ha : a ≤ M) : Bnd M (acc ++ [(a, 1)]) := by
  intro q hq
  rw [List.mem_append, List.mem_singleton] at hq
  rcases hq with hq | hq
  · exact h q hq
  · rw [hq]
    exact ⟨h0, by show (0 : Int) ≤ 1; omega, by show a + 1 ≤ _; omega⟩
theorem plc_ok {x y : ByteArray} {k : Nat} {u : Ch} (h : (plc x y)[k]? = some u) : 0 ≤ u.a ∧ u.a ≤ x.size := by
  have := Scn.pl_ok _ _ _ _ u (List.mem_of_getElem? h)
  have h2 := this.hiA
  have h1 := this.lo
  rw [dsize] at h2
  omega
def rnL (x y : ByteArray) (most : Int) : List Pr := Scn.rnM most [] (plc x y)

set_option maxHeartbeats 8000000 in
set_option maxRecDepth 100000 in
theorem runs_any (x y : ByteArray) (most : Int) (w : World) (hx : x.size ≤ 1099511627776) (hy : y.size ≤ 1099511627776) :
    Calls Try.prog 18 #[.string x, .string y, .int .i64 most] w fun e w' => ∃ v, e = .returned v ∧ OwnSp w' w.heap.size v (rnL x y most) ∧ Below w.heap.size w w' := by
  obtain ⟨g, hg⟩ : ∃ g, w.heap.size = g := ⟨_, rfl⟩
  refine (callsIn_wide (n := 4)).1 (callsIn_of_wp_marks Try.func18 rfl trivial ?_ rfl)
  simp only [Try.ntmps18, List.size_toArray, List.length_cons, List.length_nil, Nat.reduceAdd, Nat.reduceSub, Array.replicate_succ, Array.replicate_zero, List.push_toArray, List.append_toArray, List.nil_append, List.cons_append]
  gi_wp2
  refine ⟨trivial, ?_⟩
  refine (callsIn_wide.2 (places_any x y _)).mono ?_
  rintro e w4 ⟨he, hw4⟩
  rw [show ((w.alloc (Obj.cells #[Value.int IntKind.i64 most] 3)).alloc (Obj.cells #[Value.slice none 0 0] 39)).heap.size = g + 2 by simp; omega] at he
  subst he
  have HI0 : Hid (RuI w w4 g most x y [] ∧ w4.heap.size = g + 4) := hid (by
    subst hw4
    obtain ⟨o0, h0⟩ : ∃ o, o = Obj.cells #[.int .i64 most] 3 := ⟨_, rfl⟩
    obtain ⟨o1, h1⟩ : ∃ o, o = Obj.cells #[.slice none 0 0] 39 := ⟨_, rfl⟩
    rw [← h0, ← h1]
    have s1 : (w.alloc o0).heap.size = g + 1 := by simp; omega
    have s2 : ((w.alloc o0).alloc o1).heap.size = g + 2 := by simp; omega
    have s3 : (((w.alloc o0).alloc o1).alloc (strO x)).heap.size = g + 3 := by simp; omega
    have e3 := heap_alloc_new (((w.alloc o0).alloc o1).alloc (strO x)) (strO y)
    have e2 := heap_alloc_new ((w.alloc o0).alloc o1) (strO x)
    have e1 := heap_alloc_new (w.alloc o0) o1
    have e0 := heap_alloc_new w o0
    rw [s3] at e3
    rw [s2] at e2
    rw [s1] at e1
    rw [hg] at e0
    have b3 : Below (g + 3) (((w.alloc o0).alloc o1).alloc (strO x)) ((((w.alloc o0).alloc o1).alloc (strO x)).alloc (strO y)) := (Below.refl _ _).alloc (by omega) _
    have b2 : Below (g + 2) ((w.alloc o0).alloc o1) ((((w.alloc o0).alloc o1).alloc (strO x)).alloc (strO y)) := ((Below.refl _ _).alloc (by omega) _).trans (b3.mono (by omega))
    have b1 : Below (g + 1) (w.alloc o0) ((((w.alloc o0).alloc o1).alloc (strO x)).alloc (strO y)) := ((Below.refl _ _).alloc (by omega) _).trans (b2.mono (by omega))
    have bw : Below g w ((((w.alloc o0).alloc o1).alloc (strO x)).alloc (strO y)) := ((Below.refl _ _).alloc (by omega) _).trans (b1.mono (by omega))
    refine ⟨⟨(b1.block _ (by omega)).trans (e0.trans (by rw [h0])), ⟨_, (b2.block _ (by omega)).trans (e1.trans (by rw [h1])), ?_⟩, (b3.block _ (by omega)).trans e2, e3, bw⟩, by simp; omega⟩
    exact World.ownsRow_nil _ _ _ _)
  clear hw4
  gi_wp2
  obtain ⟨N, hN⟩ : ∃ N, N = (plc x y).length := ⟨_, rfl⟩
  have hNx : N ≤ 1099511627776 := by have := plc_len x y; omega
  have HN := hid hN
  clear hN
  refine range_brk (n := 4) (id := 0) (gf := 22) (lb := #[.pointer (some ⟨g + 2, 0, none⟩), .pointer (some ⟨g + 2 + 1, 0, none⟩)]) rfl (enters_of Try.func22 (by kernel_rfl) rfl) N (uEnc (plc x y))
    (fun k W => ∃ acc, k ≤ N ∧ acc.length ≤ k ∧ (most < 0 ∨ (acc.length : Int) ≤ most) ∧ Hid (rnL x y most = Scn.rnM most acc ((plc x y).drop k)) ∧ Hid (Bnd x.size acc) ∧ RuI w W g most x y acc) (fun _ W => RuI w W g most x y (rnL x y most))
    (fun k a' W => ∃ E, g + 4 ≤ E ∧ W.heap[E]? = some (uO ((plc x y).getD k zU)) ∧ a' = { tmps := #[.string x, .string y, .int .i64 most, undef, undef, .pointer (some ⟨g, 0, none⟩), .slice none 0 0, .pointer (some ⟨g + 1, 0, none⟩), .pointer (some ⟨E, 0, none⟩), undef, .string x, .string y, .func (.func 22) #[] #[.pointer (some ⟨g + 2, 0, none⟩), .pointer (some ⟨g + 2 + 1, 0, none⟩)], uV ((plc x y).getD k zU), undef, undef, undef, undef, undef, undef, undef, undef, undef, undef, undef, undef, undef, undef, undef, undef, undef, undef, undef, undef, undef, undef, undef, undef, undef, undef, undef, undef, undef, undef, undef, undef, undef, undef, undef, undef, undef, undef, undef, undef, undef, undef], defers := [] })
    ⟨?put, ?putX, ?ext, ?extX, ?box, ?fits, ?assign, ?body⟩ ?start ?seq ?done ?stop
  case put =>
    rintro k W l o o' hl ⟨acc, h1, h2, h3, h6, h7, h8⟩ h4 h5
    exact ⟨acc, h1, h2, h3, h6, h7, h8.put h4 h5 (by have := HI0.out.2; omega)⟩
  case putX =>
    rintro k W l o o' hl h3 h4 h5
    exact h3.put h4 h5 (by have := HI0.out.2; omega)
  case ext =>
    rintro k W W' ⟨acc, h1, h2, h3, h6, h7, h8⟩ hb
    exact ⟨acc, h1, h2, h3, h6, h7, h8.ext hb (by omega)⟩
  case extX =>
    rintro k W W' h3 hb
    exact h3.ext hb (by omega)
  case box =>
    rintro k a' W L o o' ⟨E, h1, h2, h3⟩ hL ho
    exact ⟨E, h1, putObj_cells hL ho h2 rfl, h3⟩
  case fits => intro k; rfl
  case assign =>
    intro L k W K hI hlt hK
    obtain ⟨acc, h1, h2, h3, h6, h7, h8⟩ := hI
    unfold uEnc uV
    gi_wp2
    exact hK _ _ ((KeepsOthers.alloc _ _).from _) ⟨acc, h1, h2, h3, h6, h7, h8.ext ((Below.refl _ _).alloc (Nat.le_refl _) _) (by omega)⟩ ⟨W.heap.size, by have := h8.c3; have := lt_of_heap this; omega, heap_alloc_new W _, rfl⟩
  case start => exact ⟨[], Nat.zero_le _, Nat.le_refl _, by simp; omega, hid rfl, hid (fun p hp => by simp at hp), HI0.out.1⟩
  case seq =>
    intro L J JX W hI hext hextX hY h0
    have h := places_in 3 L (g + 2) (g + 2 + 1) x y hx hy J JX (fun k W h => by obtain ⟨acc, _, _, _, _, _, h8⟩ := hI k W h; exact ⟨h8.c2, h8.c3⟩) hext (by rw [← HN.out]; exact hY) W h0
    rw [← HN.out] at h
    exact h
  case body =>
    rintro L k a' W hBL ⟨acc, hk, hak, hm, HR, HB, hA⟩ ⟨E, hE, hbE, rfl⟩ hlt
    obtain ⟨u, hu⟩ : ∃ u, u = (plc x y).getD k zU := ⟨_, rfl⟩
    have hgu : (plc x y)[k]? = some u := by
      rw [hu, List.getD_eq_getElem?_getD]
      have hk1 : k < (plc x y).length := by have := HN.out; omega
      rw [List.getElem?_eq_getElem hk1]; rfl
    have hok := plc_ok hgu
    have HD : Hid ((plc x y).drop k = u :: (plc x y).drop (k + 1)) := hid (drop_atY hgu)
    rw [← hu] at hbE ⊢
    clear hu hgu
    rw [HD.out] at HR
    obtain ⟨ua, un, ub, um⟩ := u
    simp only at hok
    have HA2 := hid (hA.ext (below_drewN (Below.refl _ _) 1) (by omega))
    have hbE2 : (W.drewN 1).heap[E]? = some (uO ⟨ua, un, ub, um⟩) := hbE
    have HKD : Hid (KeepsFrom w4.heap.size W (W.drewN 1)) := hid ⟨Nat.le_refl _, fun j o hj hk hc => hk⟩
    obtain ⟨h0, ⟨v, hv, hr⟩, h2, h3, hb4⟩ := hA
    obtain ⟨A, cap, rfl⟩ := own_shape hr
    have c0 : W.cell? ⟨g, 0, none⟩ = some (.int .i64 most) := cell_of_blk h0 0
    have c1 := hv.cell
    have e0 : W.cell? ⟨E, 0, none⟩ = some (.int .i64 ua) := cell_of_blk hbE 0
    obtain ⟨i0, hi, hz0, hz1, hz2⟩ := info_parts Try.infoSp
    rcases Nat.eq_zero_or_pos acc.length with hz | hpos
    · have HNE : Hid (∀ p, acc.getLast? = some p → p.1 + p.2 ≠ ua) := hid (fun p hp => by
        rw [List.length_eq_zero_iff.1 hz] at hp; simp at hp)
      obtain rfl := List.length_eq_zero_iff.1 hz
      clear hz
      gi_upto_region 5 with fail
      refine wpIn_region_qtailR 19 (by kernel_rfl) (by kernel_rfl) ?_
      simp only [List.take_succ_cons, List.take_zero, List.drop_succ_cons, List.drop_zero]
      repeat go_big_quiet_step (fail)
      refine wpQuiet_nil ?_
      generalize W.drewN 1 = W2 at HA2 hbE2 HKD ⊢
      clear h0 hv hr h2 h3 hb4 c0 c1 e0 hbE
      obtain ⟨h0, ⟨v2, hv, hr⟩, h2, h3, hb4⟩ := HA2.out
      obtain ⟨A2, cap2, rfl⟩ := own_shape hr
      have hsz : g ≤ W2.heap.size := by have := lt_of_heap h3; omega
      have c0 : W2.cell? ⟨g, 0, none⟩ = some (.int .i64 most) := cell_of_blk h0 0
      have c1 := hv.cell
      have e0 : W2.cell? ⟨E, 0, none⟩ = some (.int .i64 ua) := cell_of_blk hbE2 0
      by_cases hst : (0 : Int) = most
      · have q1 : ((0 : Int) == most) = true := zeq hst
        have HRX : Hid (rnL x y most = []) := hid (by rw [HR.out]; exact Scn.rnM_stop HNE.out ⟨by omega, by simp; omega⟩)
        clear hst
        gi_wp2
        rw [HRX.out]
        exact ⟨HKD.out, HA2.out⟩
      · have q1 : ((0 : Int) == most) = false := zne hst
        have HR2 : Hid (rnL x y most = Scn.rnM most ([(ua, 1)]) ((plc x y).drop (k + 1))) := hid (by rw [HR.out]; exact Scn.rnM_new HNE.out (by simp; omega))
        have hmm : most < 0 ∨ (0 : Int) + 1 ≤ most := by omega
        clear hst hm
        gi_wp2_with (gi_at_builtin; refine wpListIn_append_own _ rfl _ _ 39 rfl g 45 i0 (.agg #[.int .i64 0, .int .i64 0]) 2 16 Try.underlying39 hi hz0 hz1 hz2 rfl (by decide) _ _ _ rfl (hr.alloc _) ⟨W2.heap.size, 0, none⟩ 1 1 (pC (ua, 1)) rfl rfl (cells_newY _ _ _) (fun z hz => psC_one [(ua, 1)] z (by simpa [psC] using hz)) (by unfold maxLen; omega) (by omega) (by simp; omega) ?_; intro v' w1 hown' hgrow _; obtain ⟨g', cap', rfl⟩ := ownsRow_succ hown'; obtain ⟨hv1, hv2, hr2, hk2, hb2⟩ := hv.appended (by decide) hr hsz (by omega) hown' hgrow; have hc1 := hv1.cell; have hf1 := hv1.frozen; have hk0 := box_keeps (show Boxed W2 g 3 (.int .i64 most) from h0) (by decide) hr hgrow (show g ≠ g + 1 by omega) (.slice (some ⟨g', 0, none⟩) (0 + 1) cap'); have hk2x := box_keeps (show Boxed W2 (g + 2) 9 (.string x) from h2) (by decide) hr hgrow (show g + 2 ≠ g + 1 by omega) (.slice (some ⟨g', 0, none⟩) (0 + 1) cap'); have hk3x := box_keeps (show Boxed W2 (g + 3) 9 (.string y) from h3) (by decide) hr hgrow (show g + 3 ≠ g + 1 by omega) (.slice (some ⟨g', 0, none⟩) (0 + 1) cap'))
        refine ⟨HKD.out.trans (hk2.from _), by omega, [(ua, 1)], by simp, by simp; omega, HR2, hid (bnd_new (acc := []) HB.out hok.1 hok.2), hk0, ⟨_, hv2, ?_⟩, hk2x, hk3x, hb4.trans hb2⟩
        exact hr2
    · obtain ⟨m, hmm0⟩ : ∃ m, acc.length = m + 1 := ⟨acc.length - 1, by omega⟩
      obtain ⟨p, hp⟩ : ∃ p, acc[m]? = some p := ⟨_, List.getElem?_eq_getElem (by omega)⟩
      have hlast : acc.getLast? = some p := by rw [List.getLast?_eq_getElem?, show acc.length - 1 = m by omega]; exact hp
      obtain ⟨b0, b1, b2⟩ := HB.out p (List.mem_of_getElem? hp)
      have z1 : decide ((acc.length : Int) > 0) = true := decide_eq_true (by omega)
      have z2 : IntKind.i64.wrap ((acc.length : Int) - 1) = (m : Int) := by rw [IntKind.wrap_i64]; omega
      have z3 : IntKind.i64.wrap (p.1 + p.2) = p.1 + p.2 := by rw [IntKind.wrap_i64]; omega
      have z4 : (m : Int) < (acc.length : Int) := by omega
      have z5 : m < acc.length := by omega
      obtain ⟨G, cap3, hAe, hG, hG2, p0, p1, pf⟩ := own_atP hr hp
      cases hAe
      have HP := hid hp
      have HLAST := hid hlast
      have pp1 := pf (m * 2 + 1)
      have HMM := hid hmm0
      clear hmm0
      gi_upto_region 5 with fail
      by_cases hq : p.1 + p.2 = ua
      · have q0 : (p.1 + p.2 == ua) = true := zeq hq
        have HR2 : Hid (rnL x y most = Scn.rnM most (acc.set m (p.1, p.2 + 1)) ((plc x y).drop (k + 1))) := hid (by
          rw [HR.out, Scn.rnM_ext HLAST.out hq]
          have e := Scn.up_set HLAST.out
          rw [show acc.length - 1 = m by have := HMM.out; omega] at e
          rw [← e]; rfl)
        have HBN := hid (bnd_set HB.out HP.out (by omega))
        clear hq
        refine wpIn_region_qtailR 19 (by kernel_rfl) (by kernel_rfl) ?_
        simp only [List.take_succ_cons, List.take_zero, List.drop_succ_cons, List.drop_zero]
        repeat go_big_quiet_step (fail)
        refine wpQuiet_nil ?_
        have HRU := hid (RuI.upped (z := p.2 + 1) (w := w) (show (W.drewN 1).heap[g]? = _ from h0) hv hr h2 h3 HA2.out.bl hG HP.out)
        have HKS : Hid (KeepsFrom w4.heap.size W ((W.drewN 1).setCell ⟨G, m * 2 + 1, none⟩ (.int .i64 (p.2 + 1)))) := hid (HKD.out.trans ((KeepsOthers.setCell _ _ _).from _))
        have z6 : IntKind.i64.wrap (p.2 + 1) = p.2 + 1 := by rw [IntKind.wrap_i64]; omega
        have d1 : (W.drewN 1).cell? ⟨g + 1, 0, none⟩ = some (.slice (some ⟨G, 0, none⟩) acc.length cap) := c1
        have d2 : (W.drewN 1).cell? ⟨G, m * 2 + 1, none⟩ = some (.int .i64 p.2) := p1
        have d3 : (W.drewN 1).frozen? ⟨G, m * 2 + 1, none⟩ = false := pp1
        clear h0 hv hr h2 h3 hb4 c0 c1 e0 hbE p0 p1 pf pp1 hp hlast
        generalize W.drewN 1 = W2 at HRU HKS d1 d2 d3 hbE2 HA2 HKD ⊢
        gi_wp2
        exact ⟨HKS.out, by omega, acc.set m (p.1, p.2 + 1), by rw [List.length_set]; omega, by rw [List.length_set]; exact hm, HR2, HBN, HRU.out⟩
      · have q0 : (p.1 + p.2 == ua) = false := zne hq
        have HNE : Hid (∀ q, acc.getLast? = some q → q.1 + q.2 ≠ ua) := hid (fun q hq2 => by
          rw [HLAST.out] at hq2
          cases hq2
          exact hq)
        clear hq
        refine wpIn_region_qtailR 19 (by kernel_rfl) (by kernel_rfl) ?_
        simp only [List.take_succ_cons, List.take_zero, List.drop_succ_cons, List.drop_zero]
        repeat go_big_quiet_step (fail)
        refine wpQuiet_nil ?_
        clear p0 p1 pf pp1 hp hlast
        generalize W.drewN 1 = W2 at HA2 hbE2 HKD ⊢
        clear h0 hv hr h2 h3 hb4 c0 c1 e0 hbE
        obtain ⟨h0, ⟨v2, hv, hr⟩, h2, h3, hb4⟩ := HA2.out
        obtain ⟨A2, cap2, rfl⟩ := own_shape hr
        have hsz : g ≤ W2.heap.size := by have := lt_of_heap h3; omega
        have c0 : W2.cell? ⟨g, 0, none⟩ = some (.int .i64 most) := cell_of_blk h0 0
        have c1 := hv.cell
        have e0 : W2.cell? ⟨E, 0, none⟩ = some (.int .i64 ua) := cell_of_blk hbE2 0
        by_cases hst : (acc.length : Int) = most
        · have q1 : ((acc.length : Int) == most) = true := zeq hst
          have HRX : Hid (rnL x y most = acc) := hid (by rw [HR.out]; exact Scn.rnM_stop HNE.out ⟨by omega, by omega⟩)
          clear hst
          gi_wp2
          rw [HRX.out]
          exact ⟨HKD.out, HA2.out⟩
        · have q1 : ((acc.length : Int) == most) = false := zne hst
          have HR2 : Hid (rnL x y most = Scn.rnM most (acc ++ [(ua, 1)]) ((plc x y).drop (k + 1))) := hid (by rw [HR.out]; exact Scn.rnM_new HNE.out (by omega))
          have hmm : most < 0 ∨ (acc.length : Int) + 1 ≤ most := by omega
          clear hst hm
          gi_wp2_with (gi_at_builtin; refine wpListIn_append_own _ rfl _ _ 39 rfl g 45 i0 (.agg #[.int .i64 0, .int .i64 0]) 2 16 Try.underlying39 hi hz0 hz1 hz2 rfl (by decide) _ _ _ rfl (hr.alloc _) ⟨W2.heap.size, 0, none⟩ 1 1 (pC (ua, 1)) rfl rfl (cells_newY _ _ _) (fun z hz => psC_one [(ua, 1)] z (by simpa [psC] using hz)) (by unfold maxLen; omega) (by omega) (by simp; omega) ?_; intro v' w1 hown' hgrow _; obtain ⟨g', cap', rfl⟩ := ownsRow_succ hown'; obtain ⟨hv1, hv2, hr2, hk2, hb2⟩ := hv.appended (by decide) hr hsz (by omega) hown' hgrow; have hc1 := hv1.cell; have hf1 := hv1.frozen; have hk0 := box_keeps (show Boxed W2 g 3 (.int .i64 most) from h0) (by decide) hr hgrow (show g ≠ g + 1 by omega) (.slice (some ⟨g', 0, none⟩) (acc.length + 1) cap'); have hk2x := box_keeps (show Boxed W2 (g + 2) 9 (.string x) from h2) (by decide) hr hgrow (show g + 2 ≠ g + 1 by omega) (.slice (some ⟨g', 0, none⟩) (acc.length + 1) cap'); have hk3x := box_keeps (show Boxed W2 (g + 3) 9 (.string y) from h3) (by decide) hr hgrow (show g + 3 ≠ g + 1 by omega) (.slice (some ⟨g', 0, none⟩) (acc.length + 1) cap'))
          refine ⟨HKD.out.trans (hk2.from _), by omega, acc ++ [(ua, 1)], by simp; omega, by simp; omega, HR2, hid (bnd_new HB.out hok.1 hok.2), hk0, ⟨_, hv2, ?_⟩, hk2x, hk3x, hb4.trans hb2⟩
          unfold OwnSp
          rw [List.length_append, psC_append, List.length_singleton]
          exact hr2
  case done =>
    rintro D W hD ⟨acc, hk, hak, hm, HR, HB, hA⟩ hK
    obtain ⟨h0, ⟨v, hv, hr⟩, h2, h3, hb4⟩ := hA
    have c1 := hv.cell
    have e : acc = rnL x y most := by
      have h := HR.out
      rw [List.drop_of_length_le (by have := HN.out; omega), Scn.rnM_nil] at h
      exact h.symm
    have HR2 := hid (ownsRow_putObj (l := D) hr (.deferred none) hK rfl)
    rw [e] at HR2
    have HBF : Hid (Below w.heap.size w (W.putObj D (.deferred none))) := hid (by
      rw [hg]
      exact hb4.trans ⟨rfl, rfl, rfl, by simp, fun j hj => World.putObj_heap_other (by have := HI0.out.2; omega)⟩)
    clear hr h0 h2 h3 hb4 hv e
    gi_wp2
    refine ⟨by simp, .inl ⟨_, _, rfl, run_takeDeferred hK, ?_⟩⟩
    refine ⟨_, results_tmp rfl _ _ _, ?_⟩
    exact ⟨_, rfl, by rw [hg]; exact HR2.out, HBF.out⟩
  case stop =>
    rintro D k W hD hA hK
    obtain ⟨h0, ⟨v, hv, hr⟩, h2, h3, hb4⟩ := hA
    have c1 := hv.cell
    have HR2 := hid (ownsRow_putObj (l := D) hr (.deferred none) hK rfl)
    have HBF : Hid (Below w.heap.size w (W.putObj D (.deferred none))) := hid (by
      rw [hg]
      exact hb4.trans ⟨rfl, rfl, rfl, by simp, fun j hj => World.putObj_heap_other (by have := HI0.out.2; omega)⟩)
    clear hr h0 h2 h3 hb4 hv
    gi_wp2
    refine ⟨by simp, .inl ⟨_, _, rfl, run_takeDeferred hK, ?_⟩⟩
    refine ⟨_, results_tmp rfl _ _ _, ?_⟩
    exact ⟨_, rfl, by rw [hg]; exact HR2.out, HBF.out⟩
end Go.Proofs.Ytagjjhlegojpbaa
