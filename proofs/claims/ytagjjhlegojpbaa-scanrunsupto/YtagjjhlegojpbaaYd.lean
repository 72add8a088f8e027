/-
  The program's All.
-/
import Derived.Maps.AppendAt
import Derived.Test.YtagjjhlegojpbaaYc
namespace Go.Proofs.Ytagjjhlegojpbaa
open Go.RowKit Go.Shelf
open Ed (Ch Pr)
attribute [local go_sem] Oper.semAt_some

theorem Try.infoUn : (Try.prog.info? 23).map (fun i => (i.zero, i.size, i.bytes)) = some (some (.agg #[.int .i64 0, .int .i64 0, .int .i64 0, .int .i64 0]), 4, 32) := by kernel_rfl
/-- a block's cells, as an append asks for them -/
theorem cells_newY (w : World) (cs : List Value) (t : TypeId) : ∀ j u, cs[j]? = some u → (w.alloc (.cells cs.toArray t)).cell? ((⟨w.heap.size, 0, none⟩ : Addr).add j) = some u := by
  intro j u hj
  rw [Go.WideShapes.add_plain, Nat.zero_add]
  have := cell_of_blk (heap_alloc_new w (.cells cs.toArray t)) j
  rw [this]
  simpa using hj
abbrev OwnU (w : World) (B : Nat) (v : Value) (l : List Ch) : Prop := w.ownsRow B 23 4 v l.length (csC l)
def uO (c : Ch) : Obj := .cells #[.int .i64 c.a, .int .i64 c.n, .int .i64 c.b, .int .i64 c.m] 23
/-- what holds between two rounds of All -/
structure AlI (w W : World) (g : Nat) (most : Int) (x y : ByteArray) (c : Nat) : Prop where
  c0 : W.heap[g]? = some (.cells #[.int .i64 most] 3)
  row : ∃ v, Boxed W (g + 1) 32 v ∧ OwnU W g v ((plc x y).take c)
  c2 : W.heap[g + 2]? = some (strO x)
  c3 : W.heap[g + 3]? = some (strO y)
  bl : Below g w W
theorem AlI.ext {w W W' : World} {g : Nat} {most : Int} {x y : ByteArray} {c : Nat} (h : AlI w W g most x y c) (hb : Below W.heap.size W W') (hg : g ≤ w.heap.size) : AlI w W' g most x y c := by
  obtain ⟨h0, ⟨v, hv, hr⟩, h2, h3, h4⟩ := h
  have lt := @lt_of_heap
  exact ⟨(hb.block _ (lt h0)).trans h0, ⟨v, (hb.block _ hv.lt).trans hv, own_stays hr hb⟩, (hb.block _ (lt h2)).trans h2, (hb.block _ (lt h3)).trans h3, h4.trans (hb.mono (Nat.le_trans hg h4.size))⟩
theorem putObj_cells {W : World} {l j : Nat} {o o' p : Obj} (hl : W.heap[l]? = some o) (ho : o.isCells = false) (hj : W.heap[j]? = some p) (hp : p.isCells = true) : (W.putObj l o').heap[j]? = some p := by
  refine (World.putObj_heap_other (fun e => ?_)).trans hj
  subst e
  rw [hj] at hl
  cases hl
  rw [hp] at ho
  cases ho
theorem AlI.put {w W : World} {g l : Nat} {o o' : Obj} {most : Int} {x y : ByteArray} {c : Nat} (h : AlI w W g most x y c) (hl : W.heap[l]? = some o) (ho : o.isCells = false) (hgl : g ≤ l) : AlI w (W.putObj l o') g most x y c := by
  obtain ⟨h0, ⟨v, hv, hr⟩, h2, h3, h4⟩ := h
  exact ⟨putObj_cells hl ho h0 rfl, ⟨v, putObj_cells hl ho hv rfl, ownsRow_putObj hr o' hl ho⟩, putObj_cells hl ho h2 rfl, putObj_cells hl ho h3 rfl, h4.trans ⟨rfl, rfl, rfl, by simp, fun j hj => World.putObj_heap_other (by omega)⟩⟩

theorem box_keeps {W w1 : World} {B B' base size k : Nat} {t e : TypeId} {v u : Value} {xs : List Value} {tmp : Obj} (h : Boxed W B t v) (hte : t ≠ e) (hr : W.ownsRow base e size u k xs) (hgrow : (W.alloc tmp).grownBy w1 u.ownBlock) (hne : B ≠ B') (z : Value) : Boxed (w1.setCell ⟨B', 0, none⟩ z) B t v :=
  ((h.alloc tmp).kept hgrow (h.not_row hte hr)).other hne z
set_option maxHeartbeats 4000000 in
set_option maxRecDepth 100000 in
theorem all_any (x y : ByteArray) (most : Int) (w : World) (hx : x.size ≤ 1099511627776) (hy : y.size ≤ 1099511627776) :
    Calls Try.prog 13 #[.string x, .string y, .int .i64 most] w fun e w' => ∃ v, e = .returned v ∧ OwnU w' w.heap.size v (Scn.mst most (plc x y)) ∧ Below w.heap.size w w' := by
  obtain ⟨g, hg⟩ : ∃ g, w.heap.size = g := ⟨_, rfl⟩
  refine (callsIn_wide (n := 4)).1 (callsIn_of_wp_marks Try.func13 rfl trivial ?_ rfl)
  simp only [Try.ntmps13, List.size_toArray, List.length_cons, List.length_nil, Nat.reduceAdd, Nat.reduceSub, Array.replicate_succ, Array.replicate_zero, List.push_toArray, List.append_toArray, List.nil_append, List.cons_append]
  have k0 : ((w.alloc (.cells #[.int .i64 most] 3)).alloc (.cells #[.slice none 0 0] 32)).cell? ⟨w.heap.size, 0, none⟩ = some (.int .i64 most) := cell_of_blk (((Below.refl _ _).alloc (Nat.le_refl _) _).block w.heap.size (by simp) |>.trans (heap_alloc_new w _)) 0
  have k1 : ((w.alloc (.cells #[.int .i64 most] 3)).alloc (.cells #[.slice none 0 0] 32)).cell? ⟨w.heap.size + 1, 0, none⟩ = some (.slice none 0 0) := by
    have := cell_of_blk (heap_alloc_new (w.alloc (.cells #[.int .i64 most] 3)) (.cells #[.slice none 0 0] 32)) 0
    rw [World.size_alloc] at this
    exact this
  by_cases hm : most = 0
  · have q0 : (most == 0) = true := zeq hm
    have b0 : Below g w ((w.alloc (.cells #[.int .i64 0] 3)).alloc (.cells #[.slice none 0 0] 32)) := (((Below.refl g w).alloc (Nat.le_of_eq hg.symm) _).alloc (by simp; omega) _)
    gi_wp2
    refine ⟨_, results_tmp rfl _ _ _, ?_⟩
    subst hm
    refine ⟨_, rfl, ?_, by rw [hg]; exact b0⟩
    have e : Scn.mst 0 (plc x y) = [] := by unfold Scn.mst; simp
    rw [e]
    exact World.ownsRow_nil _ _ _ _
  · have q0 : (most == 0) = false := zne hm
    clear hm
    gi_wp2
    refine ⟨trivial, ?_⟩
    refine (callsIn_wide.2 (places_any x y _)).mono ?_
    rintro e w4 ⟨he, hw4⟩
    rw [show ((w.alloc (Obj.cells #[Value.int IntKind.i64 most] 3)).alloc (Obj.cells #[Value.slice none 0 0] 32)).heap.size = g + 2 by simp; omega] at he
    subst he
    have HI0 : Hid (AlI w w4 g most x y 0 ∧ w4.heap.size = g + 4) := hid (by
      subst hw4
      obtain ⟨o0, h0⟩ : ∃ o, o = Obj.cells #[.int .i64 most] 3 := ⟨_, rfl⟩
      obtain ⟨o1, h1⟩ : ∃ o, o = Obj.cells #[.slice none 0 0] 32 := ⟨_, rfl⟩
      rw [← h0, ← h1]
      have s1 : (w.alloc o0).heap.size = g + 1 := by simp; omega
      have s2 : ((w.alloc o0).alloc o1).heap.size = g + 2 := by simp; omega
      have s3 : (((w.alloc o0).alloc o1).alloc (strO x)).heap.size = g + 3 := by simp; omega
      have e3 := heap_alloc_new (((w.alloc o0).alloc o1).alloc (strO x)) (strO y)
      have e2 := heap_alloc_new ((w.alloc o0).alloc o1) (strO x)
      have e1 := heap_alloc_new (w.alloc o0) o1
      have e0 := heap_alloc_new w o0
      rw [s3] at e3
      rw [s2] at e2
      rw [s1] at e1
      rw [hg] at e0
      have b3 : Below (g + 3) (((w.alloc o0).alloc o1).alloc (strO x)) ((((w.alloc o0).alloc o1).alloc (strO x)).alloc (strO y)) := (Below.refl _ _).alloc (by omega) _
      have b2 : Below (g + 2) ((w.alloc o0).alloc o1) ((((w.alloc o0).alloc o1).alloc (strO x)).alloc (strO y)) := ((Below.refl _ _).alloc (by omega) _).trans (b3.mono (by omega))
      have b1 : Below (g + 1) (w.alloc o0) ((((w.alloc o0).alloc o1).alloc (strO x)).alloc (strO y)) := ((Below.refl _ _).alloc (by omega) _).trans (b2.mono (by omega))
      have bw : Below g w ((((w.alloc o0).alloc o1).alloc (strO x)).alloc (strO y)) := ((Below.refl _ _).alloc (by omega) _).trans (b1.mono (by omega))
      refine ⟨⟨(b1.block _ (by omega)).trans (e0.trans (by rw [h0])), ⟨_, (b2.block _ (by omega)).trans (e1.trans (by rw [h1])), ?_⟩, (b3.block _ (by omega)).trans e2, e3, bw⟩, by simp; omega⟩
      exact World.ownsRow_nil _ _ _ _)
    have HM : Hid (most < 0 ∨ (0 : Int) < most) := hid (by
      have : most ≠ 0 := fun e => by subst e; cases q0
      omega)
    clear hw4 k0 k1
    gi_wp2
    obtain ⟨N, hN⟩ : ∃ N, N = (plc x y).length := ⟨_, rfl⟩
    have hNx : N ≤ 1099511627776 := by have := plc_len x y; omega
    have HN := hid hN
    clear hN
    refine range_brk (n := 4) (id := 0) (gf := 22) (lb := #[.pointer (some ⟨g + 2, 0, none⟩), .pointer (some ⟨g + 2 + 1, 0, none⟩)]) rfl (enters_of Try.func22 (by kernel_rfl) rfl) N (uEnc (plc x y))
      (fun k W => k ≤ N ∧ (most < 0 ∨ (k : Int) < most) ∧ AlI w W g most x y k) (fun k W => k ≤ N ∧ (k : Int) = most ∧ AlI w W g most x y k)
      (fun k a' W => ∃ E, g + 4 ≤ E ∧ W.heap[E]? = some (uO ((plc x y).getD k zU)) ∧ a' = { tmps := #[.string x, .string y, .int .i64 most, undef, undef, .pointer (some ⟨g, 0, none⟩), .slice none 0 0, .pointer (some ⟨g + 1, 0, none⟩), .pointer (some ⟨E, 0, none⟩), .int .i64 most, .bool false, undef, .string x, .string y, .func (.func 22) #[] #[.pointer (some ⟨g + 2, 0, none⟩), .pointer (some ⟨g + 2 + 1, 0, none⟩)], uV ((plc x y).getD k zU), undef, undef, undef, undef, undef, undef, undef, undef, undef], defers := [] })
      ⟨?put, ?putX, ?ext, ?extX, ?box, ?fits, ?assign, ?body⟩ ?start ?seq ?done ?stop
    case put =>
      rintro k W l o o' hl ⟨h1, h2, h3⟩ h4 h5
      exact ⟨h1, h2, h3.put h4 h5 (by have := HI0.out.2; omega)⟩
    case putX =>
      rintro k W l o o' hl ⟨h1, h2, h3⟩ h4 h5
      exact ⟨h1, h2, h3.put h4 h5 (by have := HI0.out.2; omega)⟩
    case ext =>
      rintro k W W' ⟨h1, h2, h3⟩ hb
      exact ⟨h1, h2, h3.ext hb (by omega)⟩
    case extX =>
      rintro k W W' ⟨h1, h2, h3⟩ hb
      exact ⟨h1, h2, h3.ext hb (by omega)⟩
    case box =>
      rintro k a' W L o o' ⟨E, h1, h2, h3⟩ hL ho
      exact ⟨E, h1, putObj_cells hL ho h2 rfl, h3⟩
    case fits => intro k; rfl
    case assign =>
      intro L k W K hI hlt hK
      unfold uEnc uV
      gi_wp2
      exact hK _ _ ((KeepsOthers.alloc _ _).from _) ⟨hI.1, hI.2.1, hI.2.2.ext ((Below.refl _ _).alloc (Nat.le_refl _) _) (by omega)⟩ ⟨W.heap.size, by have := hI.2.2.c3; have := lt_of_heap this; omega, heap_alloc_new W _, rfl⟩
    case start => exact ⟨Nat.zero_le _, HM.out, HI0.out.1⟩
    case seq =>
      intro L J JX W hI hext hextX hY h0
      have h := places_in 3 L (g + 2) (g + 2 + 1) x y hx hy J JX (fun k W h => ⟨(hI k W h).2.2.c2, (hI k W h).2.2.c3⟩) hext (by rw [← HN.out]; exact hY) W h0
      rw [← HN.out] at h
      exact h
    case body =>
      rintro L k a' W hBL ⟨hk, hm, hA⟩ ⟨E, hE, hbE, rfl⟩ hlt
      obtain ⟨u, hu⟩ : ∃ u, u = (plc x y).getD k zU := ⟨_, rfl⟩
      have HT : Hid (csC ((plc x y).take k) ++ cC u = csC ((plc x y).take (k + 1))) := hid (by
        have h1 : (plc x y)[k]? = some u := by
          rw [hu, List.getD_eq_getElem?_getD]
          have hk1 : k < (plc x y).length := by have := HN.out; omega
          rw [List.getElem?_eq_getElem hk1]; rfl
        rw [List.take_add_one, h1, csC_append]
        simp [csC])
      have HL : Hid (((plc x y).take k).length = k ∧ ((plc x y).take (k + 1)).length = k + 1) := hid (by
        have := HN.out
        rw [List.length_take, List.length_take]; omega)
      rw [← hu] at hbE ⊢
      clear hu
      obtain ⟨h0, ⟨v, hv, hr⟩, h2, h3, hb4⟩ := hA
      have hsz : g ≤ W.heap.size := by have := lt_of_heap h3; omega
      have hr' : W.ownsRow g 23 4 v k (csC ((plc x y).take k)) := by have := hr; unfold OwnU at this; rw [HL.out.1] at this; exact this
      obtain ⟨A, cap, rfl⟩ := own_shape hr'
      have c0 : W.cell? ⟨g, 0, none⟩ = some (.int .i64 most) := cell_of_blk h0 0
      have c1 := hv.cell
      have e0 : W.cell? ⟨E, 0, none⟩ = some (.int .i64 u.a) := cell_of_blk hbE 0
      have e1 : W.cell? ⟨E, 1, none⟩ = some (.int .i64 u.n) := cell_of_blk hbE 1
      have e2 : W.cell? ⟨E, 2, none⟩ = some (.int .i64 u.b) := cell_of_blk hbE 2
      have e3 : W.cell? ⟨E, 3, none⟩ = some (.int .i64 u.m) := cell_of_blk hbE 3
      obtain ⟨i0, hi, hz0, hz1, hz2⟩ := info_parts Try.infoUn
      clear hbE hr
      by_cases hst : ((k : Int) + 1) = most
      · have q1 : (((k : Int) + 1) == most) = true := zeq hst
        have hst2 := hid hst
        clear hst hm
        gi_wp2_with (gi_at_builtin; refine wpListIn_append_own _ rfl _ _ 32 rfl g 23 i0 (.agg #[.int .i64 0, .int .i64 0, .int .i64 0, .int .i64 0]) 4 32 Try.underlying32 hi hz0 hz1 hz2 rfl (by decide) _ _ _ rfl (hr'.alloc _) ⟨W.heap.size, 0, none⟩ 1 1 (cC u) rfl rfl (cells_newY _ _ _) (fun z hz => csC_one [u] z (by simpa [csC] using hz)) (by unfold maxLen; omega) (by omega) (by simp; omega) ?_; intro v' w1 hown' hgrow _; obtain ⟨g', cap', rfl⟩ := ownsRow_succ hown'; obtain ⟨hv1, hv2, hr2, hk2, hb2⟩ := hv.appended (by decide) hr' hsz (by omega) hown' hgrow; have hc1 := hv1.cell; have hf1 := hv1.frozen; have hc2 := hv2.cell; have hk0 := box_keeps (show Boxed W g 3 (.int .i64 most) from h0) (by decide) hr' hgrow (show g ≠ g + 1 by omega) (.slice (some ⟨g', 0, none⟩) (k + 1) cap'); have hk2x := box_keeps (show Boxed W (g + 2) 9 (.string x) from h2) (by decide) hr' hgrow (show g + 2 ≠ g + 1 by omega) (.slice (some ⟨g', 0, none⟩) (k + 1) cap'); have hk3x := box_keeps (show Boxed W (g + 3) 9 (.string y) from h3) (by decide) hr' hgrow (show g + 3 ≠ g + 1 by omega) (.slice (some ⟨g', 0, none⟩) (k + 1) cap'); have hc0 := hk0.cell)
        refine ⟨hk2.from _, by omega, by have := hst2.out; omega, hk0, ⟨_, hv2, ?_⟩, hk2x, hk3x, hb4.trans hb2⟩
        rw [HT.out] at hr2
        unfold OwnU
        rw [HL.out.2]
        exact hr2
      · have q1 : (((k : Int) + 1) == most) = false := zne hst
        have hst2 : Hid (most < 0 ∨ (k : Int) + 1 < most) := hid (by omega)
        clear hst hm
        gi_wp2_with (gi_at_builtin; refine wpListIn_append_own _ rfl _ _ 32 rfl g 23 i0 (.agg #[.int .i64 0, .int .i64 0, .int .i64 0, .int .i64 0]) 4 32 Try.underlying32 hi hz0 hz1 hz2 rfl (by decide) _ _ _ rfl (hr'.alloc _) ⟨W.heap.size, 0, none⟩ 1 1 (cC u) rfl rfl (cells_newY _ _ _) (fun z hz => csC_one [u] z (by simpa [csC] using hz)) (by unfold maxLen; omega) (by omega) (by simp; omega) ?_; intro v' w1 hown' hgrow _; obtain ⟨g', cap', rfl⟩ := ownsRow_succ hown'; obtain ⟨hv1, hv2, hr2, hk2, hb2⟩ := hv.appended (by decide) hr' hsz (by omega) hown' hgrow; have hc1 := hv1.cell; have hf1 := hv1.frozen; have hc2 := hv2.cell; have hk0 := box_keeps (show Boxed W g 3 (.int .i64 most) from h0) (by decide) hr' hgrow (show g ≠ g + 1 by omega) (.slice (some ⟨g', 0, none⟩) (k + 1) cap'); have hk2x := box_keeps (show Boxed W (g + 2) 9 (.string x) from h2) (by decide) hr' hgrow (show g + 2 ≠ g + 1 by omega) (.slice (some ⟨g', 0, none⟩) (k + 1) cap'); have hk3x := box_keeps (show Boxed W (g + 3) 9 (.string y) from h3) (by decide) hr' hgrow (show g + 3 ≠ g + 1 by omega) (.slice (some ⟨g', 0, none⟩) (k + 1) cap'); have hc0 := hk0.cell)
        refine ⟨hk2.from _, by omega, by have := hst2.out; omega, hk0, ⟨_, hv2, ?_⟩, hk2x, hk3x, hb4.trans hb2⟩
        rw [HT.out] at hr2
        unfold OwnU
        rw [HL.out.2]
        exact hr2
    case done =>
      rintro D W hD ⟨hk, hm, hA⟩ hK
      obtain ⟨h0, ⟨v, hv, hr⟩, h2, h3, hb4⟩ := hA
      have c1 := hv.cell
      have e : (plc x y).take N = Scn.mst most (plc x y) := by
        unfold Scn.mst
        have := HN.out
        split
        · rw [List.take_of_length_le (by omega)]
        · rw [List.take_of_length_le (by omega), List.take_of_length_le (by omega)]
      have HR := hid (ownsRow_putObj (l := D) hr (.deferred none) hK rfl)
      rw [e] at HR
      have HBF : Hid (Below w.heap.size w (W.putObj D (.deferred none))) := hid (by
        rw [hg]
        exact hb4.trans ⟨rfl, rfl, rfl, by simp, fun j hj => World.putObj_heap_other (by have := HI0.out.2; omega)⟩)
      clear hr h0 h2 h3 hb4 hv e
      gi_wp2
      refine ⟨by simp, .inl ⟨_, _, rfl, run_takeDeferred hK, ?_⟩⟩
      refine ⟨_, results_tmp rfl _ _ _, ?_⟩
      exact ⟨_, rfl, by rw [hg]; exact HR.out, HBF.out⟩
    case stop =>
      rintro D k W hD ⟨hk, hm, hA⟩ hK
      obtain ⟨h0, ⟨v, hv, hr⟩, h2, h3, hb4⟩ := hA
      have c1 := hv.cell
      have e : (plc x y).take k = Scn.mst most (plc x y) := by
        unfold Scn.mst
        rw [if_neg (by omega), ← hm, Int.toNat_natCast]
      have HR := hid (ownsRow_putObj (l := D) hr (.deferred none) hK rfl)
      rw [e] at HR
      have HBF : Hid (Below w.heap.size w (W.putObj D (.deferred none))) := hid (by
        rw [hg]
        exact hb4.trans ⟨rfl, rfl, rfl, by simp, fun j hj => World.putObj_heap_other (by have := HI0.out.2; omega)⟩)
      clear hr h0 h2 h3 hb4 hv e
      gi_wp2
      refine ⟨by simp, .inl ⟨_, _, rfl, run_takeDeferred hK, ?_⟩⟩
      refine ⟨_, results_tmp rfl _ _ _, ?_⟩
      exact ⟨_, rfl, by rw [hg]; exact HR.out, HBF.out⟩
end Go.Proofs.Ytagjjhlegojpbaa
