/-
  The walk of the law HunksWide (wip/genoe.py).
-/
import Derived.Test.YtddmfdjkkikapaaGreatDoorGrUy
import Derived.Test.YtddmfdjkkikapaaGreatDoorOg
import Derived.Test.YtddmfdjkkikapaaGreatDoorGrKf
namespace Go.Proofs.YtddmfdjkkikapaaGreatDoor
open Go.RowKit Go.ChangeShapes Go.WideShapes Go.ChangeAt
open Hu (Rw Hk)

theorem wp_region_class2 {id : Nat} {C : World → Prop} {Q : Exit → Act → World → Prop} {a : Act} {w : World} {l : List Oper} (hm : Tryz.prog.follows .mixedOrders = true) (hB : Region.lexB .any l.toArray = true) (hC : C w.drew)
    (h : wpQuiet Tryz.prog l.toArray C (fun a' => ∀ w', C w' → Q .normal a' w') l a) : (Code.region id l.toArray true).wp Tryz.prog Q a w :=
  wp_region_quiet (C := C) hm hB hC (by simpa using h)
theorem strs_weights {H : Type} (xs : List ByteArray) : ∀ x ∈ xs, x.size ∈ DataW.weightsAll Tryz.prog 9 (strs (H := H) xs) := by
  induction xs with
  | nil => intro x hx; simp at hx
  | cons y r ih =>
    intro x hx
    show _ ∈ DataW.weights Tryz.prog 9 (DataW.lit (.string y.data.toList)) ++ DataW.weightsAll Tryz.prog 9 (strs r)
    rcases List.mem_cons.1 hx with rfl | hx
    · refine List.mem_append_left _ ?_
      rw [DataW.weights]
      have : x.data.toList.length = x.size := by rw [Array.length_toList]; rfl
      rw [this]
      exact List.mem_singleton.2 rfl
    · exact List.mem_append_right _ (ih x hx)
/-- how long each is: by the reach -/
theorem strs_each {H : Type} {d : DataW H} {xs : List ByteArray} {ts : List TypeId} {ds : List (DataW H)} {j : Nat} (h : (DataW.weightsEach Tryz.prog ts ds).all (· ≤ reachBytes) = true)
    (ht : ts[j]? = some 23) (hd : ds[j]? = some d) (hx : (xs = [] ∧ d = .nil) ∨ ∃ sp, d = .slice (strs xs) sp) : ∀ x ∈ xs, x.size ≤ 140737488351232 := by
  rcases hx with ⟨rfl, _⟩ | ⟨sp, rfl⟩
  · intro x hx; simp at hx
  · intro x hx
    have h3 : reachBytes = 140737488351232 := by decide
    have := List.all_eq_true.1 h x.size (DataW.weights_mem_each ht hd x.size (by
      rw [DataW.weights, Tryz.underlying23]
      exact List.mem_cons_of_mem _ (List.mem_append_left _ (strs_weights xs x hx))))
    simp only [decide_eq_true_eq] at this
    omega
theorem wideA_len {h : Hk} {a : List ByteArray} {ctx : Int} (hz : SzH h) (hsa : ∀ x ∈ a, x.size ≤ maxLen) : (wideA h a ctx).rows.length < 5864062014800 := by
  unfold wideA
  split
  · rename_i hn
    unfold wideN at hn
    split at hn
    · rename_i hc
      split at hn
      · rename_i hv
        unfold ctxOk at hc
        simp only [Bool.and_eq_true, decide_eq_true_eq] at hc
        exact (wideH_sz hz hv hsa hc.1 hc.2).1
      · cases hn
    · cases hn
  · decide
set_option maxHeartbeats 8000000 in
set_option maxRecDepth 100000 in
theorem hunksWide_walk {w : World} {v va : Value} {l : List Hk} {a : List ByteArray} {n : Int} (hv : RdH w v l) (hA : ArgH w v l.length) (hl : l.length < 1954687338260) (hz : ∀ h ∈ l, SzH h) (ha : RdT w va a) (hla : a.length < 8796093022200) (hsa : ∀ x ∈ a, x.size ≤ maxLen) (hg : ErrVar w) :
    Calls Tryz.prog 4 #[v, va, .int .i64 n] w fun e w' => e = .returned (.bool true) ∧ Below w.heap.size w w' := by
  obtain ⟨av, cv, rfl⟩ := hv.shape
  have HV := hid hv
  have HA := hid hA
  have HZ := hid hz
  have HG := hid hg
  have HTA := hid ha
  have HSA0 := hid hsa
  obtain ⟨L, hL⟩ : ∃ L, L = l.length := ⟨_, rfl⟩
  have HN := hid hL
  rw [← hL] at HV HA hl ⊢
  clear hv hL hz hA hg ha hsa
  go_enter Tryz.func4, Tryz.ntmps4
  go_wp2_with fail
  go_loopw [7] (fun ii wr => ∃ (k : Nat), k ≤ L ∧ ii = .int .i64 k ∧ Hid (Below w.heap.size w wr)) (fun ii _ => L - (intOf ii).toNat)
  case atStart => exact ⟨0, Nat.zero_le _, rfl, Below.refl _ _⟩
  case round =>
    obtain ⟨k, hk, rfl, HB⟩ := hrel
    by_cases hlt : k < L
    · obtain ⟨x, hx⟩ : ∃ x, l[k]? = some x := ⟨_, List.getElem?_eq_getElem (by have := HN.out; omega)⟩
      obtain ⟨b1, o1, u, e1, hb1, d0, d1, d2, d3, d4, d5, hu⟩ := rdH_at HV.out hx
      subst e1
      have HAU := hid (HA.out b1 o1 _ _ rfl k hlt u d5)
      have HSX0 := hid (HZ.out x (List.mem_of_getElem? hx))
      have HTW := hid (fun w1 (hb : Below w.heap.size w w1) => twinH_any (h := x) (hu.below hb) HAU.out HSX0.out.1)
      have HWA := hid (fun w1 v1 (hr : RdW w1 v1 x.rows) (hb : Below w.heap.size w w1) => wide_any (ctx := n) (h := x) hr (HTA.out.below hb) HSX0.out hla HSA0.out)
      have HWR := hid (fun w1 (hb : Below w.heap.size w w1) => rWide_any (ctx := n) (h := x) (hu.below hb) (HTA.out.below hb) HSX0.out hla HSA0.out)
      have HSP := hid (fun w1 v1 (hr : RdW w1 v1 x.rows) => split_any (k := n) (h := x) hr HSX0.out)
      have HSR := hid (fun w1 (hb : Below w.heap.size w w1) => rSplit_any (k := n) (h := x) (hu.below hb) HAU.out HSX0.out)
      have HSA := hid (fun w1 v1 v2 (h1 : RdH w1 v1 (splA x n)) (h2 : RdH w1 v2 (splA x n)) => sameAll_yes h1 h2 (splA_len x n) (splA_sz HSX0.out))
      have HSX := hid (fun w1 v1 v2 (h1 : RdW w1 v1 (wideA x a n).rows) (h2 : RdW w1 v2 (wideA x a n).rows) => same_yes (h := wideA x a n) h1 h2 (wideA_len HSX0.out HSA0.out))
      have HSM := hid (fun w1 v1 v2 (h1 : RdW w1 v1 x.rows) (h2 : RdW w1 v2 x.rows) => same_yes (h := x) h1 h2 HSX0.out.1)
      generalize wideN x a n = K1 at HWA HWR
      generalize wideA x a n = W at HWA HWR HSX
      generalize splN x n = K2 at HSP HSR
      generalize splA x n = J at HSP HSR HSA
      have HN1 := hid (fun w1 (hb : Below w.heap.size w w1) => num_any K1 w1 (HG.out.below hb))
      have HN2 := hid (fun w1 (hb : Below w.heap.size w w1) => num_any K2 w1 (HG.out.below hb))
      have HCL := hid (fun w1 (h : Below w.heap.size w w1) => And.intro ((h.cell (p := ⟨b1, _, none⟩) hb1).trans d0) (And.intro ((h.cell (p := ⟨b1, _, none⟩) hb1).trans d1) (And.intro ((h.cell (p := ⟨b1, _, none⟩) hb1).trans d2) (And.intro ((h.cell (p := ⟨b1, _, none⟩) hb1).trans d3) (And.intro ((h.cell (p := ⟨b1, _, none⟩) hb1).trans d4) ((h.cell (p := ⟨b1, _, none⟩) hb1).trans d5))))))
      obtain ⟨xa, xn, xb, xm, xh, xr⟩ := x
      obtain ⟨pa, pn, pb, pm, ph, pr⟩ := W
      dsimp only at HTW HWA HWR HSP HSR HSX HSM HCL hu
      obtain ⟨ua, uc, rfl⟩ := hu.shape
      obtain ⟨aa, ca, rfl⟩ := HTA.out.shape
      unfold HkV at HTW HWA HWR HSP HSR HSX HSM
      dsimp only at HTW HWA HWR HSP HSR HSX HSM
      obtain ⟨N, hN⟩ : ∃ N, N = xr.length := ⟨_, rfl⟩
      obtain ⟨M, hM⟩ : ∃ M, M = pr.length := ⟨_, rfl⟩
      obtain ⟨LA, hLA⟩ : ∃ LA, LA = a.length := ⟨_, rfl⟩
      have HNX := hid hN
      have HMX := hid hM
      have HU0 := hid hu
      rw [← hN] at HTW HWR HSR HCL
      rw [← hLA] at HWA HWR ⊢
      clear d0 d1 d2 d3 d4 d5 hb1 hx hu hN hM hLA HAU
      have i1 : (0 : Int) ≤ (k : Int) := by omega
      have i2 : (k : Int) < (L : Int) := by omega
      have z1 : ((K1 : Int) == (K1 : Int)) = true := zeq rfl
      have z2 : ((K2 : Int) == (K2 : Int)) = true := zeq rfl
      obtain ⟨d0, d1, d2, d3, d4, d5⟩ := HCL.out _ HB.out
      go_wp2_with fail
      refine (HTW.out _ HB.out).mono ?_
      rintro e w2 ⟨v2, rfl, hO2, hb2⟩
      obtain ⟨a2, c2, e2⟩ := own_shape hO2
      rw [← HNX.out] at e2
      subst e2
      have HR2 := hid (own_rd hO2)
      have HB2 := hid (HB.out.trans (hb2.mono HB.out.size))
      have hbG := (Below.refl w2.heap.size w2).alloc (Nat.le_refl _) (.cells #[.int .i64 xa, .int .i64 xn, .int .i64 xb, .int .i64 xm, .string xh, .slice a2 N c2] 37)
      have hkG := heap_alloc_new w2 (.cells #[.int .i64 xa, .int .i64 xn, .int .i64 xb, .int .i64 xm, .string xh, .slice a2 N c2] 37)
      have q0 := cell_of_blk hkG 0
      have q1 := cell_of_blk hkG 1
      have q2 := cell_of_blk hkG 2
      have q3 := cell_of_blk hkG 3
      have q4 := cell_of_blk hkG 4
      have q5 := cell_of_blk hkG 5
      clear hO2 hb2 d0 d1 d2 d3 d4 d5
      go_wp2_with fail
      clear q0 q1 q2 q3 q4 q5
      obtain ⟨G, hG⟩ : ∃ G, G = w2.heap.size := ⟨_, rfl⟩
      have HB3 := hid (HB2.out.trans (hbG.mono HB2.out.size))
      have HR3 := hid (HR2.out.below hbG)
      have HK3 := hid hkG
      rw [← hG] at HK3 ⊢
      generalize w2.alloc (.cells #[.int .i64 xa, .int .i64 xn, .int .i64 xb, .int .i64 xm, .string xh, .slice a2 N c2] 37) = w3 at HB3 HR3 HK3 ⊢
      clear hG hbG hkG HR2 HB2
      refine (HWA.out _ _ HR3.out HB3.out).mono ?_
      rintro e w4 ⟨v4, rfl, hO4, hb4⟩
      obtain ⟨a4, c4, e4⟩ := own_shape hO4
      rw [← HMX.out] at e4
      subst e4
      have HX4 := hid (own_rd hO4)
      have HB4 := hid (HB3.out.trans (hb4.mono HB3.out.size))
      have HR4 := hid (HR3.out.below hb4)
      have HK4 := hid ((hb4.block G (lt_of_heap HK3.out)).trans HK3.out)
      clear hO4 hb4 HB3 HR3 HK3
      have hbX := (Below.refl w4.heap.size w4).alloc (Nat.le_refl _) (.cells #[.int .i64 pa, .int .i64 pn, .int .i64 pb, .int .i64 pm, .string ph, .slice a4 M c4] 37)
      have hkX := heap_alloc_new w4 (.cells #[.int .i64 pa, .int .i64 pn, .int .i64 pb, .int .i64 pm, .string ph, .slice a4 M c4] 37)
      obtain ⟨d0, d1, d2, d3, d4, d5⟩ := HCL.out _ (HB4.out.trans (hbX.mono HB4.out.size))
      go_wp2_with fail
      clear d0 d1 d2 d3 d4 d5
      obtain ⟨XB, hXB⟩ : ∃ XB, XB = w4.heap.size := ⟨_, rfl⟩
      rw [← hXB] at hkX ⊢
      have HB5 := hid (HB4.out.trans (hbX.mono HB4.out.size))
      have HX5 := hid (HX4.out.below hbX)
      have HR5 := hid (HR4.out.below hbX)
      have HK5 := hid ((hbX.block G (lt_of_heap HK4.out)).trans HK4.out)
      have HXB5 := hid hkX
      clear hXB hbX hkX HB4 HX4 HR4 HK4
      generalize w4.alloc (.cells #[.int .i64 pa, .int .i64 pn, .int .i64 pb, .int .i64 pm, .string ph, .slice a4 M c4] 37) = w5 at HB5 HX5 HR5 HK5 HXB5 ⊢
      refine (HWR.out _ HB5.out).mono ?_
      rintro e w6 ⟨v6, rfl, hO6, hb6⟩
      obtain ⟨a5, c5, e6⟩ := own_shape hO6
      rw [← HMX.out] at e6
      subst e6
      have HY6 := hid (own_rd hO6)
      have HB6 := hid (HB5.out.trans (hb6.mono HB5.out.size))
      have HX6 := hid (HX5.out.below hb6)
      have HR6 := hid (HR5.out.below hb6)
      have HK6 := hid ((hb6.block G (lt_of_heap HK5.out)).trans HK5.out)
      have HXB6 := hid ((hb6.block XB (lt_of_heap HXB5.out)).trans HXB5.out)
      clear hO6 hb6 HB5 HX5 HR5 HK5 HXB5
      have hbY := (Below.refl w6.heap.size w6).alloc (Nat.le_refl _) (.cells #[.int .i64 pa, .int .i64 pn, .int .i64 pb, .int .i64 pm, .string ph, .slice a5 M c5] 37)
      have hkY := heap_alloc_new w6 (.cells #[.int .i64 pa, .int .i64 pn, .int .i64 pb, .int .i64 pm, .string ph, .slice a5 M c5] 37)
      have hGY := (hbY.block G (lt_of_heap HK6.out)).trans HK6.out
      have q0 := cell_of_blk hGY 0
      have q1 := cell_of_blk hGY 1
      have q2 := cell_of_blk hGY 2
      have q3 := cell_of_blk hGY 3
      have q4 := cell_of_blk hGY 4
      have q5 := cell_of_blk hGY 5
      go_wp2_with fail
      clear q0 q1 q2 q3 q4 q5
      obtain ⟨YB, hYB⟩ : ∃ YB, YB = w6.heap.size := ⟨_, rfl⟩
      rw [← hYB] at hkY ⊢
      have HB8 := hid (HB6.out.trans (hbY.mono HB6.out.size))
      have HX8 := hid (HX6.out.below hbY)
      have HY8 := hid (HY6.out.below hbY)
      have HR8 := hid (HR6.out.below hbY)
      have HK8 := hid hGY
      have HXB8 := hid ((hbY.block XB (lt_of_heap HXB6.out)).trans HXB6.out)
      have HYB8 := hid hkY
      clear hYB hbY hkY hGY HB6 HX6 HY6 HR6 HK6 HXB6
      generalize w6.alloc (.cells #[.int .i64 pa, .int .i64 pn, .int .i64 pb, .int .i64 pm, .string ph, .slice a5 M c5] 37) = w8 at HB8 HX8 HY8 HR8 HK8 HXB8 HYB8 ⊢
      refine (HSP.out _ _ HR8.out).mono ?_
      rintro e w9 ⟨v9, rfl, hO9, hb9⟩
      obtain ⟨a9, c9, e9⟩ := hO9.shape
      subst e9
      have HP9 := hid hO9.rd
      have HB9 := hid (HB8.out.trans (hb9.mono HB8.out.size))
      have HX9 := hid (HX8.out.below hb9)
      have HY9 := hid (HY8.out.below hb9)
      have HR9 := hid (HR8.out.below hb9)
      have HK9 := hid ((hb9.block G (lt_of_heap HK8.out)).trans HK8.out)
      have HXB9 := hid ((hb9.block XB (lt_of_heap HXB8.out)).trans HXB8.out)
      have HYB9 := hid ((hb9.block YB (lt_of_heap HYB8.out)).trans HYB8.out)
      clear hO9 hb9 HB8 HX8 HY8 HR8 HK8 HXB8 HYB8
      obtain ⟨d0, d1, d2, d3, d4, d5⟩ := HCL.out _ HB9.out
      go_wp2_with fail
      clear d0 d1 d2 d3 d4 d5
      refine (HSR.out _ HB9.out).mono ?_
      rintro e w7 ⟨v7, rfl, hO7, hb7⟩
      obtain ⟨a7, c7, e7⟩ := hO7.shape
      subst e7
      have HQ7 := hid hO7
      have HBW := hid (HB9.out.trans (hb7.mono HB9.out.size))
      have HP7 := hid (HP9.out.below hb7)
      have HX7 : Hid (RdW w7 (.slice a4 M c4) pr) := hid (HX9.out.below hb7)
      have HY7 : Hid (RdW w7 (.slice a5 M c5) pr) := hid (HY9.out.below hb7)
      have HR7 : Hid (RdW w7 (.slice a2 N c2) xr) := hid (HR9.out.below hb7)
      have HU7 : Hid (RdW w7 (.slice ua N uc) xr) := hid (by have h := HU0.out.below HBW.out; rw [← HNX.out] at h; show RdX _ _ xr.length _; rw [← HNX.out]; exact h)
      have HK7 := hid ((hb7.block G (lt_of_heap HK9.out)).trans HK9.out)
      have HXB7 := hid ((hb7.block XB (lt_of_heap HXB9.out)).trans HXB9.out)
      have HYB7 := hid ((hb7.block YB (lt_of_heap HYB9.out)).trans HYB9.out)
      clear hO7 hb7 HB9 HX9 HY9 HR9 HP9 HK9 HXB9 HYB9
      have HCQ : Hid (∀ w1, Below w7.heap.size w7 w1 → (w1.cell? ⟨G, 0, none⟩ = some (.int .i64 xa) ∧ w1.cell? ⟨G, 1, none⟩ = some (.int .i64 xn) ∧ w1.cell? ⟨G, 2, none⟩ = some (.int .i64 xb) ∧ w1.cell? ⟨G, 3, none⟩ = some (.int .i64 xm) ∧ w1.cell? ⟨G, 4, none⟩ = some (.string xh) ∧ w1.cell? ⟨G, 5, none⟩ = some (.slice a2 N c2)) ∧ (w1.cell? ⟨XB, 0, none⟩ = some (.int .i64 pa) ∧ w1.cell? ⟨XB, 1, none⟩ = some (.int .i64 pn) ∧ w1.cell? ⟨XB, 2, none⟩ = some (.int .i64 pb) ∧ w1.cell? ⟨XB, 3, none⟩ = some (.int .i64 pm) ∧ w1.cell? ⟨XB, 4, none⟩ = some (.string ph) ∧ w1.cell? ⟨XB, 5, none⟩ = some (.slice a4 M c4)) ∧ (w1.cell? ⟨YB, 0, none⟩ = some (.int .i64 pa) ∧ w1.cell? ⟨YB, 1, none⟩ = some (.int .i64 pn) ∧ w1.cell? ⟨YB, 2, none⟩ = some (.int .i64 pb) ∧ w1.cell? ⟨YB, 3, none⟩ = some (.int .i64 pm) ∧ w1.cell? ⟨YB, 4, none⟩ = some (.string ph) ∧ w1.cell? ⟨YB, 5, none⟩ = some (.slice a5 M c5)) ∧ (w1.cell? ⟨b1, o1 + k * 6, none⟩ = some (.int .i64 xa) ∧ w1.cell? ⟨b1, o1 + k * 6 + 1, none⟩ = some (.int .i64 xn) ∧ w1.cell? ⟨b1, o1 + k * 6 + 2, none⟩ = some (.int .i64 xb) ∧ w1.cell? ⟨b1, o1 + k * 6 + 3, none⟩ = some (.int .i64 xm) ∧ w1.cell? ⟨b1, o1 + k * 6 + 4, none⟩ = some (.string xh) ∧ w1.cell? ⟨b1, o1 + k * 6 + 5, none⟩ = some (.slice ua N uc))) := hid (fun w1 hb => by
        have h1 := (hb.block G (lt_of_heap HK7.out)).trans HK7.out
        have h2 := (hb.block XB (lt_of_heap HXB7.out)).trans HXB7.out
        have h3 := (hb.block YB (lt_of_heap HYB7.out)).trans HYB7.out
        exact ⟨⟨cell_of_blk h1 0, cell_of_blk h1 1, cell_of_blk h1 2, cell_of_blk h1 3, cell_of_blk h1 4, cell_of_blk h1 5⟩, ⟨cell_of_blk h2 0, cell_of_blk h2 1, cell_of_blk h2 2, cell_of_blk h2 3, cell_of_blk h2 4, cell_of_blk h2 5⟩, ⟨cell_of_blk h3 0, cell_of_blk h3 1, cell_of_blk h3 2, cell_of_blk h3 3, cell_of_blk h3 4, cell_of_blk h3 5⟩, HCL.out _ (HBW.out.trans (hb.mono HBW.out.size))⟩)
      clear HK7 HXB7 HYB7
      go_wp2_with fail
      refine wp_region_class2 (C := fun w' => Below w7.heap.size w7 w') (by kernel_rfl) (by kernel_rfl) (below_drewN (Below.refl _ _) 1) ?_
      refine wpQuiet_step (fun K hK => ?_)
      refine ⟨.agg #[.int .i64 pa, .int .i64 pn, .int .i64 pb, .int .i64 pm, .string ph, .slice a4 M c4], fun w' hw' => ?_, hK _ ?_⟩
      · obtain ⟨⟨g0, g1, g2, g3, g4, g5⟩, ⟨x0, x1, x2, x3, x4, x5⟩, ⟨y0, y1, y2, y3, y4, y5⟩, d0, d1, d2, d3, d4, d5⟩ := HCQ.out w' hw'
        go_simp
      clear hK K
      refine wpQuiet_step (fun K hK => ?_)
      refine ⟨.agg #[.int .i64 pa, .int .i64 pn, .int .i64 pb, .int .i64 pm, .string ph, .slice a5 M c5], fun w' hw' => ?_, hK _ ?_⟩
      · obtain ⟨⟨g0, g1, g2, g3, g4, g5⟩, ⟨x0, x1, x2, x3, x4, x5⟩, ⟨y0, y1, y2, y3, y4, y5⟩, d0, d1, d2, d3, d4, d5⟩ := HCQ.out w' hw'
        go_simp
      clear hK K
      refine wpQuiet_step (fun K hK => ?_)
      refine ⟨.bool true, fun w' hw' => ?_, hK _ ?_⟩
      · go_simp
        refine (HSX.out _ _ _ (HX7.out.below hw') (HY7.out.below hw')).mono ?_
        rintro r wn ⟨rfl, hbn⟩
        exact ⟨rfl, hw'.trans (hbn.mono hw'.size)⟩
      clear hK K
      refine wpQuiet_step (fun K hK => ?_)
      go_simp
      refine ⟨_, fun _ _ => rfl, hK _ ?_⟩
      clear hK K
      refine wpQuiet_step (fun K hK => ?_)
      go_simp
      refine ⟨_, fun _ _ => rfl, hK _ ?_⟩
      clear hK K
      refine wpQuiet_step (fun K hK => ?_)
      go_simp
      refine ⟨_, fun _ _ => rfl, hK _ ?_⟩
      clear hK K
      refine wpQuiet_step (fun K hK => ?_)
      rw [if_pos (by rfl)]
      refine ⟨.int .i64 (K1 : Nat), fun w' hw' => ?_, hK _ ?_⟩
      · go_simp
        refine (HN1.out _ (HBW.out.trans (hw'.mono HBW.out.size))).mono ?_
        rintro r wn ⟨rfl, hbn⟩
        exact ⟨rfl, hw'.trans (hbn.mono hw'.size)⟩
      clear hK K
      refine wpQuiet_step (fun K hK => ?_)
      go_simp
      refine ⟨_, fun _ _ => rfl, hK _ ?_⟩
      clear hK K
      refine wpQuiet_step (fun K hK => ?_)
      go_simp
      refine ⟨_, fun _ _ => rfl, hK _ ?_⟩
      clear hK K
      refine wpQuiet_step (fun K hK => ?_)
      go_simp
      refine ⟨_, fun _ _ => rfl, hK _ ?_⟩
      clear hK K
      refine wpQuiet_step (fun K hK => ?_)
      go_simp
      refine ⟨_, fun _ _ => rfl, hK _ ?_⟩
      clear hK K
      refine wpQuiet_step (fun K hK => ?_)
      go_simp
      refine ⟨_, fun _ _ => rfl, hK _ ?_⟩
      clear hK K
      refine wpQuiet_step (fun K hK => ?_)
      go_simp
      refine ⟨_, fun _ _ => rfl, hK _ ?_⟩
      clear hK K
      refine wpQuiet_step (fun K hK => ?_)
      rw [if_pos (by rfl)]
      refine ⟨.bool true, fun w' hw' => ?_, hK _ ?_⟩
      · go_simp
        refine (HSA.out _ _ _ (HP7.out.below hw') (HQ7.out.below hw')).mono ?_
        rintro r wn ⟨rfl, hbn⟩
        exact ⟨rfl, hw'.trans (hbn.mono hw'.size)⟩
      clear hK K
      refine wpQuiet_step (fun K hK => ?_)
      go_simp
      refine ⟨_, fun _ _ => rfl, hK _ ?_⟩
      clear hK K
      refine wpQuiet_step (fun K hK => ?_)
      go_simp
      refine ⟨_, fun _ _ => rfl, hK _ ?_⟩
      clear hK K
      refine wpQuiet_step (fun K hK => ?_)
      go_simp
      refine ⟨_, fun _ _ => rfl, hK _ ?_⟩
      clear hK K
      refine wpQuiet_step (fun K hK => ?_)
      go_simp
      refine ⟨_, fun _ _ => rfl, hK _ ?_⟩
      clear hK K
      refine wpQuiet_step (fun K hK => ?_)
      rw [if_pos (by rfl)]
      refine ⟨.int .i64 (K2 : Nat), fun w' hw' => ?_, hK _ ?_⟩
      · go_simp
        refine (HN2.out _ (HBW.out.trans (hw'.mono HBW.out.size))).mono ?_
        rintro r wn ⟨rfl, hbn⟩
        exact ⟨rfl, hw'.trans (hbn.mono hw'.size)⟩
      clear hK K
      refine wpQuiet_step (fun K hK => ?_)
      go_simp
      refine ⟨_, fun _ _ => rfl, hK _ ?_⟩
      clear hK K
      refine wpQuiet_step (fun K hK => ?_)
      go_simp
      refine ⟨_, fun _ _ => rfl, hK _ ?_⟩
      clear hK K
      refine wpQuiet_step (fun K hK => ?_)
      go_simp
      refine ⟨_, fun _ _ => rfl, hK _ ?_⟩
      clear hK K
      refine wpQuiet_step (fun K hK => ?_)
      go_simp
      refine ⟨_, fun _ _ => rfl, hK _ ?_⟩
      clear hK K
      refine wpQuiet_step (fun K hK => ?_)
      rw [if_pos (by rfl)]
      refine ⟨.agg #[.int .i64 xa, .int .i64 xn, .int .i64 xb, .int .i64 xm, .string xh, .slice a2 N c2], fun w' hw' => ?_, hK _ ?_⟩
      · obtain ⟨⟨g0, g1, g2, g3, g4, g5⟩, ⟨x0, x1, x2, x3, x4, x5⟩, ⟨y0, y1, y2, y3, y4, y5⟩, d0, d1, d2, d3, d4, d5⟩ := HCQ.out w' hw'
        go_simp
      clear hK K
      refine wpQuiet_step (fun K hK => ?_)
      go_simp
      refine ⟨_, fun _ _ => rfl, hK _ ?_⟩
      clear hK K
      refine wpQuiet_step (fun K hK => ?_)
      go_simp
      refine ⟨_, fun _ _ => rfl, hK _ ?_⟩
      clear hK K
      refine wpQuiet_step (fun K hK => ?_)
      go_simp
      refine ⟨_, fun _ _ => rfl, hK _ ?_⟩
      clear hK K
      refine wpQuiet_step (fun K hK => ?_)
      rw [if_pos (by rfl)]
      refine ⟨.agg #[.int .i64 xa, .int .i64 xn, .int .i64 xb, .int .i64 xm, .string xh, .slice ua N uc], fun w' hw' => ?_, hK _ ?_⟩
      · obtain ⟨⟨g0, g1, g2, g3, g4, g5⟩, ⟨x0, x1, x2, x3, x4, x5⟩, ⟨y0, y1, y2, y3, y4, y5⟩, d0, d1, d2, d3, d4, d5⟩ := HCQ.out w' hw'
        go_simp
      clear hK K
      refine wpQuiet_step (fun K hK => ?_)
      rw [if_pos (by rfl)]
      refine ⟨.bool true, fun w' hw' => ?_, hK _ ?_⟩
      · go_simp
        refine (HSM.out _ _ _ (HR7.out.below hw') (HU7.out.below hw')).mono ?_
        rintro r wn ⟨rfl, hbn⟩
        exact ⟨rfl, hw'.trans (hbn.mono hw'.size)⟩
      clear hK K
      refine wpQuiet_step (fun K hK => ?_)
      go_simp
      refine ⟨_, fun _ _ => rfl, hK _ ?_⟩
      clear hK K
      refine wpQuiet_step (fun K hK => ?_)
      go_simp
      refine ⟨_, fun _ _ => rfl, hK _ ?_⟩
      clear hK K
      refine wpQuiet_nil ?_
      intro w8 hb8
      have HB8 := hid (HBW.out.trans (hb8.mono HBW.out.size))
      clear hb8
      go_wp2_with fail
      go_roundw
      case rel => exact ⟨k + 1, by omega, by go_num, HB8⟩
      case measure => simp [intOf]; omega
    · obtain rfl : k = L := by omega
      go_wp2_with fail
      refine (works_any wr (HG.out.below HB.out)).mono ?_
      rintro e w7 ⟨rfl, hb7⟩
      have HB7 := hid (HB.out.trans (hb7.mono HB.out.size))
      clear hb7
      go_wp2_with fail
      go_ret
      exact ⟨rfl, HB7.out⟩
end Go.Proofs.YtddmfdjkkikapaaGreatDoor
