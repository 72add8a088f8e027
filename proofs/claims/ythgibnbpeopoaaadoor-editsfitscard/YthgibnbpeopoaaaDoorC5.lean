/-
  The walk of Apply.
-/
import Derived.Test.YthgibnbpeopoaaaDoorC4
import Derived.Laws.CopyOwn
namespace Go.Proofs.YthgibnbpeopoaaaDoor
open Go.RowKit
open Ed (Ch Run Pr)

theorem take_d {P : Program} {ops : Array Oper} {Q : Exit → Act → World → Prop} {md : Region.Mode} {S : World → Prop} {i : Nat} {oi : Oper} {v : Value} {fuel : Nat} {listed : Array Bool} {t : Array Value} {df : List Deferred} {w : World} (d : Nat) (hi : ops[i]? = some oi) (hd : oi.dst = some d)
    (hs : Region.noSelect ops = true) (hf : Region.free md ops listed i = true) (hr : (Region.ready md ops listed).contains i = true)
    (hQ : ∀ c a w, Q (.panic c) (a.put oi.dst v) w → Q (.panic c) a w) (hy : YieldsIf P ops S oi v ⟨t, df⟩) (hS : S w)
    (h : wpAnyH P md ops Q S fuel (listed.setIfInBounds i true) ⟨t.setIfInBounds d v, df⟩ w) : wpAnyH P md ops Q S (fuel + 1) listed ⟨t, df⟩ w :=
  wpAnyH_take hi hs hf hr hQ hy hS (by unfold Act.put; rw [hd]; exact h)
theorem wp_copy {P : Program} {o : Oper} {a : Act} {w : World} {K : Act → World → Prop} {Q : Exit → Act → World → Prop}
    (d s : Operand) (dT sT : TypeId) (ho : o.op = .call { callee := .builtin .copy, args := #[d, s], argTypes := #[dT, sT] }) (elem : TypeId) (hu : P.underlying dT = some (.slice elem)) (hsz : (P.info? elem).map (·.size) = some 1)
    (g off dLen dCap : Nat) (ad : Addr) (sLen sCap : Nat) (hd : a.eval d = .slice (some ⟨g, off, none⟩) dLen dCap) (hs : a.eval s = .slice (some ad) sLen sCap)
    (cur : Array Value) (t : TypeId) (hg : w.heap[g]? = some (.cells cur t (0, 0))) (cs : List Value) (hn : cs.length = Nat.min sLen dLen)
    (hsrc : ∀ j v, cs[j]? = some v → w.cell? (ad.add j) = some v) (hfit : off + cs.length ≤ cur.size) (h1 : ∀ v ∈ cs, v.oneCell' = true) (R : Array Value) (hR : (cur.toList.take off ++ (cs ++ cur.toList.drop (off + cs.length))).toArray = R)
    (hK : ∀ u, K (a.put o.dst u) (w.setRow g R)) : Oper.wp P o a w K Q := by
  have hrun := run_copy_row (P := P) w dT sT o.type elem g off dLen dCap ad sLen sCap cur t cs hu hsz hg hn hsrc hfit h1
  subst hR
  unfold Oper.wp
  simp [execOp, ho, resolve, invoke, builtin, hd, hs, hrun, Result.andThen]
  exact hK _
theorem setRow_heap (w : World) (g : Nat) (cur R : Array Value) (t : TypeId) (h : w.heap[g]? = some (.cells cur t)) : (w.setRow g R).heap[g]? = some (.cells R t) := by
  have hl := lt_of_heap h
  have he : w.heap[g] = .cells cur t := by rw [Array.getElem?_eq_getElem hl] at h; exact Option.some.inj h
  simp [World.setRow, hl, Array.getElem_modify, he]
theorem setRow_other (w : World) {g j : Nat} (R : Array Value) (h : j ≠ g) : (w.setRow g R).heap[j]? = w.heap[j]? := by
  simp [World.setRow, Array.getElem?_modify, Ne.symm h]
theorem setRow_size (w : World) (g : Nat) (R : Array Value) : (w.setRow g R).heap.size = w.heap.size := by simp [World.setRow]

def IRow (w : World) (g : Nat) (l : List Int) : Prop := w.heap[g]? = some (.cells (isC l).toArray 3)
/-- what Apply's function keeps -/
def ApI (va : Value) (a b : List Int) (gm bm ba : Nat) (B : Nat) (d : List Run) (X : Nat → Prop) (w : World) : Prop :=
  IRow w gm (Ed.apP d a b) ∧ w.cell? ⟨bm, 0, none⟩ = some (.slice (some ⟨gm, 0, none⟩) b.length b.length) ∧ w.cell? ⟨ba, 0, none⟩ = some va ∧ RdI w va a ∧ Under B va ∧ (Ed.apP d a b).length = b.length ∧ bm ≠ gm ∧ ba ≠ gm ∧ B ≤ gm ∧ X = fun k => k = gm
theorem ApI.later {va : Value} {a b : List Int} {gm bm ba B : Nat} {d : List Run} {X : Nat → Prop} {w w' : World} (h : ApI va a b gm bm ba B d X w) (hb : Below w.heap.size w w') : ApI va a b gm bm ba B d X w' := by
  obtain ⟨h1, h2, h3, h4, h5⟩ := h
  exact ⟨(hb.block gm (lt_of_heap h1)).trans h1, (hb.cell (p := ⟨bm, 0, none⟩) (lt_of_cell h2)).trans h2, (hb.cell (p := ⟨ba, 0, none⟩) (lt_of_cell h3)).trans h3, h4.below hb, h5⟩
theorem isC_take (l : List Int) (k : Nat) : (isC l).take k = isC (l.take k) := (List.map_take ..).symm
theorem isC_drop (l : List Int) (k : Nat) : (isC l).drop k = isC (l.drop k) := (List.map_drop ..).symm
theorem put_isC (a l : List Int) (x y k : Nat) (hx : x + k ≤ a.length) : ((isC l).toArray.toList.take y ++ (isC (Ed.sl a x k) ++ (isC l).toArray.toList.drop (y + (isC (Ed.sl a x k)).length))).toArray = (isC (Ed.put a l (x, y, k))).toArray := by
  have hlen : (isC (Ed.sl a x k)).length = k := by
    rw [isC_length]
    have := Ed.sl_length (l := a) (i := x) (k := k) (by omega) (by omega) (by omega)
    omega
  rw [hlen, List.toList_toArray, isC_take, isC_drop, ← isC_append, ← isC_append]
  unfold Ed.put
  simp only
  rw [show ((y : Int)).toNat = y by omega, show ((y : Int) + (k : Int)).toNat = y + k by omega, List.append_assoc]

set_option maxHeartbeats 4000000 in
set_option maxRecDepth 100000 in
theorem applyF_any {va : Value} {a b : List Int} {gm bm ba B : Nat} {d : List Run} {X : Nat → Prop} {r : Run} {w : World} (hI : ApI va a b gm bm ba B d X w) (hr : RunB a.length b.length r) (ha : a.length ≤ 4194304) (hb : b.length ≤ 4194304) (hB : B ≤ w.heap.size) :
    Calls Tryd.prog 29 #[rV r, .pointer (some ⟨bm, 0, none⟩), .pointer (some ⟨ba, 0, none⟩)] w fun e w' => e = .returned (.tuple #[]) ∧ Kept X w w' ∧ ∃ X', ApI va a b gm bm ba B (d ++ [r]) X' w' := by
  obtain ⟨h1, h2, h3, h4, h5, h6, h7, h8, h9, rfl⟩ := hI
  obtain ⟨r1, r2, r3, r4, r5⟩ := hr
  obtain ⟨x, y, k⟩ := r
  obtain ⟨x, rfl⟩ := Int.eq_ofNat_of_zero_le r1
  obtain ⟨y, rfl⟩ := Int.eq_ofNat_of_zero_le r2
  obtain ⟨k, rfl⟩ := Int.eq_ofNat_of_zero_le (Int.le_of_lt r3)
  simp only at r1 r2 r3 r4 r5
  have e5 : x + k ≤ a.length := by omega
  have e6 : y + k ≤ b.length := by omega
  have hk0 : 0 < k := by omega
  obtain ⟨va', vc, rfl⟩ := h4.shape
  obtain ⟨z, hz⟩ : ∃ z, a[0]? = some z := ⟨_, List.getElem?_eq_getElem (by omega)⟩
  obtain ⟨ab, ao, rfl, hablt, _⟩ := rdI_at h4 hz
  have hac : a.length ≤ vc := by
    rcases h4 with ⟨h, _⟩ | ⟨b', o', c', hv, hc, _⟩
    · omega
    · cases hv; exact hc
  have hab : ab < B := h5 ab ao a.length vc rfl (by omega)
  have hsz : (Tryd.prog.info? 3).map (·.size) = some 1 := by kernel_rfl
  have hbA : Below w.heap.size w (w.alloc (.cells #[.int .i64 x, .int .i64 y, .int .i64 k] 68)) := (Below.refl _ _).alloc (Nat.le_refl _) _
  have hR : (w.alloc (.cells #[.int .i64 x, .int .i64 y, .int .i64 k] 68)).heap[w.heap.size]? = some (.cells #[.int .i64 x, .int .i64 y, .int .i64 k] 68) := heap_alloc_new w _
  unfold rV
  have H1 := hid h1
  have H4 := hid h4
  have H5 := hid h5
  clear h1 h4 h5 hz
  go_enter Tryd.func29, Tryd.ntmps29
  go_wp2_with fail
  generalize (w.alloc (.cells #[.int .i64 x, .int .i64 y, .int .i64 k] 68)) = w1 at hbA hR ⊢
  have c0 : w1.cell? ⟨w.heap.size, 0, none⟩ = some (.int .i64 x) := cell_of_blk hR 0
  have c1 : w1.cell? ⟨w.heap.size, 1, none⟩ = some (.int .i64 y) := cell_of_blk hR 1
  have c2 : w1.cell? ⟨w.heap.size, 2, none⟩ = some (.int .i64 k) := cell_of_blk hR 2
  have d1 : w1.cell? ⟨bm, 0, none⟩ = some (.slice (some ⟨gm, 0, none⟩) b.length b.length) := (hbA.cell (p := ⟨bm, 0, none⟩) (lt_of_cell h2)).trans h2
  have d2 : w1.cell? ⟨ba, 0, none⟩ = some (.slice (some ⟨ab, ao, none⟩) a.length vc) := (hbA.cell (p := ⟨ba, 0, none⟩) (lt_of_cell h3)).trans h3
  have hgm1 : IRow w1 gm (Ed.apP d a b) := (hbA.block gm (lt_of_heap H1.out)).trans H1.out
  have HG1 := hid hgm1
  have HA1 := hid (H4.out.below hbA)
  have HBA := hid hbA
  have HH2 := hid h2
  have HH3 := hid h3
  clear hR hgm1 hbA h2 h3
  obtain ⟨wb, hwb⟩ : ∃ wb, wb = w.heap.size := ⟨_, rfl⟩
  rw [← hwb] at c0 c1 c2 ⊢
  have HWB := hid hwb
  have i1 : (0 : Int) ≤ (y : Int) := by omega
  have i2 : (y : Int) ≤ (b.length : Int) := by omega
  have i3 : (0 : Int) ≤ (x : Int) := by omega
  have i4 : (x : Int) ≤ (x : Int) + (k : Int) := by omega
  have i5 : (x : Int) + (k : Int) ≤ (vc : Int) := by omega
  have i6 : IntKind.i64.wrap ((x : Int) + (k : Int)) = (x : Int) + (k : Int) := wrapOk (by omega) (by omega)
  clear hwb r3 r4 r5
  refine region_lastL (S := fun w' => w'.cell? ⟨bm, 0, none⟩ = some (.slice (some ⟨gm, 0, none⟩) b.length b.length) ∧ w'.cell? ⟨ba, 0, none⟩ = some (.slice (some ⟨ab, ao, none⟩) a.length vc) ∧ w'.cell? ⟨wb, 0, none⟩ = some (.int .i64 (x : Int)) ∧ w'.cell? ⟨wb, 1, none⟩ = some (.int .i64 (y : Int)) ∧ w'.cell? ⟨wb, 2, none⟩ = some (.int .i64 (k : Int))) (by simp) (by kernel_rfl) (by kernel_rfl) ?S0 (fun hHeld => ?M0)
  case S0 => simp [*]
  refine take_d (i := 0) (v := ?v0) 4 rfl rfl (by kernel_rfl) (by kernel_rfl) (by kernel_rfl) (fun _ _ _ h => h) (Or.inl ⟨by rfl, fun ww hSw => ?y0⟩) hHeld ?r0
  case y0 => (dsimp only at hSw; go_simp; with_reducible rfl)
  simp only [List.setIfInBounds_toArray]
  simp only [List.set]
  refine take_d (i := 1) (v := ?v1) 5 rfl rfl (by kernel_rfl) (by kernel_rfl) (by kernel_rfl) (fun _ _ _ h => h) (Or.inl ⟨by rfl, fun ww hSw => ?y1⟩) hHeld ?r1
  case y1 => (dsimp only at hSw; go_simp; with_reducible rfl)
  simp only [List.setIfInBounds_toArray]
  simp only [List.set]
  refine take_d (i := 2) (v := ?v2) 6 rfl rfl (by kernel_rfl) (by kernel_rfl) (by kernel_rfl) (fun _ _ _ h => h) (Or.inl ⟨by rfl, fun ww hSw => ?y2⟩) hHeld ?r2
  case y2 => (dsimp only at hSw; go_simp; with_reducible rfl)
  simp only [List.setIfInBounds_toArray]
  simp only [List.set]
  refine take_d (i := 3) (v := ?v3) 7 rfl rfl (by kernel_rfl) (by kernel_rfl) (by kernel_rfl) (fun _ _ _ h => h) (Or.inl ⟨by rfl, fun ww hSw => ?y3⟩) hHeld ?r3
  case y3 => (dsimp only at hSw; go_simp; with_reducible rfl)
  simp only [List.setIfInBounds_toArray]
  simp only [List.set]
  refine take_d (i := 4) (v := ?v4) 8 rfl rfl (by kernel_rfl) (by kernel_rfl) (by kernel_rfl) (fun _ _ _ h => h) (Or.inl ⟨by rfl, fun ww hSw => ?y4⟩) hHeld ?r4
  case y4 => (dsimp only at hSw; go_simp; with_reducible rfl)
  simp only [List.setIfInBounds_toArray]
  simp only [List.set]
  refine take_d (i := 5) (v := ?v5) 9 rfl rfl (by kernel_rfl) (by kernel_rfl) (by kernel_rfl) (fun _ _ _ h => h) (Or.inl ⟨by rfl, fun ww hSw => ?y5⟩) hHeld ?r5
  case y5 => (dsimp only at hSw; go_simp; with_reducible rfl)
  simp only [List.setIfInBounds_toArray]
  simp only [List.set]
  refine take_d (i := 6) (v := ?v6) 10 rfl rfl (by kernel_rfl) (by kernel_rfl) (by kernel_rfl) (fun _ _ _ h => h) (Or.inl ⟨by rfl, fun ww hSw => ?y6⟩) hHeld ?r6
  case y6 => (dsimp only at hSw; go_simp; with_reducible rfl)
  simp only [List.setIfInBounds_toArray]
  simp only [List.set]
  refine take_d (i := 7) (v := ?v7) 11 rfl rfl (by kernel_rfl) (by kernel_rfl) (by kernel_rfl) (fun _ _ _ h => h) (Or.inl ⟨by rfl, fun ww hSw => ?y7⟩) hHeld ?r7
  case y7 => (dsimp only at hSw; go_simp; with_reducible rfl)
  simp only [List.setIfInBounds_toArray]
  simp only [List.set]
  refine take_d (i := 8) (v := ?v8) 12 rfl rfl (by kernel_rfl) (by kernel_rfl) (by kernel_rfl) (fun _ _ _ h => h) (Or.inl ⟨by rfl, fun ww hSw => ?y8⟩) hHeld ?r8
  case y8 => (dsimp only at hSw; go_simp; with_reducible rfl)
  simp only [List.setIfInBounds_toArray]
  simp only [List.set]
  refine take_d (i := 9) (v := ?v9) 13 rfl rfl (by kernel_rfl) (by kernel_rfl) (by kernel_rfl) (fun _ _ _ h => h) (Or.inl ⟨by rfl, fun ww hSw => ?y9⟩) hHeld ?r9
  case y9 => (dsimp only at hSw; go_simp; with_reducible rfl)
  simp only [List.setIfInBounds_toArray]
  simp only [List.set]
  refine take_d (i := 10) (v := ?v10) 14 rfl rfl (by kernel_rfl) (by kernel_rfl) (by kernel_rfl) (fun _ _ _ h => h) (Or.inl ⟨by rfl, fun ww hSw => ?y10⟩) hHeld ?r10
  case y10 => (dsimp only at hSw; go_simp; with_reducible rfl)
  simp only [List.setIfInBounds_toArray]
  simp only [List.set]
  refine take_d (i := 11) (v := ?v11) 15 rfl rfl (by kernel_rfl) (by kernel_rfl) (by kernel_rfl) (fun _ _ _ h => h) (Or.inl ⟨by rfl, fun ww hSw => ?y11⟩) hHeld ?r11
  case y11 => (dsimp only at hSw; go_simp; with_reducible rfl)
  simp only [List.setIfInBounds_toArray]
  simp only [List.set]
  refine take_d (i := 12) (v := ?v12) 16 rfl rfl (by kernel_rfl) (by kernel_rfl) (by kernel_rfl) (fun _ _ _ h => h) (Or.inl ⟨by rfl, fun ww hSw => ?y12⟩) hHeld ?r12
  case y12 => (dsimp only at hSw; go_simp; with_reducible rfl)
  simp only [List.setIfInBounds_toArray]
  simp only [List.set]
  refine wpAnyH_done (by kernel_rfl) ?_ _
  simp only [lastQ, List.getLast_cons_cons, List.getLast_singleton]
  have n1 : ¬ b.length = y := by omega
  have n2 : ¬ vc = x := by omega
  rw [if_neg n1, if_neg n2]
  have hsl : ((Ed.sl a x k).length : Int) = k := Ed.sl_length (by omega) (by omega) (by omega)
  refine wp_copy (.tmp 7) (.tmp 16) 23 23 rfl 3 Tryd.underlying23 hsz gm y (b.length - y) (b.length - y) ⟨ab, ao + x, none⟩ k (vc - x) (by rfl) (by simp [Act.eval]; try omega) (isC (Ed.apP d a b)).toArray 3 ?g1 (isC (Ed.sl a x k)) ?g2 ?g3 ?g4 (isC_one _) (isC (Ed.put a (Ed.apP d a b) (x, y, k))).toArray ?g5 (fun u => ?g6)
  case g1 => exact HG1.out
  case g2 =>
    rw [isC_length, show k.min (b.length - y) = k from Nat.min_eq_left (by omega)]
    omega
  case g3 =>
    intro j u hj
    unfold isC at hj
    rw [List.getElem?_map] at hj
    have hjk : j < k := by
      rcases Nat.lt_or_ge j k with q | q
      · exact q
      · rw [List.getElem?_eq_none (by omega)] at hj; cases hj
    rw [Ed.sl_get (by omega)] at hj
    cases hx : a[((x : Int)).toNat + j]? with
    | none => rw [hx] at hj; cases hj
    | some z =>
      rw [hx] at hj
      simp at hj
      subst hj
      have hx' : a[x + j]? = some z := by rw [← hx]; congr 1
      obtain ⟨b', o', hv, _, hc⟩ := rdI_at HA1.out hx'
      cases hv
      show w1.cell? _ = _
      rw [Go.WideShapes.add_plain]
      rw [show ao + x + j = ao + (x + j) by omega]
      exact hc
  case g4 => rw [isC_length, List.size_toArray, isC_length, h6]; omega
  case g5 => exact put_isC a _ x y k e5
  case g6 =>
    have hgm2 : (w1.drew.setRow gm (isC (Ed.put a (Ed.apP d a b) (x, y, k))).toArray).heap[gm]? = some (.cells (isC (Ed.put a (Ed.apP d a b) (x, y, k))).toArray 3) := setRow_heap w1.drew gm _ _ _ HG1.out
    have hK : Kept (fun k => k = gm) w (w1.drew.setRow gm (isC (Ed.put a (Ed.apP d a b) (x, y, k))).toArray) := by
      have h := HBA.out
      refine ⟨h.os, h.tape, h.output, by rw [setRow_size]; exact h.size, fun j hj hx => ?_⟩
      rw [setRow_other _ _ hx]
      exact h.block j hj
    have hcell : ∀ bb oo, bb ≠ gm → (w1.drew.setRow gm (isC (Ed.put a (Ed.apP d a b) (x, y, k))).toArray).cell? ⟨bb, oo, none⟩ = w1.cell? ⟨bb, oo, none⟩ := fun bb oo hb' => by
      unfold World.cell?
      rw [show (⟨bb, oo, none⟩ : Addr).block = bb from rfl, setRow_other _ _ hb']
      rfl
    have hbm : (w1.drew.setRow gm (isC (Ed.put a (Ed.apP d a b) (x, y, k))).toArray).cell? ⟨bm, 0, none⟩ = some (.slice (some ⟨gm, 0, none⟩) b.length b.length) := (hcell bm 0 h7).trans d1
    have hba : (w1.drew.setRow gm (isC (Ed.put a (Ed.apP d a b) (x, y, k))).toArray).cell? ⟨ba, 0, none⟩ = some (.slice (some ⟨ab, ao, none⟩) a.length vc) := (hcell ba 0 h8).trans d2
    have hrd : RdI (w1.drew.setRow gm (isC (Ed.put a (Ed.apP d a b) (x, y, k))).toArray) (.slice (some ⟨ab, ao, none⟩) a.length vc) a := H4.out.keep H5.out (hK.below (fun j hj => by subst hj; exact h9) hB)
    have happ : Ed.apP (d ++ [((x : Int), (y : Int), (k : Int))]) a b = Ed.put a (Ed.apP d a b) (x, y, k) := by unfold Ed.apP; rw [List.foldl_append]; rfl
    have HEND : Hid (ApI (.slice (some ⟨ab, ao, none⟩) a.length vc) a b gm bm ba B (d ++ [((x : Int), (y : Int), (k : Int))]) (fun k => k = gm) (w1.drew.setRow gm (isC (Ed.put a (Ed.apP d a b) (x, y, k))).toArray)) := hid ⟨by unfold IRow; rw [happ]; exact hgm2, hbm, hba, hrd, H5.out, by rw [happ, Ed.put_length (by simp) (by simp) (by simp) (by simp only; omega) (by simp only; omega)]; exact h6, h7, h8, h9, rfl⟩
    have HK := hid hK
    clear hgm2 hK hcell hbm hba hrd
    generalize (w1.drew.setRow gm (isC (Ed.put a (Ed.apP d a b) (x, y, k))).toArray) = w2 at HEND HK ⊢
    go_wp2
    exact bodyPost_end (v := .tuple #[]) (by simp [results, Tryd.results29]) rfl ⟨rfl, HK.out, _, HEND.out⟩

theorem made_row {w : World} {B g n : Nat} (h : w.ownsRow B 3 1 (.slice (some ⟨g, 0, none⟩) n n) n (madeCells (Value.int .i64 0).cells (n * 1)).toList) : IRow w g (List.replicate n 0) := by
  rcases h.2 with ⟨hv, _⟩ | ⟨g', cap, cur, hv, hg, hh, hc, _, hsz, ht⟩
  · cases hv
  · cases hv
    have e : cur.toList = (madeCells (Value.int .i64 0).cells (n * 1)).toList := by
      rw [← ht, List.take_of_length_le]
      rw [Array.length_toList, hsz]
      exact Nat.le_refl _
    rw [show (Value.int .i64 0).cells = #[Value.int .i64 0] from rfl, toList_madeCells_one] at e
    have e2 : cur = (isC (List.replicate n 0)).toArray := by
      apply Array.ext'
      rw [e]
      simp [isC]
    rw [e2] at hh
    exact hh
theorem Tryd.infoInt : (Tryd.prog.info? 3).map (fun i => (i.zero, i.size, i.bytes)) = some (some (.int .i64 0), 1, 8) := by kernel_rfl
abbrev OwnI (w : World) (B : Nat) (v : Value) (l : List Int) : Prop := w.ownsRow B 3 1 v l.length (isC l)
theorem IRow.own {w : World} {B g n : Nat} {l : List Int} (h : IRow w g l) (hl : l.length = n) (hB : B ≤ g) (hn : n ≤ maxLen) : OwnI w B (.slice (some ⟨g, 0, none⟩) n n) l := by
  subst hl
  exact ⟨by rw [isC_length, Nat.mul_one], .inr ⟨g, l.length, (isC l).toArray, rfl, hB, h, Nat.le_refl _, hn, by rw [List.size_toArray, isC_length, Nat.mul_one], by rw [List.toList_toArray, Nat.mul_one]; exact List.take_of_length_le (Nat.le_of_eq (isC_length l))⟩⟩

theorem copy_all {W : World} {gm cb n : Nat} {b l0 : List Int} {ab : Option Addr} (ty : TypeId) (hrow : IRow W gm l0) (hl0 : l0.length = b.length) (hn : n = b.length) (hrd : RdI W (.slice ab b.length cb) b) :
    ∃ u w3, (Builtin.copy_ #[23, 23] ty #[.slice (some ⟨gm, 0, none⟩) n n, .slice ab b.length cb]).run Tryd.prog W = .ok u w3 ∧ IRow w3 gm b ∧ Kept (fun k => k = gm) W w3 := by
  subst hn
  have hsz : (Tryd.prog.info? 3).map (·.size) = some 1 := by kernel_rfl
  by_cases h0 : b.length = 0
  · refine ⟨_, W, run_copy_none (P := Tryd.prog) W 23 23 ty 3 _ _ _ _ _ _ Tryd.underlying23 hsz (by rw [h0]; rfl), ?_, rfl, rfl, rfl, Nat.le_refl _, fun _ _ _ => rfl⟩
    have e1 : b = [] := List.length_eq_zero_iff.1 h0
    have e2 : l0 = [] := List.length_eq_zero_iff.1 (by omega)
    rw [e1]; rw [e2] at hrow; exact hrow
  · obtain ⟨z, hz⟩ : ∃ z, b[0]? = some z := ⟨_, List.getElem?_eq_getElem (by omega)⟩
    obtain ⟨bb, bo, rfl, _, _⟩ := rdI_at hrd hz
    have hR : ((isC l0).toArray.toList.take 0 ++ isC b ++ (isC l0).toArray.toList.drop (0 + (isC b).length)).toArray = (isC b).toArray := by
      rw [List.toList_toArray, List.take_zero, List.nil_append, isC_length, Nat.zero_add, List.drop_eq_nil_of_le (by rw [isC_length]; omega), List.append_nil]
    have hrun := run_copy_row (P := Tryd.prog) W 23 23 ty 3 gm 0 b.length b.length ⟨bb, bo, none⟩ b.length cb (isC l0).toArray 3 (isC b) Tryd.underlying23 hsz hrow (by rw [isC_length]; exact (Nat.min_self _).symm) (by
      intro j u hj
      unfold isC at hj
      rw [List.getElem?_map] at hj
      cases hx : b[j]? with
      | none => rw [hx] at hj; cases hj
      | some z =>
        rw [hx] at hj
        simp at hj
        subst hj
        obtain ⟨b', o', hv, _, hc⟩ := rdI_at hrd hx
        cases hv
        rw [Go.WideShapes.add_plain]
        exact hc) (by rw [isC_length, List.size_toArray, isC_length]; omega) (isC_one b)
    rw [hR] at hrun
    refine ⟨_, _, hrun, setRow_heap W gm _ _ _ hrow, rfl, rfl, rfl, by rw [setRow_size]; exact Nat.le_refl _, fun j _ hx => setRow_other _ _ hx⟩

set_option maxHeartbeats 2000000 in
set_option maxRecDepth 100000 in
theorem apply_any {v va vb : Value} {s : List Ch} {a b : List Int} {w : World} (hr : RdC w v s) (hwf : ∀ c ∈ s, WfC c) (ha : RdI w va a) (hb : RdI w vb b) (hV : Ed.Val s a.length b.length) :
    Calls Tryd.prog 8 #[v, va, vb] w fun e w' => ∃ v', e = .returned (.tuple #[v', .nilIface]) ∧ OwnI w' w.heap.size v' (Ed.apP (Ed.runs s a.length 0 0) a b) ∧ Below w.heap.size w w' := by
  have hl := Val_len hV
  have hn := Ed.cnt_iff.1 hV.1
  have hm := Ed.cnt_iff.1 hV.2.1
  obtain ⟨hn0, hn1⟩ := hn
  obtain ⟨hm0, hm1⟩ := hm
  obtain ⟨i0, hi, hz0, hz1, hz2⟩ := info_parts Tryd.infoInt
  obtain ⟨aa, ca, rfl⟩ := ha.shape
  obtain ⟨ab, cb, rfl⟩ := hb.shape
  obtain ⟨a0, c0, rfl⟩ := hr.shape
  have HR := hid hr
  have HWF := hid hwf
  have HV := hid hV
  have HZ := hid (Ed.validN_zero.2 hV)
  have HA := hid ha
  have HBb := hid hb
  have hsz : (Tryd.prog.info? 3).map (·.size) = some 1 := by kernel_rfl
  clear hr hwf hV ha hb
  have hb0 : Below w.heap.size w (w.alloc (.cells #[.slice aa a.length ca] 23)) := (Below.refl _ _).alloc (Nat.le_refl _) _
  have hba0 : (w.alloc (.cells #[.slice aa a.length ca] 23)).heap[w.heap.size]? = some (.cells #[.slice aa a.length ca] 23) := heap_alloc_new w _
  have hsz0 : (w.alloc (.cells #[.slice aa a.length ca] 23)).heap.size = w.heap.size + 1 := by simp
  go_enter Tryd.func8, Tryd.ntmps8
  go_wp2_with fail
  generalize (w.alloc (.cells #[.slice aa a.length ca] 23)) = w0 at hb0 hba0 hsz0 ⊢
  refine (valid_any (HR.out.below hb0) HWF.out (by omega)).mono ?_
  rintro e w1 ⟨rfl, hb1⟩
  rw [HZ.out, errV_zero]
  have hB1 := hb0.trans (hb1.mono hb0.size)
  have hba1 := (hb1.block w.heap.size (by omega)).trans hba0
  have k0 : w1.cell? ⟨w.heap.size, 0, none⟩ = some (.slice aa a.length ca) := cell_of_blk hba1 0
  have hs1 := hb1.size
  have HSZ := hid hsz
  have HSZ0 := hid hsz0
  clear hb1 hba0 hb0 hsz hsz0
  go_wp2_with (at_make; refine wpList_make_full _ rfl _ _ 23 rfl w1.heap.size 3 i0 (.int .i64 0) 1 Tryd.underlying23 hi hz0 hz1 .i64 .i64 _ _ b.length rfl rfl (by omega) (by omega) (by rw [hz2]; omega) (by unfold maxLen; omega) (Nat.le_refl _) ?_; intro w2 hown hgrow; have HR2 := hid (made_row hown); have hb2 := (Below.refl w1.heap.size w1).grown hgrow (Nat.le_refl _) (fun k hk => by cases hk); clear hown hgrow)
  have hgm2 := lt_of_heap HR2.out
  have hbW : Below w2.heap.size w2 (w2.alloc (.cells #[.slice (some ⟨w1.heap.size, 0, none⟩) b.length b.length] 23)) := (Below.refl _ _).alloc (Nat.le_refl _) _
  have hbmW := heap_alloc_new w2 (.cells #[.slice (some ⟨w1.heap.size, 0, none⟩) b.length b.length] 23)
  have hszW : (w2.alloc (.cells #[.slice (some ⟨w1.heap.size, 0, none⟩) b.length b.length] 23)).heap.size = w2.heap.size + 1 := by simp
  generalize (w2.alloc (.cells #[.slice (some ⟨w1.heap.size, 0, none⟩) b.length b.length] 23)) = W at hbW hbmW hszW ⊢
  have hrowW : IRow W w1.heap.size (List.replicate b.length 0) := (hbW.block _ hgm2).trans HR2.out
  have hB2 : Below w.heap.size w w2 := hB1.trans (hb2.mono hB1.size)
  have hBW : Below w.heap.size w W := hB2.trans (hbW.mono hB2.size)
  obtain ⟨u, w3, hrun, hrow3, hK3⟩ := copy_all (n := b.length) 3 hrowW (by rw [List.length_replicate]) rfl (HBb.out.below hBW)
  have hB3 : Below w.heap.size w w3 := hBW.trans (hK3.below (fun k hk => by subst hk; exact hB1.size) hBW.size)
  have hne1 : w2.heap.size ≠ w1.heap.size := by omega
  have hne2 : w.heap.size ≠ w1.heap.size := by have := HSZ0.out; omega
  have hba2 := (hb2.block w.heap.size (by have := HSZ0.out; omega)).trans hba1
  have hbaW := (hbW.block w.heap.size (by have := HSZ0.out; have := hb2.size; omega)).trans hba2
  have hba3 := (hK3.block w.heap.size (by have := HSZ0.out; have := hb2.size; omega) (by exact hne2)).trans hbaW
  have hbm3 := (hK3.block w2.heap.size (by omega) (by exact hne1)).trans hbmW
  have j0 : w3.cell? ⟨w.heap.size, 0, none⟩ = some (.slice aa a.length ca) := cell_of_blk hba3 0
  have j1 : w3.cell? ⟨w2.heap.size, 0, none⟩ = some (.slice (some ⟨w1.heap.size, 0, none⟩) b.length b.length) := cell_of_blk hbm3 0
  have HI0 : Hid (ApI (.slice aa a.length ca) a b w1.heap.size w2.heap.size w.heap.size w.heap.size [] (fun k => k = w1.heap.size) w3) := hid ⟨hrow3, j1, j0, HA.out.below hB3, HA.out.under, rfl, hne1, hne2, hB1.size, rfl⟩
  have HC := hid (eachRun_any (B := w.heap.size) 29 (fun _ _ => by kernel_rfl) #[.pointer (some ⟨w2.heap.size, 0, none⟩), .pointer (some ⟨w.heap.size, 0, none⟩)] (ApI (.slice aa a.length ca) a b w1.heap.size w2.heap.size w.heap.size w.heap.size) (HR.out.below hB3) HR.out.under hB3.size HV.out (by omega) (fun d X wa wb hI hb => hI.later hb) (fun d X wa hI => (by obtain ⟨h1, _, _, _, _, _, _, _, h9, rfl⟩ := hI; intro g hg; subst hg; exact ⟨h9, lt_of_heap h1⟩)) (X0 := fun k => k = w1.heap.size) HI0.out
    (fun d X r wa hI hrb hba _ => applyF_any hI hrb (by omega) (by omega) (Nat.le_trans hB3.size hba.size)))
  have HB3 := hid hB3
  rw [hrun]
  simp only [Result.andThen_ok]
  rw [Oper.upon_value]
  clear hrun hrow3 hK3 hB3 hbm3 hba3 hbaW hba2 hbmW hrowW hbW hBW hB2 hba1 k0 hszW hb2 hB1
  go_wp2_with fail
  refine HC.out.mono ?_
  rintro e w4 ⟨rfl, hb4, X, hI⟩
  have HB4 := hid (HB3.out.trans hb4)
  obtain ⟨h1, h2, _, _, _, h6, _, _, h9, _⟩ := hI
  have HO : Hid (OwnI w4 w.heap.size (.slice (some ⟨w1.heap.size, 0, none⟩) b.length b.length) (Ed.apP (Ed.runs s a.length 0 0) a b)) := hid (IRow.own h1 h6 h9 (by unfold maxLen; omega))
  clear h1 h6 h9 hb4 HC j0 j1 HI0
  go_wp2
  go_ret2
  exact ⟨_, rfl, HO.out, HB4.out⟩
end Go.Proofs.YthgibnbpeopoaaaDoor
