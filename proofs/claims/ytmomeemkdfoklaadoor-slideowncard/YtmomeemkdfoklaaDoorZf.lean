/-
  slices.DeleteFunc over changes, for any test whose calls write only what is their own.
-/
import Derived.Test.YtmomeemkdfoklaaDoorZe
namespace Go.Proofs.YtmomeemkdfoklaaDoor
open Go.RowKit
open Ed (Ch Run Pr)

namespace Zf9
theorem csC_set6 (l : List Ch) (k : Nat) (c : Ch) (hk : k < l.length) : ((((csC l).set (k * 4) (.int .i64 c.a)).set (k * 4 + 1) (.int .i64 c.n)).set (k * 4 + 2) (.int .i64 c.b)).set (k * 4 + 3) (.int .i64 c.m) = csC (l.set k c) := by
  induction l generalizing k with
  | nil => simp at hk
  | cons x l ih =>
    cases k with
    | zero => rfl
    | succ k =>
      have ih' := ih k (by simpa using hk)
      rw [List.set_cons_succ]
      show (((((cC x ++ csC l).set ((k + 1) * 4) _).set ((k + 1) * 4 + 1) _).set ((k + 1) * 4 + 2) _).set ((k + 1) * 4 + 3) _) = cC x ++ csC (l.set k c)
      rw [← ih']
      have e : ∀ (j : Nat) (y : List Value) (u : Value), (cC x ++ y).set ((k + 1) * 4 + j) u = cC x ++ y.set (k * 4 + j) u := fun j y u => by
        rw [List.set_append, if_neg (by show ¬ (k + 1) * 4 + j < 4; omega)]
        congr 2
        show (k + 1) * 4 + j - 4 = k * 4 + j
        omega
      have e0 : ∀ (y : List Value) (u : Value), (cC x ++ y).set ((k + 1) * 4) u = cC x ++ y.set (k * 4) u := fun y u => e 0 y u
      rw [e0, e, e, e]
/-- an element of a row of changes written over -/
def set4 (w : World) (g k : Nat) (c : Ch) : World := (((w.setCell ⟨g, k * 4, none⟩ (.int .i64 c.a)).setCell ⟨g, k * 4 + 1, none⟩ (.int .i64 c.n)).setCell ⟨g, k * 4 + 2, none⟩ (.int .i64 c.b)).setCell ⟨g, k * 4 + 3, none⟩ (.int .i64 c.m)
theorem own_setC {w : World} {B g n c k : Nat} {l : List Ch} (h : w.ownsRow B 42 4 (.slice (some ⟨g, 0, none⟩) n c) n (csC l)) (z : Ch) (hk : k < l.length) : (set4 w g k z).ownsRow B 42 4 (.slice (some ⟨g, 0, none⟩) n c) n (csC (l.set k z)) := by
  obtain ⟨h1, h2⟩ := h
  rcases h2 with ⟨hv, _⟩ | ⟨g', cap, cur, hv, hg, hh, hc, hm, hsz, ht⟩
  · cases hv
  · cases hv
    refine ⟨by rw [csC_length, List.length_set, ← csC_length]; exact h1, .inr ⟨g, c, _, rfl, hg, set_heap _ g (k * 4 + 3) _ _ _ (set_heap _ g (k * 4 + 2) _ _ _ (set_heap _ g (k * 4 + 1) _ _ _ (set_heap _ g (k * 4) _ _ _ hh))), hc, hm, by simpa using hsz, ?_⟩⟩
    rw [← csC_set6 l k z hk, ← ht]
    simp only [Array.toList_setIfInBounds, List.take_set]
theorem own_some {w : World} {B n c : Nat} {t : TypeId} {sz : Nat} {a : Option Addr} {xs : List Value} (h : w.ownsRow B t sz (.slice a n c) n xs) (hn : 0 < n) : ∃ g, a = some ⟨g, 0, none⟩ := by
  rcases h.2 with ⟨hv, h0⟩ | ⟨g, cap, cur, hv, _⟩
  · omega
  · cases hv; exact ⟨g, rfl⟩
theorem own_at {w : World} {B n c : Nat} {t : TypeId} {sz : Nat} {a : Option Addr} {xs : List Value} (h : w.ownsRow B t sz (.slice a n c) n xs) {g o : Nat} (ha : a = some ⟨g, o, none⟩) : B ≤ g ∧ g < w.heap.size := by
  rcases h.2 with ⟨hv, hn⟩ | ⟨g', cap, cur, hv, hg, hh, _⟩
  · cases hv; cases ha
  · cases hv; cases ha; exact ⟨hg, lt_of_heap hh⟩
theorem own_frozen {w : World} {B n c g : Nat} {t : TypeId} {sz : Nat} {xs : List Value} (h : w.ownsRow B t sz (.slice (some ⟨g, 0, none⟩) n c) n xs) (o : Nat) : w.frozen? ⟨g, o, none⟩ = false := by
  rcases h.2 with ⟨hv, hn⟩ | ⟨g', cap, cur, hv, hg, hh, _⟩
  · cases hv
  · cases hv; exact frozen_of_blk hh o
theorem KpR (X : Nat → Prop) (w : World) : Kept X w w := ⟨rfl, rfl, rfl, Nat.le_refl _, fun _ _ _ => rfl⟩
theorem KpS {X : Nat → Prop} {w w' : World} (h : Kept X w w') {g k : Nat} (hx : X g) (u : Value) : Kept X w (w'.setCell ⟨g, k, none⟩ u) :=
  ⟨h.os, h.tape, h.output, by rw [set_size]; exact h.size, fun j hj hn => (set_other w' (fun e => hn (by rw [e]; exact hx))).trans (h.block j hj hn)⟩
theorem Kp4 {X : Nat → Prop} {w w' : World} (h : Kept X w w') {g k : Nat} (hx : X g) (c : Ch) : Kept X w (set4 w' g k c) := KpS (KpS (KpS (KpS h hx _) hx _) hx _) hx _
theorem zc4 (m : Nat) (z : Value) : (Builtin.zeroCells #[z, z, z, z] m).toList = List.replicate (m * 4) z := by
  apply List.ext_getElem
  · simp [Builtin.zeroCells]
  · intro i h1 h2
    have h3 : i % 4 < 4 := Nat.mod_lt _ (by omega)
    simp [Builtin.zeroCells]
    rcases (by omega : i % 4 = 0 ∨ i % 4 = 1 ∨ i % 4 = 2 ∨ i % 4 = 3) with h | h | h | h <;> rw [h] <;> rfl
theorem clear4 (w : World) (ty : TypeId) (g o m c : Nat) (hm : 0 < m) (hc : ∀ j, j < m * 4 → (w.cell? ⟨g, o + j, none⟩).isSome = true) (hf : ∀ j, j < m * 4 → w.frozen? ⟨g, o + j, none⟩ = false) :
    (Builtin.clear_ #[22] ty #[.slice (some ⟨g, o, none⟩) m c]).run Tryd.prog w = .ok (.tuple #[]) (w.setCells g o (List.replicate (m * 4) (.int .i64 0))) := by
  have hst := run_storeCells_cells (P := Tryd.prog) g o (List.replicate (m * 4) (.int .i64 0)) 0 w (by simpa using hc) (by simpa using hf) (by intro v hv'; rw [List.eq_of_mem_replicate hv']; rfl)
  simp only [Nat.add_zero] at hst
  obtain ⟨k, rfl⟩ : ∃ k, m = k + 1 := ⟨m - 1, by omega⟩
  have hzc := zc4 (k + 1) (.int .i64 0)
  have hcs : (Value.agg #[.int .i64 0, .int .i64 0, .int .i64 0, .int .i64 0]).cells = #[.int .i64 0, .int .i64 0, .int .i64 0, .int .i64 0] := by rfl
  simp [Builtin.clear_, run_underlying Tryd.underlying22, hcs, hzc, hst]
theorem KpCells {X : Nat → Prop} {w : World} {g : Nat} (hx : X g) : ∀ (vs : List Value) (o : Nat) (w' : World), Kept X w w' → Kept X w (w'.setCells g o vs)
  | [], _, _, h => h
  | v :: r, o, _, h => KpCells hx r (o + 1) _ (KpS h hx v)
theorem csC_split (l : List Ch) (i : Nat) : csC l = csC (l.take i) ++ csC (l.drop i) := by
  induction l generalizing i with
  | nil => simp [csC]
  | cons x l ih =>
    cases i with
    | zero => simp [csC]
    | succ i =>
      show cC x ++ csC l = (cC x ++ csC (l.take i)) ++ csC (l.drop i)
      rw [ih i, List.append_assoc]
theorem own_cap {w : World} {B n c : Nat} {t : TypeId} {sz : Nat} {g : Nat} {xs : List Value} (h : w.ownsRow B t sz (.slice (some ⟨g, 0, none⟩) n c) n xs) : n ≤ c := by
  rcases h.2 with ⟨hv, hn⟩ | ⟨g', cap, cur, hv, hg, hh, hc, _⟩
  · cases hv
  · cases hv; exact hc
theorem own_cells {w : World} {B n c : Nat} {t : TypeId} {g : Nat} {xs : List Value} (h : w.ownsRow B t 4 (.slice (some ⟨g, 0, none⟩) n c) n xs) (k : Nat) (hk : k < n * 4) : (w.cell? ⟨g, k, none⟩).isSome = true := by
  rcases h.2 with ⟨hv, hn⟩ | ⟨g', cap, cur, hv, hg, hh, hc, _, hsz, _⟩
  · cases hv
  · cases hv
    rw [cell_of_blk hh k]
    have : k < cur.size := by omega
    simp [this]
theorem dl_end {w w3 : World} {B n c g i : Nat} {L : List Ch} (h : w.ownsRow B 42 4 (.slice (some ⟨g, 0, none⟩) n c) n (csC L)) (hL : L.length = n) (hi : i < n) (hw : w3 = w.setCells g (i * 4) (List.replicate ((n - i) * 4) (.int .i64 0))) : RdC w3 (.slice (some ⟨g, 0, none⟩) i c) (L.take i) := by
  have hcap := own_cap h
  have hlen : (L.take i).length = i := by rw [List.length_take]; omega
  have hK : Kept (fun j => j = g) w w3 := by rw [hw]; exact KpCells (X := fun j => j = g) rfl _ _ _ (KpR _ _)
  have hg := (own_at h rfl).2
  rcases own_rd h with ⟨h0, _⟩ | ⟨b, o, c', hv, _, hb, hX⟩
  · omega
  · cases hv
    show RdX _ _ _ _
    rw [hlen]
    refine .inr ⟨g, 0, c, rfl, by omega, Nat.lt_of_lt_of_le hg hK.size, fun j x hj => ?_⟩
    have hjl : j < (csC (L.take i)).length := (List.getElem?_eq_some_iff.1 hj).1
    have h1 := hX j x (by rw [csC_split L i, List.getElem?_append_left hjl]; exact hj)
    rw [csC_length, hlen] at hjl
    rw [hw, World.cell?_setCells_out _ _ _ _ _ (fun _ _ => .inl (by simp only; omega))]
    exact h1
theorem dl_step {p : Ch → Bool} {l L : List Ch} {i j : Nat} {x : Ch} (hi : i < j) (hj : j < l.length) (hL : L.length = l.length) (h1 : L.take i = (l.take j).filter fun y => !p y) (hx : l[j]? = some x) (hp : p x = false) :
    (L.set i x).take (i + 1) = (l.take (j + 1)).filter fun y => !p y := by
  rw [List.take_add_one, List.take_set_of_le (Nat.le_refl i), h1, List.take_add_one, hx, List.filter_append, List.getElem?_set_self (by omega)]
  simp [hp]
theorem dl_skip {p : Ch → Bool} {l L : List Ch} {i j : Nat} {x : Ch} (h1 : L.take i = (l.take j).filter fun y => !p y) (hx : l[j]? = some x) (hp : p x = true) :
    L.take i = (l.take (j + 1)).filter fun y => !p y := by
  rw [h1, List.take_add_one, hx, List.filter_append]
  simp [hp]
theorem fix_at {p : Ch → Bool} {l : List Ch} {i : Nat} (h : fixI p l = i) : i < l.length ∧ l.take i = (l.take (i + 1)).filter fun y => !p y := by
  unfold fixI at h
  split at h
  · next k hk =>
    obtain rfl : k = i := by omega
    rw [List.findIdx?_eq_some_iff_getElem] at hk
    obtain ⟨h1, h2, h3⟩ := hk
    refine ⟨h1, ?_⟩
    rw [List.take_add_one, List.getElem?_eq_getElem h1, List.filter_append]
    have e : (l.take k).filter (fun y => !p y) = l.take k := by
      rw [List.filter_eq_self]
      intro y hy
      obtain ⟨j, hj, rfl⟩ := List.mem_take_iff_getElem.1 hy
      have := h3 j (by omega)
      simpa using this
    rw [e]
    simp [h2]
  · omega

end Zf9
open Zf9
set_option maxHeartbeats 2000000 in
set_option maxRecDepth 100000 in
theorem deleteFunc_any {w : World} {v : Value} {l : List Ch} {B : Nat} (F : FuncId) (hent : ∀ (args : Array Value) (w : World), (callFunc F args).run Tryd.prog w = .ok (.enter F args) w) (caps : Array Value) (p : Ch → Bool) (hO : OwnC w B v l) (hB : B ≤ w.heap.size) (hl : l.length ≤ 10000000)
    (hp : ∀ x ∈ l, ∀ w1, Below B w w1 → Calls Tryd.prog F (#[chV x] ++ caps) w1 fun e w2 => e = .returned (.bool (p x)) ∧ Below w1.heap.size w1 w2) :
    Calls Tryd.prog 23 #[v, .func (.func F) #[] caps] w fun e w' => ∃ v', e = .returned v' ∧ RdC w' v' (l.filter fun x => !p x) ∧ Below B w w' := by
  obtain ⟨av, cv, rfl⟩ := own_shape hO
  have HO := hid hO
  have HP := hid hp
  have HENT := hid hent
  have HX := hid (indexFunc_any F hent caps p (own_rd hO) hl (fun x hx w1 hb => hp x hx w1 (hb.mono hB)))
  obtain ⟨n, hn⟩ : ∃ n, n = l.length := ⟨_, rfl⟩
  have HN := hid hn
  rw [← hn] at HX hl ⊢
  clear hO hp hent hn
  by_cases hnone : fixI p l = -1
  · rw [hnone] at HX
    go_enter Tryd.func23, Tryd.ntmps23
    go_wp2_with fail
    refine HX.out.mono ?_
    rintro e w1 ⟨rfl, hb1⟩
    go_wp2
    go_ret
    refine ⟨_, rfl, ?_, hb1.mono hB⟩
    have hall : ∀ y ∈ l, p y = false := by
      unfold fixI at hnone
      split at hnone
      · omega
      · next h => exact List.findIdx?_eq_none_iff.1 h
    rw [List.filter_eq_self.2 (fun y hy => by rw [hall y hy]; rfl)]
    have hn := HN.out
    subst hn
    exact (own_rd HO.out).below hb1
  · obtain ⟨i0, hi0⟩ : ∃ i0 : Nat, fixI p l = i0 := by
      unfold fixI at hnone ⊢
      split
      · next k _ => exact ⟨k, rfl⟩
      · next h => rw [h] at hnone; exact absurd rfl hnone
    rw [hi0] at HX
    obtain ⟨hil, hit⟩ := fix_at hi0
    have HIT := hid hit
    have z1 : ((i0 : Int) == -1) = false := by rw [beq_eq_false_iff_ne]; omega
    have hin : i0 < n := by have := HN.out; omega
    have HO1 : Hid (w.ownsRow B 42 4 (.slice av n cv) n (csC l)) := hid (by rw [HN.out]; exact HO.out)
    obtain ⟨g, rfl⟩ := own_some HO1.out (by omega)
    have hgB := (own_at HO1.out rfl).1
    clear hil hit hnone hi0 HO
    go_enter Tryd.func23, Tryd.ntmps23
    go_wp2_with fail
    refine HX.out.mono ?_
    rintro e w1 ⟨rfl, hb1⟩
    have HO2 := hid (own_stays HO1.out hb1)
    have HB2 := hid (hb1.mono hB)
    clear hb1 HX HO1
    go_wp2
    go_loopw [5, 6, 7] (fun ii jj _ wr => ∃ (i j : Nat) (L : List Ch), i < j ∧ j ≤ n ∧ ii = .int .i64 i ∧ jj = .int .i64 j ∧ Hid (L.length = l.length) ∧ Hid (L.take i = (l.take j).filter fun y => !p y) ∧ Hid (∀ k, j ≤ k → L[k]? = l[k]?) ∧ Hid (wr.ownsRow B 42 4 (.slice (some ⟨g, 0, none⟩) n cv) n (csC L)) ∧ Hid (Below B w wr)) (fun _ jj _ _ => n - (intOf jj).toNat)
    case atStart => exact ⟨i0, i0 + 1, l, by omega, by omega, rfl, by go_num, hid rfl, HIT, hid (fun k _ => rfl), HO2, HB2⟩
    case round =>
      clear HO2 HB2 HIT
      obtain ⟨i, j, L, hij, hjn, rfl, rfl, HL, HT, HD, HOL, HBW⟩ := hrel
      by_cases hlt : j < n
      · obtain ⟨x, hx⟩ : ∃ x, l[j]? = some x := ⟨_, List.getElem?_eq_getElem (by have := HN.out; omega)⟩
        have hxL : L[j]? = some x := (HD.out j (Nat.le_refl _)).trans hx
        have HRL : Hid (RdC wr (.slice (some ⟨g, 0, none⟩) n cv) L) := hid (by show RdX _ _ _ _; rw [HL.out, ← HN.out]; exact own_rd HOL.out)
        obtain ⟨b1, o1, e1, hgs, d1, d2, d3, d4⟩ := rdC_at HRL.out hxL
        cases e1
        simp only [Nat.zero_add] at d1 d2 d3 d4
        obtain ⟨y, hy⟩ : ∃ y, L[i]? = some y := ⟨_, List.getElem?_eq_getElem (by have := HN.out; have := HL.out; omega)⟩
        obtain ⟨A, hA⟩ : ∃ A, A = Obj.cells #[.int .i64 x.a, .int .i64 x.n, .int .i64 x.b, .int .i64 x.m] 42 (0, 0) := ⟨_, rfl⟩
        have hb2 := (Below.refl wr.heap.size wr).alloc (Nat.le_refl _) A
        have HB2 := hid (HBW.out.trans (hb2.mono (Nat.le_trans hB HBW.out.size)))
        have HC := hid (HP.out x (List.mem_of_getElem? hx) _ HB2.out)
        have HO2 := hid (own_stays HOL.out hb2)
        have HBLK := hid (heap_alloc_new wr A)
        have HX := hid hx
        have HY := hid hy
        rw [hA] at HB2 HC HO2 HBLK
        have i1 : (0 : Int) ≤ (j : Int) := by omega
        have i2 : (j : Int) < (n : Int) := by omega
        have i4 : (0 : Int) ≤ (i : Int) := by omega
        have i5 : (i : Int) < (n : Int) := by omega
        clear hx hxL HRL hy hb2 hA HOL HBW
        cases hpx : p x with
        | true =>
          rw [hpx] at HC
          have HT2 := hid (dl_skip HT.out HX.out hpx)
          clear hpx
          go_wp2_with fail
          rw [HENT.out, Oper.upon_enter]
          refine HC.out.mono ?_
          rintro e w2 ⟨rfl, h2⟩
          have HB3 := hid (HB2.out.trans (h2.mono (Nat.le_trans hB HB2.out.size)))
          have HO3 := hid (own_stays HO2.out h2)
          clear h2 d1 d2 d3 d4 HC HB2 HO2
          go_wp2
          go_roundw
          case rel => exact ⟨i, j + 1, L, by omega, by omega, rfl, by go_num, HL, HT2, hid (fun k hk => HD.out k (by omega)), HO3, HB3⟩
          case measure => simp [intOf]; omega
        | false =>
          rw [hpx] at HC
          have HT2 := hid (dl_step hij (by have := HN.out; omega) HL.out HT.out HX.out hpx)
          clear hpx
          go_wp2_with fail
          rw [HENT.out, Oper.upon_enter]
          refine HC.out.mono ?_
          rintro e w2 ⟨rfl, h2⟩
          have hblk : w2.heap[wr.heap.size]? = _ := (h2.block wr.heap.size (by simp)).trans HBLK.out
          have HB3 := hid (HB2.out.trans (h2.mono (Nat.le_trans hB HB2.out.size)))
          have HO3 := hid (own_stays HO2.out h2)
          have v0 : w2.cell? ⟨wr.heap.size, 0, none⟩ = some (.int .i64 x.a) := cell_of_blk hblk 0
          have v1 : w2.cell? ⟨wr.heap.size, 1, none⟩ = some (.int .i64 x.n) := cell_of_blk hblk 1
          have v2 : w2.cell? ⟨wr.heap.size, 2, none⟩ = some (.int .i64 x.b) := cell_of_blk hblk 2
          have v3 : w2.cell? ⟨wr.heap.size, 3, none⟩ = some (.int .i64 x.m) := cell_of_blk hblk 3
          have HRL : Hid (RdC w2 (.slice (some ⟨g, 0, none⟩) n cv) L) := hid (by show RdX _ _ _ _; rw [HL.out, ← HN.out]; exact own_rd HO3.out)
          obtain ⟨b1, o1, e1, hgs2, y1, y2, y3, y4⟩ := rdC_at HRL.out HY.out
          cases e1
          simp only [Nat.zero_add] at y1 y2 y3 y4
          have f0 := fun o => own_frozen HO3.out o
          have HO4 : Hid ((set4 w2 g i x).ownsRow B 42 4 (.slice (some ⟨g, 0, none⟩) n cv) n (csC (L.set i x))) := hid (own_setC HO3.out x (k := i) (by have := HN.out; have := HL.out; omega))
          have HB4 : Hid (Below B w (set4 w2 g i x)) := hid (HB3.out.trans ((Kp4 (X := fun j => j = g) (KpR _ _) rfl x).below (fun g' h => by omega) (Nat.le_trans hB HB3.out.size)))
          have HL4 : Hid ((L.set i x).length = l.length) := hid (by rw [List.length_set]; exact HL.out)
          have HD4 : Hid (∀ k, j + 1 ≤ k → (L.set i x)[k]? = l[k]?) := hid (fun k hk => by rw [List.getElem?_set_ne (by omega)]; exact HD.out k (by omega))
          clear h2 d1 d2 d3 d4 HC HB2 HO2 hblk HBLK HRL
          go_wp2
          exact ⟨⟨i + 1, j + 1, L.set i x, by omega, by omega, by push_cast; rfl, by push_cast; rfl, HL4, HT2, HD4, HO4, HB4⟩, by simp [intOf]; omega⟩
      · obtain rfl : j = n := by omega
        have hcap := own_cap HOL.out
        have hic : ¬ cv = i := by omega
        have HCL := hid (fun ty => clear4 wr ty g (i * 4) (j - i) (cv - i) (by omega) (fun k hk => own_cells HOL.out _ (by omega)) (fun k hk => own_frozen HOL.out _))
        have HEN : Hid (∀ w3, w3 = wr.setCells g (i * 4) (List.replicate ((j - i) * 4) (.int .i64 0)) → RdC w3 (.slice (some ⟨g, 0, none⟩) i cv) (l.filter fun y => !p y) ∧ Below B w w3) := hid (fun w3 hw3 => by
          constructor
          · have h := dl_end HOL.out (by have := HN.out; have := HL.out; omega) hij hw3
            rw [HT.out, List.take_of_length_le (by have := HN.out; omega)] at h
            exact h
          · rw [hw3]
            exact HBW.out.trans ((KpCells (X := fun j => j = g) rfl _ _ _ (KpR _ _)).below (fun g' h => by omega) (Nat.le_trans hB HBW.out.size)))
        generalize wr.setCells g (i * 4) (List.replicate ((j - i) * 4) (.int .i64 0)) = w3 at HCL HEN
        go_wp2_with fail
        rw [HCL.out]
        go_wp2
        go_ret
        exact ⟨_, rfl, HEN.out _ rfl⟩
end Go.Proofs.YtmomeemkdfoklaaDoor
