/-
  Several texts in one: Us, Ut, Uu, Uv, Uw.
-/
import Derived.Test.YtddmfdjkkikapaaGreatDoorGrMb
import Derived.Test.YtddmfdjkkikapaaGreatDoorGrMa
import Derived.Test.YtddmfdjkkikapaaGreatDoorLd
import Derived.Test.YtddmfdjkkikapaaGreatDoorJb
/-
  More context: what is around the changes of rows.
-/
namespace Go.Proofs.YtddmfdjkkikapaaGreatDoor.Hu
/-- where the first run begins, where the last one ends -/
def arF (n : Nat) (d : List (Nat × Nat)) : Nat × Nat := d.foldl (fun p r => (min p.1 r.1, r.2)) (n, 0)
theorem arF_more (n : Nat) (d : List (Nat × Nat)) (r : Nat × Nat) : arF n (d ++ [r]) = (min (arF n d).1 r.1, r.2) := by unfold arF; rw [List.foldl_append]; rfl
theorem foldl_inv {α β : Type} {f : β → α → β} {P : β → Prop} : ∀ (d : List α) (b : β), P b → (∀ b r, r ∈ d → P b → P (f b r)) → P (d.foldl f b)
  | [], _, h, _ => h
  | r :: d, b, h, hf => foldl_inv d (f b r) (hf b r (by simp) h) (fun b r hr => hf b r (by simp [hr]))
theorem arF_le {n : Nat} {d : List (Nat × Nat)} (h : ∀ r ∈ d, r.2 ≤ n) : (arF n d).1 ≤ n ∧ (arF n d).2 ≤ n := by
  unfold arF
  refine foldl_inv (P := fun p : Nat × Nat => p.1 ≤ n ∧ p.2 ≤ n) d (n, 0) ⟨Nat.le_refl _, Nat.zero_le _⟩ ?_
  intro b r hr hb
  exact ⟨Nat.le_trans (Nat.min_le_left _ _) hb.1, h r hr⟩
end Go.Proofs.YtddmfdjkkikapaaGreatDoor.Hu
namespace Go.Proofs.YtddmfdjkkikapaaGreatDoor
open Go.RowKit
open Hu (Rw Hk)

/-- what around's function keeps -/
structure ArnI (n fb lb : Nat) (d : List (Nat × Nat)) (X : Nat → Prop) (w : World) : Prop where
  x : ∀ g, X g ↔ g = fb ∨ g = lb
  f : w.heap[fb]? = some (.cells #[.int .i64 ((Hu.arF n d).1 : Nat)] 3)
  l : w.heap[lb]? = some (.cells #[.int .i64 ((Hu.arF n d).2 : Nat)] 3)
set_option maxHeartbeats 1000000 in
set_option maxRecDepth 100000 in
theorem aroundF_any {w : World} {n fb lb f t : Nat} {d : List (Nat × Nat)} {X : Nat → Prop} (hI : ArnI n fb lb d X w) (hne : fb ≠ lb) :
    Calls Tryz.prog 111 #[spV (f, t), .pointer (some ⟨fb, 0, none⟩), .pointer (some ⟨lb, 0, none⟩)] w fun e w' => e = .returned (.tuple #[]) ∧ Kept X w w' ∧ ∃ X', (∀ g, X' g → X g ∨ w.heap.size ≤ g) ∧ ArnI n fb lb (d ++ [(f, t)]) X' w' := by
  obtain ⟨ix, i1, i2⟩ := hI
  have hbn := (Below.refl w.heap.size w).alloc (Nat.le_refl _) (.cells #[.int .i64 f, .int .i64 t] 75)
  have hkn := heap_alloc_new w (.cells #[.int .i64 f, .int .i64 t] 75)
  have j1 := (hbn.block fb (lt_of_heap i1)).trans i1
  have j2 := (hbn.block lb (lt_of_heap i2)).trans i2
  obtain ⟨P, hP⟩ : ∃ P, P = (Hu.arF n d).1 := ⟨_, rfl⟩
  obtain ⟨Q, hQ⟩ : ∃ Q, Q = (Hu.arF n d).2 := ⟨_, rfl⟩
  rw [← hP] at j1
  rw [← hQ] at j2
  obtain ⟨M, hM⟩ : ∃ M : Nat, M = min P f := ⟨_, rfl⟩
  have hm : min (P : Int) (f : Int) = (M : Int) := by omega
  have HE : Hid (Hu.arF n (d ++ [(f, t)]) = (M, t)) := hid (by rw [Hu.arF_more, hM, hP])
  have HX := hid ix
  have HB1 := hid hbn
  have HXF : Hid (X fb ∧ X lb) := hid ⟨(ix fb).2 (.inl rfl), (ix lb).2 (.inr rfl)⟩
  have HLT : Hid (fb < w.heap.size ∧ lb < w.heap.size) := hid ⟨lt_of_heap i1, lt_of_heap i2⟩
  unfold spV
  dsimp only
  clear ix i1 i2 hbn hP hQ hM
  go_enter Tryz.func111, Tryz.ntmps111
  go_wp2_with fail
  have HK1 : Hid (Kept X w (w.alloc (.cells #[.int .i64 f, .int .i64 t] 75))) := hid (Kept.of_below HB1.out)
  generalize w.alloc (.cells #[.int .i64 f, .int .i64 t] 75) = w1 at hkn j1 j2 HK1 ⊢
  have f0 : w1.cell? ⟨fb, 0, none⟩ = some (.int .i64 (P : Nat)) := cell_of_blk j1 0
  have l0 : w1.cell? ⟨lb, 0, none⟩ = some (.int .i64 (Q : Nat)) := cell_of_blk j2 0
  have g0 : w1.cell? ⟨w.heap.size, 0, none⟩ = some (.int .i64 f) := cell_of_blk hkn 0
  have g1 : w1.cell? ⟨w.heap.size, 1, none⟩ = some (.int .i64 t) := cell_of_blk hkn 1
  have ff : ∀ j, w1.frozen? ⟨fb, j, none⟩ = false := fun j => frozen_of_blk j1 j
  have lf : ∀ j, w1.frozen? ⟨lb, j, none⟩ = false := fun j => frozen_of_blk j2 j
  have J1 := hid j1
  have J2 := hid j2
  have l1 : (w1.setCell ⟨fb, 0, none⟩ (.int .i64 (M : Nat))).cell? ⟨lb, 0, none⟩ = some (.int .i64 (Q : Nat)) := (cell_set_far (Ne.symm hne)).trans l0
  have lf1 : ∀ j, (w1.setCell ⟨fb, 0, none⟩ (.int .i64 (M : Nat))).frozen? ⟨lb, j, none⟩ = false := fun j => frozen_of_blk ((set_other _ (Ne.symm hne)).trans J2.out) j
  clear j1 j2 hkn
  go_wp2_with fail
  go_region
  all_goals
    go_wp2_with fail
    refine bodyPost_end (v := .tuple #[]) (by simp [results, Tryz.results111]) rfl ⟨rfl, ?_, X, (fun g hg => .inl hg), HX.out, ?_, ?_⟩
    · have hk := (HK1.out.set (k := 0) (u := .int .i64 (M : Nat)) (.inl HXF.out.1)).set (k := 0) (u := .int .i64 (t : Nat)) (.inl HXF.out.2)
      exact ⟨hk.os, hk.tape, hk.output, hk.size, hk.block⟩
    · rw [HE.out]
      exact (set_other _ hne).trans (set_heap _ _ _ _ _ _ J1.out)
    · rw [HE.out]
      exact set_heap _ _ _ _ _ _ ((set_other _ (Ne.symm hne)).trans J2.out)
theorem ArnI.far {n fb lb E : Nat} {d : List (Nat × Nat)} {X : Nat → Prop} {w w2 : World} (hI : ArnI n fb lb d X w) (h1 : fb < E) (h2 : lb < E) (hf : Far E X w w2) : ArnI n fb lb d X w2 := by
  obtain ⟨i0, i1, i2⟩ := hI
  exact ⟨i0, (hf.block fb (lt_of_heap i1) (.inl h1)).trans i1, (hf.block lb (lt_of_heap i2) (.inl h2)).trans i2⟩
theorem ar_takes {w6 : World} {l : List Rw} {n fb lb B : Nat} (hne : fb ≠ lb) (hB : B ≤ fb ∧ B ≤ lb) (h1 : fb < w6.heap.size) (h2 : lb < w6.heap.size) :
    Takes 111 #[.pointer (some ⟨fb, 0, none⟩), .pointer (some ⟨lb, 0, none⟩)] B w6.heap.size w6 (Hu.runsR l 0 0) (ArnI n fb lb) where
  ent := fun _ _ => by kernel_rfl
  far := fun d X w1 w2 hI hf => hI.far h1 h2 hf
  ge := fun d X w1 hI g hg => by
    rcases (hI.x g).1 hg with rfl | rfl
    · exact hB.1
    · exact hB.2
  step := fun d X r w1 hI hb hrest => aroundF_any hI hne
set_option maxHeartbeats 1000000 in
set_option maxRecDepth 100000 in
theorem around_any {w : World} {v : Value} {l : List Rw} (hv : RdW w v l) (hl : l.length < 5864062014800) :
    Calls Tryz.prog 87 #[v] w fun e w' => e = .returned (.tuple #[.int .i64 ((Hu.arF l.length (Hu.runsR l 0 0)).1 : Nat), .int .i64 ((l.length : Int) - ((Hu.arF l.length (Hu.runsR l 0 0)).2 : Nat))]) ∧ Below w.heap.size w w' := by
  obtain ⟨av, cv, rfl⟩ := hv.shape
  have HV := hid hv
  obtain ⟨t1, t2, t3, t4⟩ := two' w (.cells #[.int .i64 (l.length : Nat)] 3) (.cells #[.int .i64 0] 3)
  obtain ⟨n, hn⟩ : ∃ n, n = l.length := ⟨_, rfl⟩
  have HN := hid hn
  rw [← hn] at hl t1 t2 t3 t4 ⊢
  have hle := Hu.arF_le (n := n) (d := Hu.runsR l 0 0) (fun r hr => by have := runs_le r hr; have := HN.out; omega)
  obtain ⟨A, hA⟩ : ∃ A, A = (Hu.arF n (Hu.runsR l 0 0)).1 := ⟨_, rfl⟩
  obtain ⟨Z, hZ⟩ : ∃ Z, Z = (Hu.arF n (Hu.runsR l 0 0)).2 := ⟨_, rfl⟩
  have HAZ := hid (And.intro hA hZ)
  rw [← hA, ← hZ] at hle ⊢
  clear hv hn hA hZ
  go_enter Tryz.func87, Tryz.ntmps87
  go_wp2_with fail
  generalize (w.alloc (.cells #[.int .i64 (n : Nat)] 3)).alloc (.cells #[.int .i64 0] 3) = w1 at t1 t2 t3 t4 ⊢
  have HB1 := hid t1
  have hT := ar_takes (w6 := w1) (l := l) (n := n) (fb := w.heap.size) (lb := w.heap.size + 1) (B := w.heap.size) (by omega) ⟨Nat.le_refl _, by omega⟩ (by omega) (by omega)
  have h0 : ArnI n w.heap.size (w.heap.size + 1) [] (fun g => g = w.heap.size ∨ g = w.heap.size + 1) w1 := ⟨fun g => Iff.rfl, t2, t3⟩
  have HER := hid (hEachRun_any (HV.out.below t1) (B := w.heap.size) HV.out.under t1.size (by have := HN.out; omega) hT h0 (fun g hg => by
    rcases hg with rfl | rfl <;> omega))
  rw [← HN.out] at HER
  clear t1 t2 t3 t4 hT h0
  refine HER.out.mono ?_
  rintro e w7 ⟨rfl, hb7, X7, hI7⟩
  obtain ⟨_, r4, r5⟩ := hI7
  rw [← HAZ.out.1] at r4
  rw [← HAZ.out.2] at r5
  have c0 : w7.cell? ⟨w.heap.size, 0, none⟩ = some (.int .i64 (A : Nat)) := cell_of_blk r4 0
  have c1 : w7.cell? ⟨w.heap.size + 1, 0, none⟩ = some (.int .i64 (Z : Nat)) := cell_of_blk r5 0
  have HB7 := hid (HB1.out.trans hb7)
  have i9 : IntKind.i64.wrap ((n : Int) - (Z : Int)) = (n : Int) - (Z : Int) := wrapOk (by omega) (by omega)
  clear r4 r5 hb7 HAZ HER
  go_wp2_with fail
  go_quiet (fail)
  go_wp2_with fail
  refine bodyPost_ret (v := .tuple #[.int .i64 (A : Nat), .int .i64 ((n : Int) - (Z : Nat))]) (by simp [results, Tryz.results87]) rfl ?_
  exact ⟨rfl, below_drewN HB7.out _⟩
end Go.Proofs.YtddmfdjkkikapaaGreatDoor
/-
  Rows of strings: slices.Equal.
-/
namespace Go.Proofs.YtddmfdjkkikapaaGreatDoor
open Go.RowKit
theorem seqB {x y : ByteArray} (h : x = y) : (x.toList == y.toList) = true := by rw [h]; exact beq_self_eq_true _
theorem sneB {x y : ByteArray} (h : x ≠ y) : (x.toList == y.toList) = false := by
  rw [beq_eq_false_iff_ne]
  intro e
  rw [ByteArray.toList_eq, ByteArray.toList_eq] at e
  refine h ?_
  cases x
  cases y
  exact congrArg ByteArray.mk (Array.toList_inj.1 e)
theorem eq_atT {l m : List ByteArray} (h : l.length = m.length) (hj : ∀ (j : Nat) x, l[j]? = some x → m[j]? = some x) : l = m := by
  refine List.ext_getElem? fun j => ?_
  cases q : l[j]? with
  | none => rw [List.getElem?_eq_none_iff] at q; rw [List.getElem?_eq_none (by omega)]
  | some x => exact (hj j x q).symm
set_option maxHeartbeats 2000000 in
theorem equalS_any {v u : Value} {l m : List ByteArray} {w : World} (hv : RdT w v l) (hu : RdT w u m) (hl : l.length < 8796093022200) (hm : m.length < 8796093022200) :
    Calls Tryz.prog 86 #[v, u] w fun e w' => e = .returned (.bool (decide (l = m))) ∧ Below w.heap.size w w' := by
  obtain ⟨a, c, rfl⟩ := hv.shape
  obtain ⟨a', c', rfl⟩ := hu.shape
  have HV := hid hv
  have HU := hid hu
  clear hv hu
  by_cases hlen : l.length = m.length
  · have hz : ((l.length : Int) == (m.length : Int)) = true := ieq (by omega)
    have HLEN := hid hlen
    clear hlen
    go_enter Tryz.func86, Tryz.ntmps86
    go_wp2
    go_loopw [13] (fun i wr => ∃ k : Nat, k ≤ l.length ∧ i = .int .i64 k ∧ (∃ q, wr = w.drewN q) ∧ Hid (∀ (j : Nat) x, j < k → l[j]? = some x → m[j]? = some x)) (fun i _ => l.length - (intOf i).toNat)
    case atStart => exact ⟨0, Nat.zero_le _, rfl, ⟨0, rfl⟩, fun j x hj => by omega⟩
    case round =>
      obtain ⟨k, hk, rfl, ⟨q, rfl⟩, HJ⟩ := hrel
      by_cases hlt : k < l.length
      · obtain ⟨x, hx⟩ : ∃ x, l[k]? = some x := ⟨_, List.getElem?_eq_getElem hlt⟩
        have hltm : k < m.length := by have := HLEN.out; omega
        obtain ⟨y, hy⟩ : ∃ y, m[k]? = some y := ⟨_, List.getElem?_eq_getElem hltm⟩
        obtain ⟨b1, o1, rfl, _, d1⟩ := rdT_at HV.out hx
        obtain ⟨b2, o2, rfl, _, d2⟩ := rdT_at HU.out hy
        have i1 : (0 : Int) ≤ (k : Int) := by omega
        have i2 : (k : Int) < (l.length : Int) := by omega
        have i3 : (k : Int) < (m.length : Int) := by omega
        by_cases hxy : x = y
        · have hz2 : (x.toList == y.toList) = true := seqB hxy
          have HJ2 : Hid (∀ (j : Nat) z, j < k + 1 → l[j]? = some z → m[j]? = some z) := hid (fun j z hj hz => by
            by_cases hjk : j = k
            · subst hjk; rw [hx] at hz; cases hz; rw [hy, hxy]
            · exact HJ.out j z (by omega) hz)
          clear HJ hx hy hxy
          go_wp2
          go_quiet (fail)
          go_wp2
          go_roundw
          case rel => exact ⟨k + 1, by omega, by go_num, ⟨_, by first | rfl | exact World.drewN_drewN _ _ _⟩, HJ2⟩
          case measure => simp [intOf]; omega
        · have hz2 : (x.toList == y.toList) = false := sneB hxy
          have HE : Hid (decide (l = m) = false) := hid (decide_eq_false (fun e => by subst e; rw [hx] at hy; cases hy; exact hxy rfl))
          clear HJ hx hy hxy
          go_wp2
          go_quiet (fail)
          go_wp2
          go_ret
          exact ⟨ret_bool HE.out.symm, by first | exact below_drewN (below_drewN (Below.refl _ _) _) _ | exact below_drewN (Below.refl _ _) _⟩
      · have HE : Hid (decide (l = m) = true) := hid (decide_eq_true (eq_atT HLEN.out (fun j x hj => HJ.out j x (by
          have : j < l.length := by
            rcases Nat.lt_or_ge j l.length with q | q
            · exact q
            · rw [List.getElem?_eq_none q] at hj; cases hj
          omega) hj)))
        clear HJ
        go_wp2
        go_ret
        exact ⟨ret_bool HE.out.symm, below_drewN (Below.refl _ _) _⟩
  · have hz : ((l.length : Int) == (m.length : Int)) = false := ine (by omega)
    have HE : Hid (decide (l = m) = false) := hid (decide_eq_false (fun e => hlen (by rw [e])))
    clear hlen
    go_enter Tryz.func86, Tryz.ntmps86
    go_wp2
    go_ret
    exact ⟨ret_bool HE.out.symm, Below.refl _ _⟩
end Go.Proofs.YtddmfdjkkikapaaGreatDoor
/-
  More context: whether a hunk stands in a text.
-/
namespace Go.Proofs.YtddmfdjkkikapaaGreatDoor.Hu
/-- the old lines stand there, and nothing goes on behind new ones that lack an end -/
def stB (a o f : List ByteArray) (P : Int) : Bool := decide (P + o.length ≤ a.length) && !(lack f && decide (P + o.length < a.length)) && decide (sl a P (P + o.length) = o)
end Go.Proofs.YtddmfdjkkikapaaGreatDoor.Hu
namespace Go.Proofs.YtddmfdjkkikapaaGreatDoor
open Go.RowKit
open Hu (Rw Hk)

theorem spot_old (x y : Int) (w : World) : (Instr.field 78 (.agg #[.int .i64 x, .int .i64 y]) 0).run Tryz.prog w = .ok (.int .i64 x) w := by kernel_rfl
attribute [local go_sem] spot_old
set_option maxHeartbeats 2000000 in
set_option maxRecDepth 100000 in
theorem standsIn_any {w : World} {h : Hk} {v va : Value} {a : List ByteArray} (hv : RdW w v h.rows) (ha : RdT w va a) (hz : SzH h) (hvl : Hu.vld h = true) (hla : a.length < 8796093022200) :
    Calls Tryz.prog 41 #[HkV h v, va] w fun e w' => e = .returned (.bool (Hu.stB a (Hu.olds h.rows) (Hu.fres h.rows) (Hu.plc h.a h.n))) ∧ Below w.heap.size w w' := by
  obtain ⟨hl, hs, hh⟩ := hz
  obtain ⟨p0, p1, p2, p3, p9⟩ := Hu.vld_parts hvl
  obtain ⟨P, hP⟩ : ∃ P : Nat, Hu.plc h.a h.n = (P : Int) := ⟨(Hu.plc h.a h.n).toNat, by unfold Hu.plc; split <;> omega⟩
  have hPle : P ≤ 4294967296 := by have : Hu.plc h.a h.n ≤ 4294967296 := by unfold Hu.plc; split <;> omega
                                   omega
  have HBG := hid (fun w1 => begin_any (v := v) w1 (vld_pl hvl))
  have HSD := hid (fun w1 (hb : Below w.heap.size w w1) => sides_any (h := h) (hv.below hb) hl)
  have hol : (Hu.olds h.rows).length < 8796093022200 := by have := Hu.olds_len h.rows; omega
  have hfl : (Hu.fres h.rows).length < 8796093022200 := by have := Hu.fres_len h.rows; omega
  have HLK := hid (fun w1 v1 (hr : RdT w1 v1 (Hu.fres h.rows)) => lacksEnd_any hr hfl (fun x hx => by obtain ⟨r, hr, e⟩ := fres_mem hx; rw [← e]; exact hs r hr))
  have HA := hid ha
  have HV := hid hv
  obtain ⟨av, cv, rfl⟩ := hv.shape
  obtain ⟨aa, ca, rfl⟩ := ha.shape
  have hcap := rd_cap ha
  obtain ⟨ha0, hn', hb', hm', hh', l⟩ := h
  dsimp only at HV hl HSD HBG hol hfl HLK hP p1 ⊢
  obtain ⟨N, hN⟩ : ∃ N, N = (Hu.olds l).length := ⟨_, rfl⟩
  have HN := hid hN
  have HST : Hid (Hu.stB a (Hu.olds l) (Hu.fres l) (Hu.plc ha0 hn') = (decide ((P : Int) + N ≤ a.length) && !(Hu.lack (Hu.fres l) && decide ((P : Int) + N < a.length)) && decide ((a.drop P).take N = Hu.olds l))) := hid (by
    unfold Hu.stB Hu.sl
    rw [hP, hN]
    have e1 : ((P : Int)).toNat = P := by omega
    have e2 : ((P : Int) + ((Hu.olds l).length : Int) - (P : Int)).toNat = (Hu.olds l).length := by omega
    rw [e1, e2])
  rw [HST.out]
  rw [← hN] at p1 hol
  subst p1
  unfold HkV at HSD HBG ⊢
  dsimp only at HSD HBG ⊢
  rw [hP] at HBG
  obtain ⟨n, hn⟩ : ∃ n, n = l.length := ⟨_, rfl⟩
  rw [← hn] at HV HSD HBG hl ⊢
  obtain ⟨L, hL⟩ : ∃ L, L = a.length := ⟨_, rfl⟩
  rw [← hL] at HA hla hcap ⊢
  generalize Hu.lack (Hu.fres l) = q1 at HLK ⊢
  obtain ⟨R, hR⟩ : ∃ R, R = (decide ((P : Int) + N ≤ L) && !(q1 && decide ((P : Int) + N < L)) && decide ((a.drop P).take N = Hu.olds l)) := ⟨_, rfl⟩
  rw [← hR]
  have HR := hid hR
  have HL := hid hL
  clear hR
  clear hv hn hs hh ha hvl hL hN HST p0 p2 p3 p9 hP
  generalize Hu.plc hb' hm' = Qp at HBG
  have hb0 := (Below.refl w.heap.size w).alloc (Nat.le_refl _) (.cells #[.int .i64 ha0, .int .i64 (N : Nat), .int .i64 hb', .int .i64 hm', .string hh', .slice av n cv] 37)
  have hk0 := heap_alloc_new w (.cells #[.int .i64 ha0, .int .i64 (N : Nat), .int .i64 hb', .int .i64 hm', .string hh', .slice av n cv] 37)
  go_enter Tryz.func41, Tryz.ntmps41
  go_wp2_with fail
  generalize w.alloc (.cells #[.int .i64 ha0, .int .i64 (N : Nat), .int .i64 hb', .int .i64 hm', .string hh', .slice av n cv] 37) = w0 at hb0 hk0 ⊢
  refine (HBG.out w0).mono ?_
  rintro e w1 ⟨rfl, hb1⟩
  have HB1 := hid (hb0.trans (hb1.mono hb0.size))
  have hk1 := (hb1.block w.heap.size (lt_of_heap hk0)).trans hk0
  have c0 : w1.cell? ⟨w.heap.size, 0, none⟩ = some (.int .i64 ha0) := cell_of_blk hk1 0
  have c1 : w1.cell? ⟨w.heap.size, 1, none⟩ = some (.int .i64 (N : Nat)) := cell_of_blk hk1 1
  have c2 : w1.cell? ⟨w.heap.size, 2, none⟩ = some (.int .i64 hb') := cell_of_blk hk1 2
  have c3 : w1.cell? ⟨w.heap.size, 3, none⟩ = some (.int .i64 hm') := cell_of_blk hk1 3
  have c4 : w1.cell? ⟨w.heap.size, 4, none⟩ = some (.string hh') := cell_of_blk hk1 4
  have c5 : w1.cell? ⟨w.heap.size, 5, none⟩ = some (.slice av n cv) := cell_of_blk hk1 5
  have i1 : IntKind.i64.wrap ((L : Int) - (N : Int)) = (L : Int) - (N : Int) := wrapOk (by omega) (by omega)
  obtain ⟨E, hE⟩ : ∃ E, E = P + N := ⟨_, rfl⟩
  have i2 : IntKind.i64.wrap ((P : Int) + (N : Int)) = (E : Int) := (wrapOk (by omega) (by omega)).trans (by omega)
  unfold SpV
  clear hb0 hb1 hk0
  by_cases hfit : P + N ≤ L
  · have g1 : ¬ (L : Int) - (N : Int) < (P : Int) := by omega
    have HR2 : Hid (R = (!(q1 && decide ((P : Int) + N < L)) && decide ((a.drop P).take N = Hu.olds l))) := hid (by
      rw [HR.out, decide_eq_true (show (P : Int) + N ≤ L by omega), Bool.true_and])
    clear HR
    go_wp2_with fail
    refine (HSD.out w1 HB1.out).mono ?_
    rintro e w2 ⟨v1, v2, rfl, hT, hb2⟩
    obtain ⟨a1, k1, rfl⟩ := own_shape hT.1
    obtain ⟨a2, k2, rfl⟩ := own_shape hT.2.1
    have HO : Hid (RdT w2 (.slice a1 (Hu.olds l).length k1) (Hu.olds l)) := hid (own_rd hT.1)
    have HF : Hid (RdT w2 (.slice a2 (Hu.fres l).length k2) (Hu.fres l)) := hid (own_rd hT.2.1)
    have HB2 := hid (HB1.out.trans (hb2.mono HB1.out.size))
    have hk2 := (hb2.block w.heap.size (lt_of_heap hk1)).trans hk1
    have d1 : w2.cell? ⟨w.heap.size, 1, none⟩ = some (.int .i64 (N : Nat)) := cell_of_blk hk2 1
    rw [← HN.out]
    clear hb2 hT hk1 c0 c1 c2 c3 c4 c5
    go_wp2_with fail
    refine (HLK.out _ _ HF.out).mono ?_
    rintro e w3 ⟨rfl, h3⟩
    rw [h3]
    clear h3 w3
    have hEq := hid (equalS_any (m := Hu.olds l) (rdT_sliced (by rw [← HL.out]; exact HA.out.below HB2.out) (x := P) (y := E) (by omega) (by have := HL.out; omega)) HO.out (by rw [List.length_take]; omega) (by have := HN.out; omega))
    rw [← HN.out] at hEq
    obtain ⟨A1, hA1⟩ : ∃ A1, (if ca = P then aa else aa.map (·.add P)) = A1 := ⟨_, rfl⟩
    rw [hA1] at hEq
    have HEN : Hid (E - P = N) := hid (by omega)
    have j1 : (0 : Int) ≤ (P : Int) := by omega
    have j2 : (P : Int) ≤ (E : Int) := by omega
    have j3 : (E : Int) ≤ (ca : Int) := by omega
    have j4 : (P : Int) ≤ (ca : Int) := by omega
    cases q1 with
    | false =>
      have HR3 : Hid (R = decide ((a.drop P).take (E - P) = Hu.olds l)) := hid (by rw [HR2.out, HEN.out]; rfl)
      clear HR2 hE
      go_wp2_with fail
      refine hEq.out.mono ?_
      rintro e w4 ⟨rfl, hb4⟩
      have HB4 := hid (HB2.out.trans (hb4.mono HB2.out.size))
      rw [← HR3.out]
      clear hb4
      go_wp2_with fail
      go_ret
      exact ⟨rfl, HB4.out⟩
    | true =>
      by_cases hlt : E < L
      · have g2 : (E : Int) < (L : Int) := by omega
        have HR3 : Hid (R = false) := hid (by rw [HR2.out, decide_eq_true (show (P : Int) + N < L by omega)]; rfl)
        clear HR2 hE
        go_wp2_with fail
        go_ret
        exact ⟨ret_bool HR3.out.symm, HB2.out⟩
      · have g2 : ¬ (E : Int) < (L : Int) := by omega
        have HR3 : Hid (R = decide ((a.drop P).take (E - P) = Hu.olds l)) := hid (by rw [HR2.out, HEN.out, decide_eq_false (show ¬ (P : Int) + N < L by omega)]; rfl)
        clear HR2 hE
        go_wp2_with fail
        refine hEq.out.mono ?_
        rintro e w4 ⟨rfl, hb4⟩
        have HB4 := hid (HB2.out.trans (hb4.mono HB2.out.size))
        rw [← HR3.out]
        clear hb4
        go_wp2_with fail
        go_ret
        exact ⟨rfl, HB4.out⟩
  · have g1 : (L : Int) - (N : Int) < (P : Int) := by omega
    have HR2 : Hid (R = false) := hid (by
      rw [HR.out, decide_eq_false (show ¬ (P : Int) + N ≤ L by omega), Bool.false_and, Bool.false_and])
    clear HR
    go_wp2_with fail
    go_ret
    exact ⟨ret_bool HR2.out.symm, by first | exact below_drewN HB1.out _ | exact HB1.out⟩
end Go.Proofs.YtddmfdjkkikapaaGreatDoor
/-
  More context: the rows that come ahead and behind.
-/
namespace Go.Proofs.YtddmfdjkkikapaaGreatDoor.Hu
/-- how many rows of the text come ahead, and behind -/
def wBf (rows : List Rw) (ctx : Int) (P : Nat) : Nat := min (ctx.toNat - (arF rows.length (runsR rows 0 0)).1) P
def wAf (rows : List Rw) (ctx : Int) (R : Nat) : Nat := min (ctx.toNat - (rows.length - (arF rows.length (runsR rows 0 0)).2)) R
/-- the wider rows -/
def wRows (a : List ByteArray) (rows : List Rw) (ctx : Int) (P N : Nat) : List Rw :=
  mk 1 ((a.drop (P - wBf rows ctx P)).take (wBf rows ctx P)) ++ rows ++ mk 1 ((a.drop (P + N)).take (wAf rows ctx (a.length - (P + N))))
/-- the wider hunk -/
def wideH (h : Hk) (a : List ByteArray) (ctx : Int) : Hk :=
  { hunkAt (plc h.a h.n - wBf h.rows ctx (plc h.a h.n).toNat) (plc h.b h.m - wBf h.rows ctx (plc h.a h.n).toNat) (wRows a h.rows ctx (plc h.a h.n).toNat (olds h.rows).length) with head := h.head }
end Go.Proofs.YtddmfdjkkikapaaGreatDoor.Hu
namespace Go.Proofs.YtddmfdjkkikapaaGreatDoor
open Go.RowKit
open Hu (Rw Hk)

/-- append of rows that came in to a row of the call's own -/
theorem wpList_append_rdw {w : World} {ops : Array Oper} {rest : List Oper} {o : Oper} {a : Act} {Q : Exit → Act → World → Prop} (hgd : o.guard = none) (s x : Operand)
    (ho : o.op = .call { callee := .builtin .append, args := #[s, x], argTypes := #[35, 35] }) (B : Nat) (v : Value) (l : List Rw) (hs : a.eval s = v) (hown : OwnW w B v l)
    (u : Value) (m : List Rw) (hx : a.eval x = u) (hm : RdW w u m) (hne : m ≠ []) (hfit : l.length + m.length < 5864062014800) (hB : B ≤ w.heap.size)
    (h : ∀ v' w', OwnW w' B v' (l ++ m) → Below B w w' → wpList Tryz.prog ops Q rest (a.put o.dst v') w') : wpList Tryz.prog ops Q (o :: rest) a w := by
  obtain ⟨i0, hi, hz0, hz1, hz2⟩ := info_parts Tryz.infoRow
  have hml : 0 < m.length := List.length_pos_iff.2 hne
  rcases hm with ⟨h0, _⟩ | ⟨b, o', c, hv, hc, hb, hX⟩
  · omega
  subst hv
  refine wpList_append_lies _ hgd s x 35 ho B 59 i0 (.agg #[.int .i64 0, .string .empty]) 2 24 Tryz.underlying35 hi hz0 hz1 hz2 rfl (by decide) v l.length (rwsC l) hs hown ⟨b, o', none⟩ m.length c (rwsC m) hx (rwsC_length m) ?_ (rwsC_one m) hml ?_ ?_ hB w.heap.size rfl ?_
  · intro j u hj
    rw [Go.WideShapes.add_plain]
    exact hX j u hj
  · unfold maxLen; omega
  · omega
  · intro g' cap w' g2 g3 g4 _
    refine h _ w' ?_ ((Below.refl _ _).grown g3 hB (own_ge hown))
    show w'.ownsRow _ _ _ _ _ _
    rw [List.length_append, rwsC_append]
    exact g2
end Go.Proofs.YtddmfdjkkikapaaGreatDoor
/-
  More context: the walk of widened.
-/
namespace Go.Proofs.YtddmfdjkkikapaaGreatDoor
open Go.RowKit
open Hu (Rw Hk)

theorem spot_old' (x y : Int) (w : World) : (Instr.field 78 (.agg #[.int .i64 x, .int .i64 y]) 0).run Tryz.prog w = .ok (.int .i64 x) w := by kernel_rfl
theorem spot_new' (x y : Int) (w : World) : (Instr.field 78 (.agg #[.int .i64 x, .int .i64 y]) 1).run Tryz.prog w = .ok (.int .i64 y) w := by kernel_rfl
attribute [local go_sem] spot_old' spot_new'
theorem nmax (x y : Nat) : max ((x : Int) - (y : Int)) 0 = ((x - y : Nat) : Int) := by omega
theorem nmin (x y : Nat) : min (x : Int) (y : Int) = ((min x y : Nat) : Int) := by omega
set_option maxHeartbeats 1000000 in
set_option maxRecDepth 100000 in
theorem widened_any {w : World} {h : Hk} {v va : Value} {a : List ByteArray} {C : Nat} (hv : RdW w v h.rows) (ha : RdT w va a) (hz : SzH h) (hvl : Hu.vld h = true) (hla : a.length < 8796093022200) (hC : C ≤ 2147483647) (hfit : Hu.plc h.a h.n + (Hu.olds h.rows).length ≤ a.length) :
    Calls Tryz.prog 42 #[HkV h v, va, .int .i64 (C : Nat)] w fun e w' => ∃ v', e = .returned (HkV (Hu.wideH h a (C : Nat)) v') ∧ OwnW w' w.heap.size v' (Hu.wideH h a (C : Nat)).rows ∧ Below w.heap.size w w' := by
  obtain ⟨hl, hs, hh⟩ := hz
  obtain ⟨p0, p1, p2, p3, p4, p5, p6, p7, p8⟩ := Hu.vld_parts hvl
  obtain ⟨P, hP⟩ : ∃ P : Nat, Hu.plc h.a h.n = (P : Int) := ⟨(Hu.plc h.a h.n).toNat, by unfold Hu.plc; split <;> omega⟩
  obtain ⟨Q, hQ⟩ : ∃ Q : Nat, Hu.plc h.b h.m = (Q : Int) := ⟨(Hu.plc h.b h.m).toNat, by unfold Hu.plc; split <;> omega⟩
  have hPle : P ≤ 4294967296 := by
    have : Hu.plc h.a h.n ≤ 4294967296 := by unfold Hu.plc; split <;> omega
    omega
  have hQle : Q ≤ 4294967296 := by
    have : Hu.plc h.b h.m ≤ 4294967296 := by unfold Hu.plc; split <;> omega
    omega
  have HBG := hid (fun w1 => begin_any (v := v) w1 (vld_pl hvl))
  have HAR := hid (fun w1 (hb : Below w.heap.size w w1) => around_any (hv.below hb) hl)
  have HKD : Hid (Kd h.rows) := hid (fun r hr => by
    unfold Hu.areR at p0
    rw [Bool.and_eq_true] at p0
    have := List.all_eq_true.1 p0.1 r hr
    unfold Hu.isC at this
    simp only [Bool.or_eq_true, beq_iff_eq] at this
    omega)
  have hnl0 : h.rows.length ≤ 4294967296 := by
    have h1 : h.rows.length ≤ (Hu.olds h.rows).length + (Hu.fres h.rows).length := rows_le (by unfold Hu.areR at p0; rw [Bool.and_eq_true] at p0; exact p0.1)
    omega
  have HNE : Hid (h.rows ≠ []) := hid (fun e => by rw [e] at p0; cases p0)
  have HA := hid ha
  have HV := hid hv
  obtain ⟨av, cv, rfl⟩ := hv.shape
  obtain ⟨aa, ca, rfl⟩ := ha.shape
  have hcap := rd_cap ha
  obtain ⟨ha0, hn', hb', hm', hh', l⟩ := h
  dsimp only at HV hl HBG hP hQ p1 HAR HKD HNE hfit hnl0 ⊢
  clear p0 p2 p3 p4 p5 p6 p7 p8 hs hh hvl hv ha
  have har := Hu.arF_le (n := l.length) (d := Hu.runsR l 0 0) (fun r hr => runs_le r hr)
  obtain ⟨N, hN⟩ : ∃ N, N = (Hu.olds l).length := ⟨_, rfl⟩
  obtain ⟨n, hn⟩ : ∃ n, n = l.length := ⟨_, rfl⟩
  obtain ⟨L, hL⟩ : ∃ L, L = a.length := ⟨_, rfl⟩
  obtain ⟨A, hA⟩ : ∃ A, A = (Hu.arF l.length (Hu.runsR l 0 0)).1 := ⟨_, rfl⟩
  obtain ⟨Z, hZ⟩ : ∃ Z, Z = (Hu.arF l.length (Hu.runsR l 0 0)).2 := ⟨_, rfl⟩
  rw [← hA, ← hZ, ← hn] at har
  rw [← hN, hP, ← hL] at hfit
  obtain ⟨D, hD⟩ : ∃ D, D = n - Z := ⟨_, rfl⟩
  obtain ⟨BF, hBF⟩ : ∃ BF, BF = Hu.wBf l (C : Nat) P := ⟨_, rfl⟩
  obtain ⟨AF, hAF⟩ : ∃ AF, AF = Hu.wAf l (C : Nat) (L - (P + N)) := ⟨_, rfl⟩
  have hBF2 : BF = min (C - A) P := by rw [hBF, hA]; unfold Hu.wBf; simp
  have hAF2 : AF = min (C - D) (L - (P + N)) := by rw [hAF, hD, hn, hZ]; unfold Hu.wAf; simp
  obtain ⟨E, hE⟩ : ∃ E, E = P + N := ⟨_, rfl⟩
  obtain ⟨X0, hX0⟩ : ∃ X0, X0 = P - BF := ⟨_, rfl⟩
  obtain ⟨E2, hE2⟩ : ∃ E2, E2 = E + AF := ⟨_, rfl⟩
  obtain ⟨Y0, hY0⟩ : ∃ Y0 : Int, Y0 = (Q : Int) - (BF : Int) := ⟨_, rfl⟩
  obtain ⟨T1, hT1⟩ : ∃ T1, T1 = (a.drop X0).take (P - X0) := ⟨_, rfl⟩
  obtain ⟨T2, hT2⟩ : ∃ T2, T2 = (a.drop E).take (E2 - E) := ⟨_, rfl⟩
  have HWH : Hid (Hu.wideH ⟨ha0, hn', hb', hm', hh', l⟩ a (C : Nat) = { Hu.hunkAt (X0 : Nat) Y0 (Hu.mk 1 T1 ++ l ++ Hu.mk 1 T2) with head := hh' }) := hid (by
    unfold Hu.wideH Hu.wRows
    simp only [hP, hQ, Int.toNat_natCast]
    rw [← hBF, ← hN, ← hL, ← hAF, hT1, hT2, hX0, hE2, hE, hY0]
    rw [show ((P - BF : Nat) : Int) = (P : Int) - (BF : Int) by omega, show P - (P - BF) = BF by omega, show P + N + AF - (P + N) = AF by omega])
  rw [HWH.out]
  obtain ⟨W1, hW1⟩ : ∃ W1, W1 = Hu.mk 1 T1 ++ l := ⟨_, rfl⟩
  obtain ⟨W2, hW2⟩ : ∃ W2, W2 = W1 ++ Hu.mk 1 T2 := ⟨_, rfl⟩
  rw [← hW1, ← hW2]
  have HW1 := hid hW1
  have HW2 := hid hW2
  have HKW : Hid (Kd W2) := hid (by
    rw [hW2, hW1]
    intro r hr
    simp only [List.mem_append] at hr
    rcases hr with (hr | hr) | hr
    · unfold Hu.mk at hr; obtain ⟨x, _, rfl⟩ := List.mem_map.1 hr; exact .inl rfl
    · exact HKD.out r hr
    · unfold Hu.mk at hr; obtain ⟨x, _, rfl⟩ := List.mem_map.1 hr; exact .inl rfl)
  rw [← hn] at hnl0
  have HT1 := hid hT1
  have HT2 := hid hT2
  obtain ⟨M1, hM1⟩ : ∃ M1, M1 = C - A := ⟨_, rfl⟩
  obtain ⟨M2, hM2⟩ : ∃ M2, M2 = C - D := ⟨_, rfl⟩
  obtain ⟨G, hG⟩ : ∃ G, G = L - E := ⟨_, rfl⟩
  rw [← hM1] at hBF2
  rw [← hM2, ← hE, ← hG] at hAF2
  have i3 : max ((C : Int) - (A : Int)) 0 = (M1 : Int) := by rw [hM1]; exact nmax _ _
  have i4 : min (M1 : Int) (P : Int) = (BF : Int) := by rw [hBF2]; exact nmin _ _
  have i6 : max ((C : Int) - (D : Int)) 0 = (M2 : Int) := by rw [hM2]; exact nmax _ _
  have i8 : min (M2 : Int) (G : Int) = (AF : Int) := by rw [hAF2]; exact nmin _ _
  have b1 : BF ≤ P := by rw [hBF2]; exact Nat.min_le_right _ _
  have b2 : BF ≤ C := by rw [hBF2, hM1]; exact Nat.le_trans (Nat.min_le_left _ _) (Nat.sub_le _ _)
  have b3 : AF ≤ G := by rw [hAF2]; exact Nat.min_le_right _ _
  have b4 : AF ≤ C := by rw [hAF2, hM2]; exact Nat.le_trans (Nat.min_le_left _ _) (Nat.sub_le _ _)
  have b5 : D + Z = n := by rw [hD]; exact Nat.sub_add_cancel har.2
  have b6 : X0 + BF = P := by rw [hX0]; exact Nat.sub_add_cancel b1
  have b7 : G + E = L := by rw [hG]; exact Nat.sub_add_cancel (by rw [hE]; omega)
  have hT1l : T1.length ≤ 2147483648 := by rw [hT1, hX0]; exact Nat.le_trans (List.length_take_le _ _) (by rw [← hX0]; omega)
  have hT2l : T2.length ≤ 2147483648 := by rw [hT2]; exact Nat.le_trans (List.length_take_le _ _) (by rw [hE2]; omega)
  have hW1l : W1.length ≤ 9000000000 := by rw [hW1, List.length_append, ← hn]; unfold Hu.mk; rw [List.length_map]; omega
  have hW2l : W2.length ≤ 12000000000 := by rw [hW2, List.length_append]; unfold Hu.mk; rw [List.length_map]; omega
  clear hW1 hW2
  clear hBF hAF hBF2 hAF2 hX0 hG hM1 hM2 hD hT1 hT2 HWH
  obtain ⟨S1, hS1⟩ : ∃ S1, S1 = BF + n := ⟨_, rfl⟩
  obtain ⟨S2, hS2⟩ : ∃ S2, S2 = S1 + AF := ⟨_, rfl⟩
  rw [← hN] at p1
  subst p1
  have HHK := hid (fun (w7 : World) (v7 : Value) (hr : RdW w7 v7 W2) => hunk_any (x := (X0 : Nat)) (y := Y0) hr (by omega) HKW.out (by omega) (by omega) (by omega) (by omega))
  unfold HkV at HBG HHK ⊢
  dsimp only at HBG HHK ⊢
  unfold Hu.hunkAt SpV at HHK
  unfold Hu.hunkAt
  dsimp only at HHK ⊢
  generalize Hu.told (X0 : Nat) (Hu.olds W2).length = TX at HHK ⊢
  generalize Hu.told Y0 (Hu.fres W2).length = TY at HHK ⊢
  generalize (Hu.olds W2).length = ON at HHK ⊢
  generalize (Hu.fres W2).length = FN at HHK ⊢
  rw [hP, hQ] at HBG
  rw [← hA, ← hZ, ← hn, show (n : Int) - (Z : Int) = (D : Int) by omega] at HAR
  have HN := hid hn
  have HL := hid hL
  rw [← hn] at HBG hl ⊢
  rw [← hL] at hla hcap ⊢
  have i1 : IntKind.i64.wrap ((P : Int) + (N : Int)) = (E : Int) := (wrapOk (by omega) (by omega)).trans (by omega)
  have i2 : IntKind.i64.wrap ((C : Int) - (A : Int)) = (C : Int) - (A : Int) := wrapOk (by omega) (by omega)
  have i5 : IntKind.i64.wrap ((C : Int) - (D : Int)) = (C : Int) - (D : Int) := wrapOk (by omega) (by omega)
  have i7 : IntKind.i64.wrap ((L : Int) - (E : Int)) = (G : Int) := (wrapOk (by omega) (by omega)).trans (by omega)
  have i9 : IntKind.i64.wrap ((BF : Int) + (n : Int)) = (S1 : Int) := (wrapOk (by omega) (by omega)).trans (by omega)
  have i10 : IntKind.i64.wrap ((S1 : Int) + (AF : Int)) = (S2 : Int) := (wrapOk (by omega) (by omega)).trans (by omega)
  have i11 : IntKind.i64.wrap ((P : Int) - (BF : Int)) = (X0 : Int) := (wrapOk (by omega) (by omega)).trans (by omega)
  have i12 : IntKind.i64.wrap ((E : Int) + (AF : Int)) = (E2 : Int) := (wrapOk (by omega) (by omega)).trans (by omega)
  have i13 : IntKind.i64.wrap ((Q : Int) - (BF : Int)) = Y0 := (wrapOk (by omega) (by omega)).trans (by omega)
  have j1 : (0 : Int) ≤ (X0 : Int) := by omega
  have j2 : (X0 : Int) ≤ (P : Int) := by omega
  have j3 : (P : Int) ≤ (ca : Int) := by omega
  have j4 : (0 : Int) ≤ (E : Int) := by omega
  have j5 : (E : Int) ≤ (E2 : Int) := by omega
  have j6 : (E2 : Int) ≤ (ca : Int) := by omega
  have hY0b : -4611686018427387904 ≤ Y0 ∧ Y0 ≤ 4611686018427387904 := by omega
  have hS2b : S2 ≤ 9000000000 := by omega
  have k1 : X0 ≤ P ∧ P ≤ L ∧ E ≤ E2 ∧ E2 ≤ L ∧ P ≤ 4294967296 := by omega
  obtain ⟨A1, hA1⟩ : ∃ A1, (if ca = X0 then aa else aa.map (·.add X0)) = A1 := ⟨_, rfl⟩
  obtain ⟨A2, hA2⟩ : ∃ A2, (if ca = E then aa else aa.map (·.add E)) = A2 := ⟨_, rfl⟩
  clear hn hL hN hA hZ har hP hQ hfit hE hE2 hY0 hS1 hS2 b1 b2 b3 b4 b5 b6 b7
  obtain ⟨t1, t2, t3, t4⟩ := two' w (.cells #[.int .i64 ha0, .int .i64 (N : Nat), .int .i64 hb', .int .i64 hm', .string hh', .slice av n cv] 37) (.cells #[.int .i64 0, .int .i64 0, .int .i64 0, .int .i64 0, .string ⟨#[]⟩, .slice none 0 0] 37)
  unfold SpV at HBG
  go_enter Tryz.func42, Tryz.ntmps42
  go_wp2_with fail
  generalize (w.alloc (.cells #[.int .i64 ha0, .int .i64 (N : Nat), .int .i64 hb', .int .i64 hm', .string hh', .slice av n cv] 37)).alloc (.cells #[.int .i64 0, .int .i64 0, .int .i64 0, .int .i64 0, .string ⟨#[]⟩, .slice none 0 0] 37) = w0 at t1 t2 t3 t4 ⊢
  refine (HBG.out w0).mono ?_
  rintro e w1 ⟨rfl, hb1⟩
  have HB1 := hid (t1.trans (hb1.mono t1.size))
  have hk1 := (hb1.block w.heap.size (lt_of_heap t2)).trans t2
  have hg1 := (hb1.block (w.heap.size + 1) (lt_of_heap t3)).trans t3
  have ht2 := heap_alloc_new w1 (.cells #[.int .i64 (P : Nat), .int .i64 (Q : Nat)] 78)
  have hb2 := (Below.refl w1.heap.size w1).alloc (Nat.le_refl _) (.cells #[.int .i64 (P : Nat), .int .i64 (Q : Nat)] 78)
  have HB2 := hid (HB1.out.trans (hb2.mono HB1.out.size))
  have hk2 := (hb2.block w.heap.size (lt_of_heap hk1)).trans hk1
  have hg2 := (hb2.block (w.heap.size + 1) (lt_of_heap hg1)).trans hg1
  have c1 : (w1.alloc (.cells #[.int .i64 (P : Nat), .int .i64 (Q : Nat)] 78)).cell? ⟨w.heap.size, 1, none⟩ = some (.int .i64 (N : Nat)) := cell_of_blk hk2 1
  have c5 : (w1.alloc (.cells #[.int .i64 (P : Nat), .int .i64 (Q : Nat)] 78)).cell? ⟨w.heap.size, 5, none⟩ = some (.slice av n cv) := cell_of_blk hk2 5
  obtain ⟨sb, hsb⟩ : ∃ sb, sb = w1.heap.size := ⟨_, rfl⟩
  have HSB := hid hsb
  clear hb1 t1 t2 t3 t4 hk1 hg1 hb2 hsb
  go_wp2_with fail
  generalize w1.alloc (.cells #[.int .i64 (P : Nat), .int .i64 (Q : Nat)] 78) = w2 at ht2 HB2 hk2 hg2 c1 c5 ⊢
  rw [← HSB.out] at ht2 ⊢
  refine (HAR.out w2 HB2.out).mono ?_
  rintro e w3 ⟨rfl, hb3⟩
  have HB3 := hid (HB2.out.trans (hb3.mono HB2.out.size))
  have hk3 := (hb3.block w.heap.size (lt_of_heap hk2)).trans hk2
  have ht3 := (hb3.block sb (lt_of_heap ht2)).trans ht2
  have HK3 := hid hk3
  have HT3 := hid ht3
  have HG3 := hid ((hb3.block (w.heap.size + 1) (lt_of_heap hg2)).trans hg2)
  have c5 : w3.cell? ⟨w.heap.size, 5, none⟩ = some (.slice av n cv) := cell_of_blk hk3 5
  have s0 : w3.cell? ⟨sb, 0, none⟩ = some (.int .i64 (P : Nat)) := cell_of_blk ht3 0
  have s1 : w3.cell? ⟨sb, 1, none⟩ = some (.int .i64 (Q : Nat)) := cell_of_blk ht3 1
  obtain ⟨j0, hj, hz0, hz1, hz2⟩ := info_parts Tryz.infoRow
  clear hb3 hk2 hg2 c1 hk3 ht2 ht3
  have HCE : Hid (∀ w4, Below w3.heap.size w3 w4 → w4.cell? ⟨w.heap.size, 5, none⟩ = some (.slice av n cv) ∧ w4.cell? ⟨sb, 0, none⟩ = some (.int .i64 (P : Nat)) ∧ w4.cell? ⟨sb, 1, none⟩ = some (.int .i64 (Q : Nat)) ∧ w4.cell? ⟨w.heap.size, 4, none⟩ = some (.string hh')) := hid (fun w4 hb4 => by
    have q1 := (hb4.block w.heap.size (lt_of_heap HK3.out)).trans HK3.out
    have q2 := (hb4.block sb (lt_of_heap HT3.out)).trans HT3.out
    exact ⟨cell_of_blk q1 5, cell_of_blk q2 0, cell_of_blk q2 1, cell_of_blk q1 4⟩)
  have HAU : Hid (Under w3.heap.size (.slice aa L ca)) := hid (by rw [HL.out]; exact HA.out.under.mono HB3.out.size)
  have HVU : Hid (Under w3.heap.size (.slice av n cv)) := hid (by rw [HN.out]; exact HV.out.under.mono HB3.out.size)
  have HP1 : Hid (∀ (w5 : World) (v5 : Value) (Y : List Rw), OwnW w5 w3.heap.size v5 Y → Below w3.heap.size w3 w5 → Y.length ≤ 5000000000 → Calls Tryz.prog 72 #[v5, .int .i64 1, .slice A1 (P - X0) (ca - X0)] w5 fun e w' => ∃ v', e = .returned v' ∧ OwnW w' w3.heap.size v' (Y ++ Hu.mk 1 T1) ∧ Below w3.heap.size w5 w') := hid (fun w5 v5 Y ho hb5 hY => by
    have h1 := rdT_sliced (x := X0) (y := P) ((HA.out.below HB3.out).keep (by rw [← HL.out]; exact HAU.out) hb5) k1.1 (by rw [← HL.out]; exact k1.2.1)
    have h2 := under_sliced (x := X0) (n' := P - X0) (c' := ca - X0) HA.out (B := w3.heap.size) (by rw [← HL.out]; exact HAU.out) (by rw [← HL.out]; omega)
    rw [hA1] at h1 h2
    rw [← HT1.out] at h1
    exact (appendRows_any (kd := 1) ho hb5.size h1 h2 (by omega)).mono (fun e w' ⟨v', q1, q2, q3, _⟩ => ⟨v', q1, q2, q3⟩))
  have HP2 : Hid (∀ (w5 : World) (v5 : Value) (Y : List Rw), OwnW w5 w3.heap.size v5 Y → Below w3.heap.size w3 w5 → Y.length ≤ 9000000000 → Calls Tryz.prog 72 #[v5, .int .i64 1, .slice A2 (E2 - E) (ca - E)] w5 fun e w' => ∃ v', e = .returned v' ∧ OwnW w' w3.heap.size v' (Y ++ Hu.mk 1 T2) ∧ Below w3.heap.size w5 w') := hid (fun w5 v5 Y ho hb5 hY => by
    have h1 := rdT_sliced (x := E) (y := E2) ((HA.out.below HB3.out).keep (by rw [← HL.out]; exact HAU.out) hb5) k1.2.2.1 (by rw [← HL.out]; exact k1.2.2.2.1)
    have h2 := under_sliced (x := E) (n' := E2 - E) (c' := ca - E) HA.out (B := w3.heap.size) (by rw [← HL.out]; exact HAU.out) (by rw [← HL.out]; omega)
    rw [hA2] at h1 h2
    rw [← HT2.out] at h1
    exact (appendRows_any (kd := 1) ho hb5.size h1 h2 (by omega)).mono (fun e w' ⟨v', q1, q2, q3, _⟩ => ⟨v', q1, q2, q3⟩))
  go_wp2_with (at_make; refine wpList_make_own _ rfl _ _ 35 rfl w3.heap.size 59 j0 (.agg #[.int .i64 0, .string .empty]) 2 Tryz.underlying35 hj hz0 hz1 .i64 .i64 _ S2 rfl rfl rfl (by rw [hz2]; omega) (by unfold maxLen; omega) (Nat.le_refl _) ?_; intro w4 hown4 hgrow4; have HO4 := hid hown4; have HB4 := hid ((Below.refl w3.heap.size w3).grown hgrow4 (Nat.le_refl _) (fun k hk => by cases hk)); obtain ⟨c5, s0, s1, c4⟩ := HCE.out w4 HB4.out; clear hown4 hgrow4)
  clear c5 s0 s1 c4
  refine (HP1.out w4 _ [] HO4.out HB4.out (by simp)).mono ?_
  rintro e w5 ⟨v5, rfl, hO5, hb5⟩
  rw [List.nil_append] at hO5
  obtain ⟨a5, q5, rfl⟩ := own_shape hO5
  have HO5 := hid hO5
  have HB5 := hid (HB4.out.trans hb5)
  obtain ⟨c5, s0, s1, c4⟩ := HCE.out w5 HB5.out
  have HR5 : Hid (RdW w5 (.slice av n cv) l) := hid (by have := (HV.out.below HB3.out).keep (by rw [← HN.out]; exact HVU.out) HB5.out; rw [← HN.out] at this; show RdX _ _ l.length _; rw [← HN.out]; exact this)
  have HT1l : Hid ((Hu.mk 1 T1).length ≤ 2147483648) := hid (by unfold Hu.mk; rw [List.length_map]; exact hT1l)
  clear hO5 hb5 s0 s1 c4 HO4
  go_wp2_with (at_builtin; refine wpList_append_rdw rfl _ _ rfl w3.heap.size _ (Hu.mk 1 T1) rfl HO5.out _ l rfl HR5.out HNE.out (by have := HT1l.out; have := HN.out; omega) HB5.out.size ?_; intro v6 w6 hO6 hb6; rw [← HW1.out] at hO6; obtain ⟨a6, q6, e6⟩ := own_shape hO6; subst e6; have HO6 := hid hO6; have HB6 := hid (HB5.out.trans hb6); clear hO6 hb6; obtain ⟨d5, s0, s1, c4⟩ := HCE.out w6 HB6.out)
  clear c5 d5 s0 s1 c4
  refine (HP2.out w6 _ W1 HO6.out HB6.out hW1l).mono ?_
  rintro e w7 ⟨v7, rfl, hO7, hb7⟩
  rw [← HW2.out] at hO7
  obtain ⟨a7, q7, rfl⟩ := own_shape hO7
  have HO7 := hid hO7
  have HB7 := hid (HB6.out.trans hb7)
  obtain ⟨c5, s0, s1, c4⟩ := HCE.out w7 HB7.out
  clear hO7 hb7 HO6 HO5 c5
  go_wp2_with fail
  refine (HHK.out w7 _ (own_rd HO7.out)).mono ?_
  rintro e w8 ⟨rfl, hb8⟩
  have HO8 := hid (own_stays HO7.out hb8)
  have HB8 := hid (HB7.out.trans (hb8.mono HB7.out.size))
  obtain ⟨c5, s0, s1, c4⟩ := HCE.out w8 HB8.out
  obtain ⟨R, hR⟩ : ∃ R, R = w.heap.size + 1 := ⟨_, rfl⟩
  have HR8 : Hid (w8.heap[R]? = some (.cells #[.int .i64 0, .int .i64 0, .int .i64 0, .int .i64 0, .string ⟨#[]⟩, .slice none 0 0] 37)) := hid (by rw [hR]; exact (HB8.out.block (w.heap.size + 1) (lt_of_heap HG3.out)).trans HG3.out)
  have HRne : Hid (w.heap.size ≠ R ∧ w.heap.size ≤ R ∧ R < w3.heap.size) := hid ⟨by omega, by omega, by rw [hR]; exact lt_of_heap HG3.out⟩
  rw [← hR]
  have HWR : Hid (w.heap.size ≤ R) := hid HRne.out.2.1
  have HOR : Hid (∀ q, (Value.slice a7 W2.length q7).ownBlock = some q → q ≠ R ∧ q < w8.heap.size) := hid (fun q hq => by
    have := own_ge HO8.out q hq
    have := own_lt HO8.out q hq
    have := HRne.out.2.2
    omega)
  have HBW8 := hid (HB3.out.trans (HB8.out.mono HB3.out.size))
  have hb9 := (Below.refl w8.heap.size w8).alloc (Nat.le_refl _) (.cells #[.int .i64 TX, .int .i64 (ON : Nat), .int .i64 TY, .int .i64 (FN : Nat), .string .empty, .slice a7 W2.length q7] 37)
  have hG9 := heap_alloc_new w8 (.cells #[.int .i64 TX, .int .i64 (ON : Nat), .int .i64 TY, .int .i64 (FN : Nat), .string .empty, .slice a7 W2.length q7] 37)
  have e4 := (HCE.out _ (HB8.out.trans (hb9.mono HB8.out.size))).2.2.2
  have hb10 := (Below.refl w8.heap.size w8).alloc (Nat.le_refl _) (.cells #[.int .i64 TX, .int .i64 (ON : Nat), .int .i64 TY, .int .i64 (FN : Nat), .string hh', .slice a7 W2.length q7] 37)
  have hRl := lt_of_heap HR8.out
  have hR10 := (hb10.block R hRl).trans HR8.out
  have z0 : (w8.alloc (.cells #[.int .i64 TX, .int .i64 (ON : Nat), .int .i64 TY, .int .i64 (FN : Nat), .string hh', .slice a7 W2.length q7] 37)).cell? ⟨R, 0, none⟩ = some (.int .i64 0) := cell_of_blk hR10 0
  have z1 : (w8.alloc (.cells #[.int .i64 TX, .int .i64 (ON : Nat), .int .i64 TY, .int .i64 (FN : Nat), .string hh', .slice a7 W2.length q7] 37)).cell? ⟨R, 1, none⟩ = some (.int .i64 0) := cell_of_blk hR10 1
  have z2 : (w8.alloc (.cells #[.int .i64 TX, .int .i64 (ON : Nat), .int .i64 TY, .int .i64 (FN : Nat), .string hh', .slice a7 W2.length q7] 37)).cell? ⟨R, 2, none⟩ = some (.int .i64 0) := cell_of_blk hR10 2
  have z3 : (w8.alloc (.cells #[.int .i64 TX, .int .i64 (ON : Nat), .int .i64 TY, .int .i64 (FN : Nat), .string hh', .slice a7 W2.length q7] 37)).cell? ⟨R, 3, none⟩ = some (.int .i64 0) := cell_of_blk hR10 3
  have z4 : (w8.alloc (.cells #[.int .i64 TX, .int .i64 (ON : Nat), .int .i64 TY, .int .i64 (FN : Nat), .string hh', .slice a7 W2.length q7] 37)).cell? ⟨R, 4, none⟩ = some (.string ⟨#[]⟩) := cell_of_blk hR10 4
  have z5 : (w8.alloc (.cells #[.int .i64 TX, .int .i64 (ON : Nat), .int .i64 TY, .int .i64 (FN : Nat), .string hh', .slice a7 W2.length q7] 37)).cell? ⟨R, 5, none⟩ = some (.slice none 0 0) := cell_of_blk hR10 5
  have zf : ∀ j, (w8.alloc (.cells #[.int .i64 TX, .int .i64 (ON : Nat), .int .i64 TY, .int .i64 (FN : Nat), .string hh', .slice a7 W2.length q7] 37)).frozen? ⟨R, j, none⟩ = false := fun j => frozen_of_blk hR10 j
  have HB10 := hid (HBW8.out.trans (hb10.mono HBW8.out.size))
  have HO10 : Hid (OwnW (w8.alloc (.cells #[.int .i64 TX, .int .i64 (ON : Nat), .int .i64 TY, .int .i64 (FN : Nat), .string hh', .slice a7 W2.length q7] 37)) w3.heap.size (.slice a7 W2.length q7) W2) := hid (own_stays HO8.out hb10)
  have HR10 := hid hR10
  have HSZ : Hid (w.heap.size ≤ w3.heap.size) := hid HB3.out.size
  clear hR hb8 s0 s1 c5 c4 hG9 hb9 hb10 hR10 hRl
  go_wp2_with fail
  have hk6 := (set_heap _ R 5 _ _ (.slice a7 W2.length q7) (set_heap _ R 4 _ _ (.string hh') (set_heap _ R 3 _ _ (.int .i64 (FN : Nat)) (set_heap _ R 2 _ _ (.int .i64 TY) (set_heap _ R 1 _ _ (.int .i64 (ON : Nat)) (set_heap _ R 0 _ _ (.int .i64 TX) HR10.out))))))
  have HB11 := hid (below_set (k := 5) (u := .slice a7 W2.length q7) (below_set (k := 4) (u := .string hh') (below_set (k := 3) (u := .int .i64 (FN : Nat)) (below_set (k := 2) (u := .int .i64 TY) (below_set (k := 1) (u := .int .i64 (ON : Nat)) (below_set (k := 0) (u := .int .i64 TX) HB10.out HWR.out) HWR.out) HWR.out) HWR.out) HWR.out) HWR.out)
  have HO11 : Hid (OwnW (((((((w8.alloc (.cells #[.int .i64 TX, .int .i64 (ON : Nat), .int .i64 TY, .int .i64 (FN : Nat), .string hh', .slice a7 W2.length q7] 37)).setCell ⟨R, 0, none⟩ (.int .i64 TX)).setCell ⟨R, 1, none⟩ (.int .i64 (ON : Nat))).setCell ⟨R, 2, none⟩ (.int .i64 TY)).setCell ⟨R, 3, none⟩ (.int .i64 (FN : Nat))).setCell ⟨R, 4, none⟩ (.string hh')).setCell ⟨R, 5, none⟩ (.slice a7 W2.length q7)) w3.heap.size (.slice a7 W2.length q7) W2) := hid (own_far HO10.out (fun q hq => by
    have hne : q ≠ R := (HOR.out q hq).1
    exact (set_other _ hne).trans ((set_other _ hne).trans ((set_other _ hne).trans ((set_other _ hne).trans ((set_other _ hne).trans (set_other _ hne)))))))
  generalize (((((((w8.alloc (.cells #[.int .i64 TX, .int .i64 (ON : Nat), .int .i64 TY, .int .i64 (FN : Nat), .string hh', .slice a7 W2.length q7] 37)).setCell ⟨R, 0, none⟩ (.int .i64 TX)).setCell ⟨R, 1, none⟩ (.int .i64 (ON : Nat))).setCell ⟨R, 2, none⟩ (.int .i64 TY)).setCell ⟨R, 3, none⟩ (.int .i64 (FN : Nat))).setCell ⟨R, 4, none⟩ (.string hh')).setCell ⟨R, 5, none⟩ (.slice a7 W2.length q7)) = w11 at hk6 HB11 HO11 ⊢
  have y0 : w11.cell? ⟨R, 0, none⟩ = some (.int .i64 TX) := cell_of_blk hk6 0
  have y1 : w11.cell? ⟨R, 1, none⟩ = some (.int .i64 (ON : Nat)) := cell_of_blk hk6 1
  have y2 : w11.cell? ⟨R, 2, none⟩ = some (.int .i64 TY) := cell_of_blk hk6 2
  have y3 : w11.cell? ⟨R, 3, none⟩ = some (.int .i64 (FN : Nat)) := cell_of_blk hk6 3
  have y4 : w11.cell? ⟨R, 4, none⟩ = some (.string hh') := cell_of_blk hk6 4
  have y5 : w11.cell? ⟨R, 5, none⟩ = some (.slice a7 W2.length q7) := cell_of_blk hk6 5
  exact bodyPost_ret (v := .agg #[.int .i64 TX, .int .i64 (ON : Nat), .int .i64 TY, .int .i64 (FN : Nat), .string hh', .slice a7 W2.length q7]) (by simp [results, Tryz.results42, go_sem, y0, y1, y2, y3, y4, y5]) rfl ⟨.slice a7 W2.length q7, rfl, own_mono HO11.out HSZ.out, HB11.out⟩
end Go.Proofs.YtddmfdjkkikapaaGreatDoor
