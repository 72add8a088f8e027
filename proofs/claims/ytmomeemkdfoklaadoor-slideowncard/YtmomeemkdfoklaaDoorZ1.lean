/-
  A map from numbers to numbers; the walk of far.
-/
import Derived.Test.YtmomeemkdfoklaaDoorZ0
import Derived.Test.YtmomeemkdfoklaaDoorDe
import Derived.Maps.OwnSet
import Derived.Maps.OwnOps
import Derived.OwnWalk
import Derived.Laws.MakeOwn
import Derived.BigQuiet
import Derived.Deep.QuietTactic
import Derived.Deep.LoopGhost
import Derived.Deep.DeepCutAuto
import Derived.Deep.Cut
import Derived.Deep.CutRange
namespace Go.Proofs.YtmomeemkdfoklaaDoor
open Go.RowKit
open Ed (Ch Run Pr)
open Go.Maps (Keyed Tidy)

theorem intLaw : Keyed Tryd.prog 3 := Maps.int_keyed Tryd.underlying3
theorem zeroInt (w : World) : (zeroValue 3).run Tryd.prog w = .ok (.int .i64 0) w := by kernel_rfl
theorem isKey_int (k : Int) : WideAt.IsKeyLit (.int .i64 k) := by first | exact ⟨_, rfl⟩ | trivial | simp [WideAt.IsKeyLit]
/-- a map's datum: where each number leads -/
def Bgn (D : DataW Unit) (bg : Int → Int) : Prop := Tidy D ∧ ∀ x : Int, D.atKey (.int .i64 x) (.lit (.int .i64 0)) = .lit (.int .i64 (bg x))
theorem bgn_nil : Bgn (.map []) (fun _ => 0) := ⟨Maps.tidy_empty, fun _ => rfl⟩
theorem Bgn.put {D : DataW Unit} {bg : Int → Int} (h : Bgn D bg) (k p : Int) : Bgn (D.put (.int .i64 k) (.lit (.int .i64 p))) (fun x => if x = k then p else bg x) := by
  obtain ⟨ht, hk⟩ := h
  refine ⟨ht.put (isKey_int k) _, fun j => ?_⟩
  by_cases hj : j = k
  · subst hj
    rw [Maps.atKey_put_same ht.isMap (isKey_int j)]
    show _ = DataW.lit (Lit.int .i64 (if j = j then p else bg j))
    rw [if_pos rfl]
  · have hne : (Lit.int .i64 j) ≠ .int .i64 k := fun e => hj (by cases e; rfl)
    rw [Maps.atKey_put_other hne, hk j]
    show _ = DataW.lit (Lit.int .i64 (if j = k then p else bg j))
    rw [if_neg hj]
def BgAt (w : World) (M n : Nat) (bg : Int → Int) : Prop := ∃ D : DataW Unit, w.ownsMap Tryd.prog 3 (plainElem Tryd.prog 3) M n D ∧ Bgn D bg
theorem BgAt.far {w w' : World} {M n : Nat} {bg : Int → Int} (h : BgAt w M n bg) (hb : w'.heap[M]? = w.heap[M]?) : BgAt w' M n bg := by
  obtain ⟨D, ⟨es, clock, hm, r⟩, hc⟩ := h
  exact ⟨D, ⟨es, clock, hb.trans hm, r⟩, hc⟩
theorem BgAt.lt {w : World} {M n : Nat} {bg : Int → Int} (h : BgAt w M n bg) : M < w.heap.size := by
  obtain ⟨D, h1, _⟩ := h
  exact h1.lt
abbrev trkC (va : Value) (M : Nat) : Obj := .cells #[va, .map (some M)] 75
structure TrkAt (w : World) (gt M n : Nat) (va : Value) (bg : Int → Int) : Prop where
  blk : w.heap[gt]? = some (trkC va M)
  map : BgAt w M n bg
theorem TrkAt.far {w w' : World} {gt M n : Nat} {va : Value} {bg : Int → Int} (h : TrkAt w gt M n va bg) (h1 : w'.heap[gt]? = w.heap[gt]?) (h2 : w'.heap[M]? = w.heap[M]?) : TrkAt w' gt M n va bg := ⟨h1.trans h.blk, h.map.far h2⟩
theorem kept_of_grown {w w' : World} {g : Nat} (h : w.grownBy w' (some g)) : Kept (fun j => j = g) w w' :=
  ⟨h.os, h.tape, h.output, h.size, fun i hi hx => h.block i hi (fun e => hx (Option.some.inj e))⟩
theorem Kept.refl (X : Nat → Prop) (w : World) : Kept X w w := ⟨rfl, rfl, rfl, Nat.le_refl _, fun _ _ _ => rfl⟩
theorem Kept.drewN {X : Nat → Prop} {w w' : World} (h : Kept X w w') (q : Nat) : Kept X w (w'.drewN q) := ⟨h.os, h.tape, h.output, h.size, h.block⟩
theorem Kept.of_below {X : Nat → Prop} {w w' : World} (h : Below w.heap.size w w') : Kept X w w' := ⟨h.os, h.tape, h.output, h.size, fun g hg _ => h.block g hg⟩

set_option maxHeartbeats 8000000 in
set_option maxRecDepth 100000 in
theorem far_any {w0 w : World} {gt M n p k lim : Nat} {va : Value} {row : List Int} {bg : Int → Int} (hv : RdI w0 va row) (hl : row.length ≤ 4194304) (hB : Below w0.heap.size w0 w) (hM : w0.heap.size ≤ M) (hgM : gt ≠ M) (hT : TrkAt w gt M n va bg) (hn : n ≤ 100000000)
    (hlim : lim ≤ row.length) (hpk : p + k ≤ lim) (hk : 0 < k) (hK : Ed.Kn row lim bg) (K : Nat) (hKK : K = Ed.farI row p k lim) :
    Calls Tryd.prog 38 #[.pointer (some ⟨gt, 0, none⟩), .int .i64 p, .int .i64 k, .int .i64 lim] w fun e w' =>
      e = .returned (.int .i64 K) ∧ (∃ n', n' ≤ n + 1 ∧ TrkAt w' gt M n' va (fun x => if x = (k : Int) then (p : Int) else bg x)) ∧ Kept (fun j => j = M) w w' := by
  obtain ⟨av, cv, rfl⟩ := hv.shape
  have HV := hid hv
  have HB := hid hB
  have HT := hid hT
  have HFAR := hid (Ed.farI_far row p k lim)
  rw [← hKK] at HFAR
  have HKN := hid hK
  obtain ⟨D, hown, hbgn⟩ := hT.map
  have HBG := hid hbgn
  have HAT := hid (hbgn.2 (k : Int))
  have t0 : w.cell? ⟨gt, 0, none⟩ = some (.slice av row.length cv) := cell_of_blk hT.blk 0
  have t1 : w.cell? ⟨gt, 1, none⟩ = some (.map (some M)) := cell_of_blk hT.blk 1
  have hgl := lt_of_heap hT.blk
  obtain ⟨NR, hNR⟩ : ∃ NR, NR = row.length := ⟨_, rfl⟩
  have HNR := hid hNR
  rw [← hNR] at HV t0 hlim hl HT
  obtain ⟨bk, hbk⟩ : ∃ bk, bk = bg k := ⟨_, rfl⟩
  rw [← hbk] at HAT
  have HBK := hid hbk
  have HKEY : Hid (keyOf Tryd.prog 3 (.int .i64 (k : Int)) = some (.int .i64 (k : Int))) := hid (Maps.keyOf_int_mk Tryd.underlying3 (WalkArith.wf_i64 (by omega)))
  obtain ⟨c, hrun, hat, hwc⟩ := (hown.drew).lookup_int (t := 73) intLaw Tryd.underlying73 Tryd.underlying3 (zeroInt _) HKEY.out
  obtain rfl : c = bk := by (rw [HAT.out] at hat; injection hat with h1; injection h1 with h2 h3; exact h3.symm)
  clear hat hwc
  clear hv hB hT hK hKK hbgn hNR hbk
  go_enter Tryd.func38, Tryd.ntmps38
  go_wp2_with fail
  go_region
  go_upto_region 3 with (at_mapUpdate; refine wpList_mapUpdate_own _ rfl _ _ _ 73 rfl 3 3 intLaw Tryd.underlying73 _ M n D rfl hown.drew (by unfold maxLen; omega) _ _ _ rfl rfl HKEY.out (.lit (.int .i64 (p : Int))) [] (plainElem_int Tryd.underlying3 (WalkArith.wf_i64 (by omega))) ?_; intro w2 hown2 hg2)
  have HM2 : Hid (BgAt w2 M (n + 1) (fun x => if x = (k : Int) then (p : Int) else bg x)) := hid ⟨_, hown2, HBG.out.put k p⟩
  have HK2 : Hid (Kept (fun j => j = M) w w2) := hid (by have h : Kept (fun j => j = M) w.drew w2 := kept_of_grown hg2; exact ⟨h.os, h.tape, h.output, h.size, h.block⟩)
  have t0' : w2.cell? ⟨gt, 0, none⟩ = some (.slice av NR cv) := (HK2.out.cell hgl hgM).trans t0
  have HB2 : Hid (Below w0.heap.size w0 w2) := hid (HB.out.trans (HK2.out.below (fun j e => by rw [e]; exact hM) HB.out.size))
  have HKle : Hid (∀ i : Nat, i < K → p + i + k < lim ∧ row[p + i]? = row[p + i + k]?) := hid (fun i hi => by
    have h := HFAR.out.1 i hi
    refine ⟨by omega, ?_⟩
    have h2 := h.2
    rw [show ((p : Int) + (i : Int)).toNat = p + i by omega, show ((p : Int) + (i : Int) + (k : Int)).toNat = p + i + k by omega] at h2
    exact h2)
  have HKend : Hid (¬ (p + K + k < lim ∧ row[p + K]? = row[p + K + k]?)) := hid (fun h => HFAR.out.2 ⟨by omega, by
    rw [show ((p : Int) + (K : Int)).toNat = p + K by omega, show ((p : Int) + (K : Int) + (k : Int)).toNat = p + K + k by omega]
    exact h.2⟩)
  have HKlim : Hid (p + K + k ≤ lim) := hid (by
    rcases Nat.eq_zero_or_pos K with e | e
    · omega
    · have := (HKle.out (K - 1) (by omega)).1; omega)
  have HJUMP : Hid (∀ x : Nat, x < p + K → ((x : Int) + 1) = c → p + K + k = lim) := hid (fun x hx he => by
    have h0 := HKlim.out
    rcases Nat.lt_or_ge (p + K + k) lim with q | q
    · exfalso
      refine HKend.out ⟨q, ?_⟩
      have h := HKN.out (k : Int) (by rw [← HBK.out]; omega) ((p + K : Nat) : Int) (by rw [← HBK.out]; omega) (by omega)
      rw [show (((p + K : Nat) : Int)).toNat = p + K by omega, show (((p + K : Nat) : Int) + (k : Int)).toNat = p + K + k by omega] at h
      exact h
    · omega)
  clear hown hown2 hg2 hrun t0 t1 HFAR HKN HB HAT HBG HKEY
  simp only [Act.put]
  go_loopw [9] (fun ii wr => ∃ x : Nat, ii = .int .i64 x ∧ p ≤ x ∧ x ≤ p + K ∧ ∃ q, wr = w2.drewN q) (fun ii _ => p + K - (intOf ii).toNat)
  case atStart => exact ⟨p, rfl, Nat.le_refl _, by omega, 0, rfl⟩
  case round =>
    obtain ⟨x, rfl, hx1, hx2, q, rfl⟩ := hrel
    obtain ⟨Y, hY⟩ : ∃ Y, Y = x + k := ⟨_, rfl⟩
    have hYl : Y ≤ 8388608 := by have := HKlim.out; omega
    have i0 : IntKind.i64.wrap ((x : Int) + (k : Int)) = (Y : Int) := (wrapOk (by omega) (by omega)).trans (by omega)
    have HY := hid hY
    clear hY
    go_upto_region 3 with fail
    go_cut [47] (fun c wx => c = .bool (decide (x < p + K)) ∧ ∃ q, wx = w2.drewN q)
    case first =>
      by_cases hyl : Y < lim
      · have e1 : decide ((Y : Int) < (lim : Int)) = true := decide_eq_true (by omega)
        obtain ⟨z, hz⟩ : ∃ z, row[x]? = some z := ⟨_, List.getElem?_eq_getElem (by have := HNR.out; have := HY.out; omega)⟩
        obtain ⟨z', hz'⟩ : ∃ z', row[Y]? = some z' := ⟨_, List.getElem?_eq_getElem (by have := HNR.out; omega)⟩
        have HE : Hid ((z == z') = decide (x < p + K)) := hid (by
          rw [Bool.eq_iff_iff, beq_iff_eq, decide_eq_true_eq]
          have hy := HY.out
          constructor
          · intro e
            rcases Nat.lt_or_ge x (p + K) with q | q
            · exact q
            · obtain rfl : x = p + K := by omega
              exact absurd ⟨by omega, by rw [← hy, hz, hz', e]⟩ HKend.out
          · intro hlt
            have h := (HKle.out (x - p) (by omega)).2
            rw [show p + (x - p) = x by omega, ← hy, hz, hz', Option.some.injEq] at h
            exact h)
        obtain ⟨b1, o1, rfl, hb1, d1⟩ := rdI_at (HNR.out ▸ HV.out) hz
        obtain ⟨b2, o2, e2, hb2, d2⟩ := rdI_at (HNR.out ▸ HV.out) hz'
        cases e2
        have d1' := (HB2.out.cell (p := ⟨b1, o1 + x, none⟩) hb1).trans d1
        have d2' := (HB2.out.cell (p := ⟨b1, o1 + Y, none⟩) hb1).trans d2
        have i1 : (0 : Int) ≤ (x : Int) := by omega
        have i2 : (x : Int) < (NR : Int) := by have := HY.out; omega
        have i3 : (0 : Int) ≤ (Y : Int) := by omega
        have i4 : (Y : Int) < (NR : Int) := by omega
        clear hz hz' d1 d2
        go_quiet (fail)
        go_wp2
        go_meet
        exact ⟨by rw [HE.out], _, by first | rfl | exact World.drewN_drewN _ _ _⟩
      · have e1 : decide ((Y : Int) < (lim : Int)) = false := decide_eq_false (by omega)
        have HE : Hid (decide (x < p + K) = false) := hid (decide_eq_false (fun h => by
          have := (HKle.out (x - p) (by omega)).1
          have := HY.out
          omega))
        go_quiet (fail)
        go_wp2
        go_meet
        exact ⟨by rw [HE.out], _, by first | rfl | exact World.drewN_drewN _ _ _⟩
    case rest =>
      obtain ⟨rfl, q1, rfl⟩ := hcut
      by_cases hlt : x < p + K
      · rw [decide_eq_true hlt]
        have j0 : IntKind.i64.wrap ((x : Int) + 1) = (x : Int) + 1 := wrapOk (by omega) (by have := HKlim.out; omega)
        by_cases hj : ((x : Int) + 1) = c
        · have z1 : (((x : Int) + 1) == c) = true := by rw [hj]; simp
          have hend := HJUMP.out x hlt hj
          have j1 : IntKind.i64.wrap ((lim : Int) - (k : Int)) = ((p + K : Nat) : Int) := (wrapOk (by omega) (by omega)).trans (by omega)
          obtain ⟨E, hE⟩ : ∃ E, E = p + K := ⟨_, rfl⟩
          rw [← hE] at j1
          have HE := hid hE
          clear hj hend hE
          go_wp2
          go_roundw
          case rel => exact ⟨E, rfl, by have := HE.out; omega, by have := HE.out; omega, _, rfl⟩
          case measure => have := HE.out; simp [intOf]; omega
        · have z1 : (((x : Int) + 1) == c) = false := by rw [beq_eq_false_iff_ne]; exact hj
          clear hj
          go_wp2
          go_roundw
          case rel => exact ⟨x + 1, by push_cast; rfl, by omega, by omega, _, rfl⟩
          case measure => simp [intOf]; omega
      · rw [decide_eq_false hlt]
        obtain rfl : x = p + K := by omega
        have j1 : IntKind.i64.wrap (((p + K : Nat) : Int) - (p : Int)) = (K : Int) := (wrapOk (by omega) (by have := HKlim.out; omega)).trans (by omega)
        rw [Int.natCast_add] at j1
        go_wp2
        go_ret
        exact ⟨rfl, ⟨n + 1, Nat.le_refl _, ⟨(HK2.out.block gt hgl hgM).trans (by have h := HT.out.blk; rw [HNR.out] at h; exact h), HM2.out⟩⟩, HK2.out.drewN _⟩
end Go.Proofs.YtmomeemkdfoklaaDoor
