/-
  Several texts in one: Jr, Jh.
-/
import Derived.RangeFuncNested
import Derived.RangeFuncBound
import Derived.RangeFuncCalls
import Derived.RangeFuncLeaves
import Derived.Shelf.Abstract
import Derived.Shelf.RegionOpen
import Derived.WalkKit
import Derived.OwnWalkIn
import Derived.TacticsInMore
import Derived.LoopNIn
import Derived.LoopIn
import Derived.Test.YtddmfdjkkikapaaGreatDoorGrJ6
/-
  A range over a function whose first round returns.
-/
namespace Go.Proofs.YtddmfdjkkikapaaGreatDoor
open Go.RowKit Go.Shelf

theorem below_put {B l : Nat} {W : World} {o : Obj} (h : B ≤ l) : Below B W (W.putObj l o) :=
  ⟨rfl, rfl, rfl, by simp, fun j hj => World.putObj_heap_other (by omega)⟩
theorem range_ret {P : Program} {n : Nat} {g : Operand} {ps : Array Tmp} {assign body : Code} {Q : Exit → Act → World → Prop} {a : Act} {w : World} {gf : Nat} {lb : Array Value}
    (hg : a.eval g = .func (.func gf) #[] lb) (eg : ∀ args w, (callFunc gf args).run P w = .ok (.enter gf args) w) (enc : Array Value) (I0 I1 : World → Prop) (Ax : Act → World → Prop)
    (low0 : ∀ W W', I0 W → Below w.heap.size W W' → I0 W') (low1 : ∀ W W', I1 W → Below w.heap.size W W' → I1 W')
    (box : ∀ a W l o o', Ax a W → W.heap[l]? = some o → o.isCells = false → Ax a (W.putObj l o'))
    (fits : enc.size = ps.size)
    (hassign : ∀ (l : Nat) (W : World) (K : Act → World → Prop), I0 W → (∀ a' W', KeepsFrom w.heap.size W W' → I0 W' → Ax a' W' → K a' W') →
      assign.wpIn (Fence.wide.inRound l) (n - 1 - 1) P (Exit.then K (fun _ _ _ => False)) { tmps := (ps.zip enc).foldl (fun t (p, v) => t.setIfInBounds p v) a.tmps, defers := [] } W)
    (hbody : ∀ (l : Nat) (a' : Act) (W : World), w.heap.size ≤ l → I0 W → Ax a' W → body.wpIn (Fence.wide.inRound l) (n - 1 - 1) P (fun e _ W' => e = .ret ∧ KeepsFrom w.heap.size W W' ∧ I1 W') a' W)
    (h0 : I0 w)
    (hseq : ∀ (l : Nat) (J0 J1 : World → Prop) (W : World), (∀ W, J0 W → I0 W) → (∀ W, J0 W → YieldAt Fence.wide (n - 1 - 1) P l enc W fun e W' => e = .returned (.bool false) ∧ J1 W') → J0 W →
      CallsIn Fence.wide (n - 1) P gf (#[.func (.yield l) #[] #[]] ++ lb) W fun e W' => (∃ v, e = .returned v) ∧ J1 W')
    (hdone : ∀ (D : Nat) (W : World), w.heap.size ≤ D → I1 W → W.heap[D]? = some (.deferred (some [])) → Q .ret { a with defers := { target := .collected D, args := #[] } :: a.defers } W) :
    (Code.rangeFunc g ps assign body).wpIn Fence.wide n P Q a w := by
  refine wpIn_rangeFunc (fun fn hfn => ?_)
  obtain ⟨R, hRd⟩ : ∃ R : Loop, R = { state := .ready, pending := none, fn, tmps := a.tmps, params := ps, assign, body, defers := w.heap.size } := ⟨_, rfl⟩
  obtain ⟨L, hL⟩ : ∃ L, L = w.heap.size + 1 := ⟨_, rfl⟩
  obtain ⟨W1, hW1⟩ : ∃ W1, W1 = (w.alloc (.deferred (some []))).alloc (.loop R) := ⟨_, rfl⟩
  have b1 : Below w.heap.size w W1 := by rw [hW1]; exact ((Below.refl _ _).alloc (Nat.le_refl _) _).alloc (by simp) _
  have l1 : W1.heap[L]? = some (.loop R) := by
    rw [hW1, hL]
    have := World.alloc_heap_new (w.alloc (.deferred (some []))) (.loop R)
    rwa [World.size_alloc] at this
  have k1 : W1.heap[w.heap.size]? = some (.deferred (some [])) := by
    rw [hW1]
    exact (Below.heap_alloc _ _ _ (by simp)).trans (World.alloc_heap_new w _)
  obtain ⟨R2, hR2⟩ : ∃ R2 : Loop, R2 = { R with state := .done, pending := some .ret } := ⟨_, rfl⟩
  let J0 : World → Prop := fun W => I0 W ∧ W.heap[L]? = some (.loop R) ∧ W.heap[w.heap.size]? = some (.deferred (some []))
  let J1 : World → Prop := fun W => I1 W ∧ W.heap[L]? = some (.loop R2) ∧ W.heap[w.heap.size]? = some (.deferred (some []))
  have round : ∀ W, J0 W → YieldAt Fence.wide (n - 1 - 1) P L enc W fun e W' => e = .returned (.bool false) ∧ J1 W' := by
    rintro W ⟨hi, hl, hk⟩
    have y := run_yield (P := P) (args := enc) hl (by rw [hRd]; exact fits)
    rw [hRd] at y
    refine ⟨fn, _, assign, body, y, roundIn_of_wpIn hfn (hassign L W _ hi (fun a' W2 kf hi2 hax => ?_))⟩
    have hl2 := kf.same L _ (by omega) hl rfl
    have hk2 := kf.same w.heap.size _ (Nat.le_refl _) hk rfl
    have lt2 : L < W2.heap.size := (Array.getElem?_eq_some_iff.1 hl2).1
    refine ⟨_, run_beginRound hl2 (by rw [hRd]), ?_⟩
    have hi3 := low0 _ _ hi2 (below_put (W := W2) (l := L) (o := .loop { R with state := .busy }) (by omega))
    have hax3 := box a' W2 L _ (.loop { R with state := .busy }) hax hl2 rfl
    have hl3 : (W2.putObj L (.loop { R with state := .busy })).heap[L]? = some (.loop { R with state := .busy }) := World.putObj_heap_same lt2
    have hk3 : (W2.putObj L (.loop { R with state := .busy })).heap[w.heap.size]? = some (.deferred (some [])) := (World.putObj_heap_other (by omega)).trans hk2
    refine wpIn_mono (hbody L a' _ (by omega) hi3 hax3) ?_
    rintro e a4 W4 ⟨rfl, kf4, hi4⟩
    have hl4 := kf4.same L _ (by omega) hl3 rfl
    have hk4 := kf4.same w.heap.size _ (Nat.le_refl _) hk3 rfl
    have e4 := run_endRound (P := P) (some .ret) hl4
    refine ⟨_, _, e4, rfl, low1 _ _ hi4 (below_put (by omega)), ?_, (World.putObj_heap_other (by omega)).trans hk4⟩
    rw [World.putObj_heap_same (Array.getElem?_eq_some_iff.1 hl4).1, hR2]
    rfl
  have seq := hseq L J0 J1 W1 (fun W h => h.1) round ⟨low0 _ _ h0 b1, l1, k1⟩
  refine ⟨L, [{ target := .collected w.heap.size, args := #[] }], W1, { target := .fn (.func gf) lb, args := #[.func (.yield L) #[] #[]] }, W1, gf, #[.func (.yield L) #[] #[]] ++ lb, W1, ?_, ?_, fun _ _ => trivial, ?_, fun h => by simp [Fence.wide] at h, ?_⟩
  · rw [hW1, hRd, hL]
    exact run_enterLoop_outer _ _ _ _ _
  · simp only [resolve, hg]
    simp [go_sem]
  · simp [invoke, go_sem, eg]
  · refine seq.mono ?_
    rintro e W2 ⟨⟨v, rfl⟩, hi, hl, hk⟩
    have e2 := run_endLoop (P := P) hl (by rw [hR2]; simp)
    refine ⟨some .ret, _, by rw [hR2] at e2; exact e2, ?_⟩
    have hd := hdone w.heap.size (W2.putObj L (.loop { R2 with state := .exhausted })) (Nat.le_refl _) (low1 _ _ hi (below_put (by omega))) ((World.putObj_heap_other (by omega)).trans hk)
    rw [hR2] at hd
    exact wpIn_ret hd
end Go.Proofs.YtddmfdjkkikapaaGreatDoor
/-
  Head at the one input that the laws' works asks.
-/
namespace Go.Proofs.YtddmfdjkkikapaaGreatDoor
open Go.RowKit Go.Shelf
attribute [local go_sem] Oper.semAt_some

def lnF : ByteArray := ⟨#[102, 32, 123, 10]⟩
def txF : ByteArray := ⟨#[102, 32, 123]⟩
theorem lnF_bare : Cx.bareB lnF = txF := by decide +kernel
theorem txF_count : Lib.countByte txF.data.toList 9 = 0 := by decide +kernel
theorem txF_trim : (⟨(Lib.trimRightB txF.data.toList 32).toArray⟩ : ByteArray) = txF := by decide +kernel
theorem txF_ext : txF.extract 0 3 = txF := by decide +kernel
set_option maxHeartbeats 2000000 in
set_option maxRecDepth 100000 in
theorem isHeading_f (w : World) : Calls Tryz.prog 80 #[.string ⟨#[102, 32, 123, 10]⟩] w fun e w' => e = .returned (.bool true) ∧ w' = w := by
  go_enter Tryz.func80, Tryz.ntmps80
  go_wp2_with fail
  go_ret
  exact ⟨rfl, rfl⟩
set_option maxHeartbeats 2000000 in
set_option maxRecDepth 100000 in
theorem replaceAll_f (w : World) : Calls Tryz.prog 102 #[.string txF, .string ⟨#[9]⟩, .string ⟨#[32]⟩] w fun e w' => e = .returned (.string txF) ∧ w' = w := by
  have HC := hid (fun w1 => Tryz.strings_Count_one txF 9 w1)
  rw [txF_count] at HC
  generalize txF = T at HC ⊢
  have HR : Hid (∀ w1, Calls Tryz.prog 116 #[.string T, .string ⟨#[9]⟩, .string ⟨#[32]⟩, .int .i64 (-1)] w1 fun e w' => e = .returned (.string T) ∧ w' = w1) := hid (fun w1 => by
    go_enter Tryz.func116, Tryz.ntmps116
    go_wp2_with fail
    refine (HC.out _).mono ?_
    rintro e w2 ⟨rfl, h2⟩
    rw [h2]
    clear h2
    go_wp2_with fail
    go_ret
    exact ⟨rfl, rfl⟩)
  go_enter Tryz.func102, Tryz.ntmps102
  go_wp2_with fail
  refine (HR.out _).mono ?_
  rintro e w2 ⟨rfl, h2⟩
  rw [h2]
  clear h2
  go_wp2_with fail
  go_ret
  exact ⟨rfl, rfl⟩
set_option maxHeartbeats 4000000 in
set_option maxRecDepth 100000 in
theorem printable_f (w : World) : Calls Tryz.prog 104 #[.string ⟨#[102, 32, 123]⟩] w fun e w' => e = .returned (.int .i64 3) ∧ w' = w := by
  go_enter Tryz.func104, Tryz.ntmps104
  go_wp2_with fail
  refine wp_loop_rounds 4 ?_
  rw [rounds_succ]
  go_wp2_with fail
  rw [rounds_succ]
  go_wp2_with fail
  rw [rounds_succ]
  go_wp2_with fail
  rw [rounds_succ]
  go_wp2_with fail
  go_ret
  exact ⟨rfl, rfl⟩
set_option maxHeartbeats 4000000 in
set_option maxRecDepth 100000 in
theorem heading_f (w : World) : Calls Tryz.prog 62 #[.string ⟨#[102, 32, 123, 10]⟩] w fun e w' => e = .returned (.string ⟨#[102, 32, 123]⟩) ∧ w' = w := by
  have HB := hid (fun w1 => Cx.bare_any lnF w1 (by decide))
  rw [lnF_bare] at HB
  have HR := hid replaceAll_f
  have HP := hid printable_f
  have HT := hid (fun w1 => Tryz.strings_TrimRight_one txF 32 (by decide) w1 (by decide))
  rw [txF_trim] at HT
  have i1 : (txF.size : Int) = 3 := by decide
  have i2 : txF.size = 3 := by decide
  have e1 := txF_ext
  have e0 : lnF = ⟨#[102, 32, 123, 10]⟩ := rfl
  have e2 : txF = ⟨#[102, 32, 123]⟩ := rfl
  rw [e0] at HB
  rw [← e2] at HP
  have HE2 := hid e2
  clear e0 e2
  have e3 : txF.extract 0 (min (3 : Int) 40).toNat = txF := e1
  generalize txF = T at HB HR HP HT i1 i2 e1 HE2 e3
  rw [← HE2.out]
  go_enter Tryz.func62, Tryz.ntmps62
  go_wp2_with fail
  refine (HB.out _).mono ?_
  rintro e w2 ⟨rfl, h2⟩
  rw [h2]
  clear h2
  go_wp2_with fail
  refine (HR.out _).mono ?_
  rintro e w2 ⟨rfl, h2⟩
  rw [h2]
  clear h2
  go_wp2_with fail
  refine (HP.out _).mono ?_
  rintro e w2 ⟨rfl, h2⟩
  rw [h2]
  clear h2
  go_wp2_with fail
  refine (HT.out _).mono ?_
  rintro e w2 ⟨rfl, h2⟩
  rw [h2]
  clear h2
  go_wp2_with fail
  go_ret
  exact ⟨rfl, rfl⟩
set_option maxHeartbeats 2000000 in
set_option maxRecDepth 100000 in
theorem backwardS_any (w : World) (A : Option Addr) (n c : Nat) : Calls Tryz.prog 79 #[.slice A n c] w fun e w' => e = .returned (.func (.func 110) #[] #[.pointer (some ⟨w.heap.size, 0, none⟩)]) ∧ w' = w.alloc (.cells #[.slice A n c] 23) := by
  go_enter Tryz.func79, Tryz.ntmps79
  go_wp2_with fail
  go_ret
  exact ⟨rfl, rfl⟩
set_option maxHeartbeats 4000000 in
set_option maxRecDepth 100000 in
theorem backS_in (n L Bs b o c : Nat) (s : ByteArray) (J0 J1 : World → Prop) (hJ : ∀ W, J0 W → W.cell? ⟨Bs, 0, none⟩ = some (.slice (some ⟨b, o, none⟩) 1 c) ∧ W.cell? ⟨b, o, none⟩ = some (.string s))
    (hY : ∀ W, J0 W → YieldAt Fence.wide (n - 1) Tryz.prog L #[.int .i64 0, .string s] W fun e W' => e = .returned (.bool false) ∧ J1 W') (W : World) (h0 : J0 W) :
    CallsIn Fence.wide n Tryz.prog 110 #[.func (.yield L) #[] #[], .pointer (some ⟨Bs, 0, none⟩)] W fun e W' => (∃ v, e = .returned v) ∧ J1 W' := by
  obtain ⟨b0, b1⟩ := hJ W h0
  have H0 := hid h0
  have HJ := hid hJ
  have HY := hid hY
  clear h0 hJ hY
  refine callsIn_of_wp Tryz.func110 rfl trivial ?_ rfl
  simp only [Tryz.ntmps110, List.size_toArray, List.length_cons, List.length_nil, Nat.reduceAdd, Nat.reduceSub, Array.replicate_succ, Array.replicate_zero, List.push_toArray, List.append_toArray, List.nil_append, List.cons_append]
  gi_wp2
  gi_loopw [3] (fun p wr => p = .int .i64 0 ∧ J0 wr) (fun p _ => (intOf p + 1).toNat)
  case atStart => exact ⟨rfl, H0.out⟩
  case round =>
    obtain ⟨rfl, hJ0⟩ := hrel
    obtain ⟨c0, c1⟩ := HJ.out wr hJ0
    obtain ⟨fn, tmps, assign, body, hy, hR⟩ := HY.out wr hJ0
    gi_wp2
    refine ⟨fun h => by simp [Fence.wide] at h, ?_⟩
    refine hR.mono ?_
    rintro e W3 ⟨rfl, hJ3⟩
    gi_wp2
    first | (go_end0; exact ⟨⟨_, rfl⟩, hJ3⟩) | (refine bodyPost_ret (results_none rfl _ _ _) rfl ⟨⟨_, rfl⟩, hJ3⟩)
set_option maxHeartbeats 4000000 in
set_option maxRecDepth 100000 in
theorem head_f {w : World} {v : Value} (hv : RdT w v [⟨#[102, 32, 123, 10]⟩]) : Calls Tryz.prog 33 #[v, .int .i64 1] w fun e w' => e = .returned (.string ⟨#[102, 32, 123]⟩) ∧ Below w.heap.size w w' := by
  obtain ⟨av, cv, rfl⟩ := hv.shape
  obtain ⟨b, o, rfl, hb, d0⟩ := rdT_at hv (k := 0) (x := ⟨#[102, 32, 123, 10]⟩) rfl
  have hcap := rd_cap hv
  simp only [List.length_cons, List.length_nil, Nat.zero_add, Nat.add_zero] at hcap d0 ⊢
  have HH := hid isHeading_f
  have HG := hid heading_f
  have i1 : (1 : Int) ≤ (cv : Int) := by omega
  generalize (⟨#[102, 32, 123, 10]⟩ : ByteArray) = S at d0 HH HG
  generalize hT : (⟨#[102, 32, 123]⟩ : ByteArray) = T at HG ⊢
  have hb0 := (Below.refl w.heap.size w).alloc (Nat.le_refl _) (.cells #[.string ⟨#[]⟩] 9)
  have hk0 := heap_alloc_new w (.cells #[.string ⟨#[]⟩] 9)
  clear hv hcap hT
  refine (callsIn_wide (n := 4)).1 (callsIn_of_wp_marks Tryz.func33 rfl trivial ?_ rfl)
  simp only [Tryz.ntmps33, List.size_toArray, List.length_cons, List.length_nil, Nat.reduceAdd, Nat.reduceSub, Array.replicate_succ, Array.replicate_zero, List.push_toArray, List.append_toArray, List.nil_append, List.cons_append]
  gi_wp2
  rw [show (max (0 : Int) 1).toNat = 1 from by decide, show max (0 : Int) 1 = 1 from by decide]
  generalize w.alloc (.cells #[.string ⟨#[]⟩] 9) = w1 at hb0 hk0 ⊢
  refine ⟨trivial, ?_⟩
  refine (callsIn_wide.2 (backwardS_any _ _ _ _)).mono ?_
  rintro e w2 ⟨rfl, h2⟩
  have hbn := (Below.refl w1.heap.size w1).alloc (Nat.le_refl _) (.cells #[.slice (some ⟨b, o, none⟩) 1 cv] 23)
  have hkB := heap_alloc_new w1 (.cells #[.slice (some ⟨b, o, none⟩) 1 cv] 23)
  rw [← h2] at hbn hkB
  clear h2
  obtain ⟨R, hR⟩ : ∃ R, R = w.heap.size := ⟨_, rfl⟩
  obtain ⟨Bs, hBs⟩ : ∃ Bs, Bs = w1.heap.size := ⟨_, rfl⟩
  rw [← hR] at hk0
  rw [← hBs] at hkB
  have hk2 := (hbn.block R (lt_of_heap hk0)).trans hk0
  have HB2 := hid (hb0.trans (hbn.mono hb0.size))
  have d2 : w2.cell? ⟨b, o, none⟩ = some (.string S) := (HB2.out.cell (p := ⟨b, o, none⟩) hb).trans d0
  have hlR : R < w2.heap.size := lt_of_heap hk2
  have hlB : Bs < w2.heap.size := lt_of_heap hkB
  have hlb : b < w2.heap.size := Nat.lt_of_lt_of_le hb HB2.out.size
  have HWR : Hid (w.heap.size ≤ R) := hid (by omega)
  rw [← hR, ← hBs]
  clear hb0 hk0 hbn hR hBs d0 hb
  gi_wp2
  refine range_ret (n := 4) (gf := 110) (lb := #[.pointer (some ⟨Bs, 0, none⟩)]) rfl (enters_of Tryz.func110 (by kernel_rfl) rfl) #[.int .i64 0, .string S]
    (fun W => W.heap[Bs]? = some (.cells #[.slice (some ⟨b, o, none⟩) 1 cv] 23) ∧ W.cell? ⟨b, o, none⟩ = some (.string S) ∧ W.heap[R]? = some (.cells #[.string ⟨#[]⟩] 9) ∧ Below w.heap.size w W)
    (fun W => W.heap[R]? = some (.cells #[.string T] 9) ∧ Below w.heap.size w W)
    (fun a' _ => a' = { tmps := #[.slice (some ⟨b, o, none⟩) 1 cv, .int .i64 1, undef, undef, .pointer (some ⟨R, 0, none⟩), undef, .string S, .slice (some ⟨b, o, none⟩) 1 cv, .int .i64 1, .slice (some ⟨b, o, none⟩) 1 cv, .int .i64 1, .int .i64 1, .int .i64 1, .slice (some ⟨b, o, none⟩) 1 cv, .func (.func 110) #[] #[.pointer (some ⟨Bs, 0, none⟩)], .int .i64 0, .string S, undef, undef, undef, undef], defers := [] })
    ?low0 ?low1 ?box rfl ?assign ?body ⟨hkB, d2, hk2, HB2.out⟩ ?seq ?done
  case low0 =>
    rintro W W' ⟨h1, h2, h3, h4⟩ hb
    exact ⟨(hb.block Bs hlB).trans h1, (hb.cell (p := ⟨b, o, none⟩) hlb).trans h2, (hb.block R hlR).trans h3, h4.trans (hb.mono HB2.out.size)⟩
  case low1 =>
    rintro W W' ⟨h1, h2⟩ hb
    exact ⟨(hb.block R hlR).trans h1, h2.trans (hb.mono HB2.out.size)⟩
  case box => intro a' W l o o' h _ _; exact h
  case assign =>
    intro l W K hI hK
    gi_wp2
    exact hK _ _ (KeepsFrom.refl _ _) hI rfl
  case body =>
    rintro l a' W hl ⟨h1, h2, h3, h4⟩ rfl
    have r0 : W.cell? ⟨R, 0, none⟩ = some (.string ⟨#[]⟩) := cell_of_blk h3 0
    have rf : ∀ j, W.frozen? ⟨R, j, none⟩ = false := fun j => frozen_of_blk h3 j
    have hk6 := set_heap W R 0 _ _ (.string T) h3
    have HB6 := hid (below_set (k := 0) (u := .string T) h4 HWR.out)
    have HKF : Hid (KeepsFrom w2.heap.size W (W.setCell ⟨R, 0, none⟩ (.string T))) := hid ⟨by rw [set_size]; exact Nat.le_refl _, fun k o hk ho _ => (set_other _ (by omega)).trans ho⟩
    have HK6 := hid hk6
    clear hk6 h1 h2 h3 h4
    gi_wp2
    refine ⟨trivial, ?_⟩
    refine (CallsIn.inRound l (callsIn_wide.2 (HH.out W))).mono ?_
    rintro e W3 ⟨rfl, h3⟩
    rw [h3]
    clear h3
    gi_wp2
    refine ⟨trivial, ?_⟩
    refine (CallsIn.inRound l (callsIn_wide.2 (HG.out W))).mono ?_
    rintro e W3 ⟨rfl, h3⟩
    rw [h3]
    clear h3
    gi_wp2
    exact ⟨HKF.out, HK6.out, HB6.out⟩
  case seq =>
    intro l J0 J1 W hJ hY h0
    exact backS_in _ l Bs b o cv S J0 J1 (fun W h => ⟨cell_of_blk (hJ W h).1 0, (hJ W h).2.1⟩) hY W h0
  case done =>
    rintro D W hD ⟨h1, h2⟩ hK
    have r0 : W.cell? ⟨R, 0, none⟩ = some (.string T) := cell_of_blk h1 0
    have hne : R ≠ D := by omega
    have r1 : (W.putObj D (.deferred none)).cell? ⟨R, 0, none⟩ = some (.string T) := by
      unfold World.cell? at r0 ⊢
      rw [World.putObj_heap_other hne]
      exact r0
    have HBF : Below w.heap.size w (W.putObj D (.deferred none)) := h2.trans (below_put (by have := HB2.out.size; omega))
    gi_wp2
    refine ⟨by simp, .inl ⟨_, _, rfl, run_takeDeferred hK, ?_⟩⟩
    refine ⟨.string T, by simp [results, Tryz.results33, go_sem, r1], ?_⟩
    exact ⟨rfl, HBF⟩
end Go.Proofs.YtddmfdjkkikapaaGreatDoor
