/-
  Several texts in one: W4, W5, W5b.
-/
import Derived.Test.YtdilmgcdebobaaaW3
import Derived.Test.YtdilmgcdebobaaaShelf
import Derived.Laws.StructEq
/-
  slices.SortFunc on pairs, by their first numbers: what the row holds afterwards.
-/
namespace Go.Proofs.Ytdilmgcdebobaaa
open Go.RowKit
open Ed (Ch Run Pr)
open Go.Sort hiding Below Holds

def cfP (x y : Pr) : Int := Lib.compareInt x.1 y.1
theorem ltP (x y : Pr) : ltOf cfP x y = decide (x.1 < y.1) := by
  unfold ltOf cfP Lib.compareInt
  by_cases h1 : x.1 < y.1
  · simp [h1]
  · by_cases h2 : y.1 < x.1 <;> simp [h1, h2]
theorem swoP : Sort.SWO (ltOf cfP) where
  irrefl x := by rw [ltP]; simp
  trans x y z h1 h2 := by rw [ltP] at *; simp at *; omega
  ntrans x y z h1 h2 := by rw [ltP] at *; simp at *; omega

set_option maxHeartbeats 1000000 in
theorem closure_any (x y : Pr) (W : World) : Calls Try.prog 36 #[.agg #[.int .i64 x.1, .int .i64 x.2], .agg #[.int .i64 y.1, .int .i64 y.2]] W fun e w' => e = .returned (.int .i64 (cfP x y)) ∧ ∃ q os', w' = grow (W.drewN q) os' := by
  have hcon := fun W' => Try.cmp_Compare_int x.1 y.1 W'
  have hcf : cfP x y = Lib.compareInt x.1 y.1 := rfl
  rw [hcf]
  generalize Lib.compareInt x.1 y.1 = r at hcon ⊢
  clear hcf
  go_enter Try.func36, Try.ntmps36
  go_wp2_with (go_at_call 37; refine (hcon _).mono ?_; rintro e w' ⟨rfl, rfl⟩)
  go_ret
  exact ⟨rfl, 0, _, by rw [alloc_eq_grow, alloc_eq_grow, grow_grow]; rfl⟩
theorem psC_flat (l : List Pr) (t : Nat) (ht : t < l.length * 2) : (psC l)[t]? = some (flatK pC 2 l.toArray)[t]! := by
  have hk : t / 2 < l.length := by omega
  rw [get_flatK _ _ _ _ (by simpa using ht)]
  have e : l.toArray[t / 2]! = l[t / 2] := by rw [getElem!_pos _ _ (by simpa using hk)]; simp
  rw [e]
  have hx : l[t / 2]? = some l[t / 2] := List.getElem?_eq_getElem hk
  rcases Nat.mod_two_eq_zero_or_one t with h | h
  · have := psC_get hx 0 (by omega)
    rw [show t / 2 * 2 + 0 = t by omega] at this
    rw [this, h]; rfl
  · have := psC_get hx 1 (by omega)
    rw [show t / 2 * 2 + 1 = t by omega] at this
    rw [this, h]; rfl
theorem holds_pairs {w : World} {B g n c : Nat} {l : List Pr} (h : w.ownsRow B 27 2 (.slice (some ⟨g, 0, none⟩) n c) n (psC l)) (hn : n = l.length) : HoldsK pC 2 w g 0 l.toArray := by
  intro t ht
  have ht' : t < l.length * 2 := by simpa using ht
  refine ⟨?_, own_frozen' h _⟩
  rw [Nat.zero_add, World.ownsRow.cellAt h t (by rw [hn]; exact ht'), psC_flat l t ht']
  rfl

set_option maxHeartbeats 1000000 in
/-- a row of pairs, sorted -/
theorem sort_any {w : World} {B g c : Nat} {l : List Pr} (h : w.ownsRow B 27 2 (.slice (some ⟨g, 0, none⟩) l.length c) l.length (psC l)) (hl : l.length ≤ 1000000000) :
    Calls Try.prog 35 #[.slice (some ⟨g, 0, none⟩) l.length c, .func (.func 36) #[] #[]] w fun e w' => e = .returned (.tuple #[]) ∧ ∃ l' : List Pr, l'.Perm l ∧ (∀ (i j : Nat) (x y : Pr), i < j → l'[i]? = some x → l'[j]? = some y → x.1 ≤ y.1) ∧ HoldsK pC 2 w' g 0 l'.toArray ∧ w.grownBy w' (some g) := by
  have hlt : g < w.heap.size := by
    rcases h.2 with ⟨hv, _⟩ | ⟨g', cap, cur, hv, _, hh, _⟩
    · cases hv
    · cases hv; exact lt_of_heap hh
  have hH := holds_pairs h rfl
  have eg : ∀ args w, (callFunc 36 args).run Try.prog w = .ok (.enter 36 args) w := enters_of Try.func36 (by kernel_rfl) rfl
  have hcon := Try.slices_SortFunc 2 (fun w => by kernel_rfl) (fun w => by kernel_rfl) pC (fun _ => rfl) (fun x v hv => by simp [pC] at hv; rcases hv with rfl | rfl <;> rfl) cfP swoP 36 #[] g 0 c l.toArray w eg (fun _ _ _ _ x y => closure_any x y _) hH hlt (by simp; omega)
  rw [List.size_toArray] at hcon
  refine hcon.mono ?_
  rintro e w' ⟨rfl, d', n, os, hp, hs, rfl⟩
  have hsz : d'.size = l.length := by rw [hp.1]; simp
  refine ⟨rfl, d'.toList, ?_, ?_, ?_, ?_⟩
  · have := hp.2.2
    rw [show d'.extract 0 l.length = d' by rw [← hsz]; simp, show l.toArray.extract 0 l.length = l.toArray by simp] at this
    simpa using this
  · intro i j x y hij hx hy
    have hj : j < d'.size := by rw [← Array.length_toList]; exact (List.getElem?_eq_some_iff.1 hy).1
    have hi : i < d'.size := by omega
    have h1 := hs i j (Nat.zero_le _) hij (by omega)
    rw [ltP, getElem!_pos d' j hj, getElem!_pos d' i hi] at h1
    have ex : d'[i] = x := by
      have := List.getElem?_eq_some_iff.1 hx
      obtain ⟨_, e⟩ := this
      simpa using e
    have ey : d'[j] = y := by
      obtain ⟨_, e⟩ := List.getElem?_eq_some_iff.1 hy
      simpa using e
    rw [ex, ey] at h1
    have := of_decide_eq_false h1
    omega
  · rw [Array.toArray_toList]
    exact holdsK_sortWorldK_c pC 2 w g 0 l.toArray d' n os hH hlt (by rw [hsz]; simp)
  · refine ⟨rfl, rfl, rfl, size_sortWorldK_c pC 2 w g 0 n d' os, fun k hk hne => ?_⟩
    unfold sortWorldK putRowK
    rw [heap_grow_old _ _ (by simpa using hk)]
    have : g ≠ k := fun e => hne (by rw [e])
    simp [putRow, mapBlock, Sort.ahead, Array.getElem?_modify, this]
end Go.Proofs.Ytdilmgcdebobaaa
/-
  slices.Compact on pairs of which no two neighbours are alike.
-/
namespace Go.Proofs.Ytdilmgcdebobaaa
open Go.RowKit
open Ed (Ch Run Pr)

theorem run_equalIn_pair (w : World) (d : Nat) (x1 x2 y1 y2 : Int) : (Op.equalIn (d + 2) 27 (.agg #[.int .i64 x1, .int .i64 x2]) (.agg #[.int .i64 y1, .int .i64 y2])).run Try.prog w = .ok (x1 == y1 && x2 == y2) w := by
  have hsz : ∀ w, (sizeOf 3).run Try.prog w = .ok 1 w := fun w => by kernel_rfl
  have hr : List.range' 0 2 = [0, 1] := rfl
  rw [Op.equalIn]
  cases h1 : (x1 == y1) <;> cases h2 : (x2 == y2) <;> simp [run_underlying Try.underlying27, run_underlying Try.underlying3, hsz, part, isAgg, run_equalIn_int (P := Try.prog) w d 3 .i64 .i64 _ _ Try.underlying3, h1, h2, hr]
theorem pair_equal (w : World) (x1 x2 y1 y2 : Int) : (Op.equalIn 10000 27 (.agg #[.int .i64 x1, .int .i64 x2]) (.agg #[.int .i64 y1, .int .i64 y2])).run Try.prog w = .ok (x1 == y1 && x2 == y2) w := run_equalIn_pair w 9998 x1 x2 y1 y2
attribute [local go_sem] pair_equal

set_option maxHeartbeats 2000000 in
set_option maxRecDepth 100000 in
theorem compact_same {w : World} {v : Value} {l : List Pr} (hv : RdP w v l) (hl : l.length ≤ 1000000000) (hd : ∀ (i : Nat) (x y : Pr), l[i]? = some x → l[i + 1]? = some y → x ≠ y) :
    Calls Try.prog 38 #[v] w fun e w' => e = .returned v ∧ ∃ q, w' = w.drewN q := by
  have HV := hid hv
  have HD := hid hd
  obtain ⟨av, cv, rfl⟩ := hv.shape
  obtain ⟨n, hn⟩ : ∃ n, n = l.length := ⟨_, rfl⟩
  have HN := hid hn
  rw [← hn] at hl HV ⊢
  clear hv hd hn
  by_cases h2 : n < 2
  · have g1 : (n : Int) < 2 := by omega
    go_enter Try.func38, Try.ntmps38
    go_wp2
    go_ret
    exact ⟨rfl, 0, rfl⟩
  · have g1 : ¬ (n : Int) < 2 := by omega
    go_enter Try.func38, Try.ntmps38
    go_wp2
    go_loopw [3, 4, 5] (fun ii s4 s5 wr => ∃ j q : Nat, 1 ≤ j ∧ j ≤ n ∧ ii = .int .i64 j ∧ wr = w.drewN q) (fun ii _ _ _ => n - (intOf ii).toNat)
    case atStart => exact ⟨1, 0, Nat.le_refl _, by omega, rfl, rfl⟩
    case round =>
      obtain ⟨j, q, h1, h3, rfl, rfl⟩ := hrel
      by_cases hlt : j < n
      · obtain ⟨m, rfl⟩ : ∃ m, j = m + 1 := ⟨j - 1, by omega⟩
        obtain ⟨y, hy⟩ : ∃ y, l[m + 1]? = some y := ⟨_, List.getElem?_eq_getElem (by rw [← HN.out]; exact hlt)⟩
        obtain ⟨x, hx⟩ : ∃ x, l[m]? = some x := ⟨_, List.getElem?_eq_getElem (by rw [← HN.out]; omega)⟩
        obtain ⟨zb, zo, e, _, c1, c2⟩ := rdP_at HV.out hy
        cases e
        obtain ⟨zb', zo', e, _, c3, c4⟩ := rdP_at HV.out hx
        cases e
        have hne := HD.out m x y hx hy
        obtain ⟨x1, x2⟩ := x
        obtain ⟨y1, y2⟩ := y
        obtain ⟨J, hJ⟩ : ∃ J, J = m + 1 := ⟨_, rfl⟩
        rw [← hJ] at c1 c2 ⊢
        have k1 : (0 : Int) ≤ (J : Int) := by omega
        have k2 : (J : Int) < (n : Int) := by omega
        have k3 : IntKind.i64.wrap ((J : Int) - 1) = (m : Int) := by rw [IntKind.wrap_i64]; omega
        have k4 : (0 : Int) ≤ (m : Int) := by omega
        have k5 : (m : Int) < (n : Int) := by omega
        have k6 : IntKind.i64.wrap ((J : Int) + 1) = (J : Int) + 1 := by rw [IntKind.wrap_i64]; omega
        have HJ := hid hJ
        have hq : ∀ (a b : Int × Int), True := fun _ _ => trivial
        clear hJ hx hy hq
        have c1' : (w.drewN q).cell? ⟨zb, zo + J * 2, none⟩ = some (.int .i64 y1) := c1
        have c2' : (w.drewN q).cell? ⟨zb, zo + J * 2 + 1, none⟩ = some (.int .i64 y2) := c2
        have c3' : (w.drewN q).cell? ⟨zb, zo + m * 2, none⟩ = some (.int .i64 x1) := c3
        have c4' : (w.drewN q).cell? ⟨zb, zo + m * 2 + 1, none⟩ = some (.int .i64 x2) := c4
        by_cases ha : y1 = x1
        case neg =>
          have za : (y1 == x1) = false := beq_eq_false_iff_ne.2 ha
          clear hne ha
          go_wp2
          go_quiet (fail)
          go_wp2
          exact ⟨⟨J + 1, _, by omega, by omega, by push_cast; rfl, by first | rfl | exact World.drewN_drewN _ _ _⟩, by simp [intOf]; omega⟩
        subst ha
        have hb : y2 ≠ x2 := fun e => hne (by rw [e])
        have zb2 : (y2 == x2) = false := beq_eq_false_iff_ne.2 hb
        clear hne hb
        go_wp2
        go_quiet (fail)
        go_wp2
        exact ⟨⟨J + 1, _, by omega, by omega, by push_cast; rfl, by first | rfl | exact World.drewN_drewN _ _ _⟩, by simp [intOf]; omega⟩
      · have k2 : ¬ (j : Int) < (n : Int) := by omega
        go_wp2
        go_ret
        exact ⟨rfl, q, rfl⟩
end Go.Proofs.Ytdilmgcdebobaaa
/-
  slices.SortFunc on a row of nothing.
-/
namespace Go.Proofs.Ytdilmgcdebobaaa
open Go.RowKit

set_option maxHeartbeats 1000000 in
set_option maxRecDepth 100000 in
theorem insertion_nil (a : Option Addr) (c : Nat) (w : World) : Calls Try.prog 63 #[.slice a 0 c, .int .i64 0, .int .i64 0, .func (.func 36) #[] #[]] w fun e w' => e = .returned (.tuple #[]) ∧ w' = w := by
  go_enter Try.func63, Try.ntmps63
  go_wp2
  go_loopw [8, 9] (fun i _ wr => i = .int .i64 1 ∧ wr = w) (fun _ _ _ => 0)
  case atStart => exact ⟨rfl, rfl⟩
  case round =>
    obtain ⟨rfl, rfl⟩ := hrel
    go_wp2
    go_end0
    exact ⟨rfl, rfl⟩
set_option maxHeartbeats 1000000 in
set_option maxRecDepth 100000 in
theorem pdq_nil (a : Option Addr) (c : Nat) (k : Int) (w : World) : Calls Try.prog 51 #[.slice a 0 c, .int .i64 0, .int .i64 0, .int .i64 k, .func (.func 36) #[] #[]] w fun e w' => e = .returned (.tuple #[]) ∧ w' = w := by
  go_enter Try.func51, Try.ntmps51
  go_wp2
  go_loopw [1, 2, 3, 10, 11, 12, 13, 14, 15, 16, 17, 18, 19, 20] (fun s1 s2 _ _ _ _ _ _ _ _ _ _ _ _ wr => s1 = .int .i64 0 ∧ s2 = .int .i64 0 ∧ wr = w) (fun _ _ _ _ _ _ _ _ _ _ _ _ _ _ _ => 0)
  case atStart => exact ⟨rfl, rfl, rfl⟩
  case round =>
    obtain ⟨rfl, rfl, rfl⟩ := hrel
    go_wp2_with (go_at_call 63; refine (insertion_nil _ _ _).mono ?_; rintro e w' ⟨rfl, rfl⟩)
    exact bodyPost_ret (v := .tuple #[]) (by simp [results, Try.results51]) rfl ⟨rfl, rfl⟩
set_option maxHeartbeats 1000000 in
theorem sort_nil (a : Option Addr) (c : Nat) (w : World) : Calls Try.prog 35 #[.slice a 0 c, .func (.func 36) #[] #[]] w fun e w' => e = .returned (.tuple #[]) ∧ w' = w := by
  have hb := Try.bits_Len 0 w (by decide) (by decide)
  generalize (Lib.bitLen (Int.toNat 0) : Int) = k at hb
  go_enter Try.func35, Try.ntmps35
  go_wp2_with (first | (go_at_call 52; refine hb.mono ?_; rintro e w' ⟨rfl, rfl⟩) | (go_at_call 51; refine (pdq_nil _ _ _ _).mono ?_; rintro e w' ⟨rfl, rfl⟩))
  go_end0
  exact ⟨rfl, rfl⟩
end Go.Proofs.Ytdilmgcdebobaaa
