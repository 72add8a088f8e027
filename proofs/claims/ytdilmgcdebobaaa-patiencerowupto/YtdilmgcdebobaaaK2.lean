/-
  The walks of sameEnds and marked.
-/
import Derived.Test.YtdilmgcdebobaaaK1
namespace Go.Proofs.Ytdilmgcdebobaaa
open Go.RowKit
open Ed (Ch Run Pr)

theorem hd_iff {a b : List Int} {k : Nat} (h : k ≤ My.hd a b) : My.eqAt a b k k = decide (k < My.hd a b) := by
  by_cases hk : k < My.hd a b
  · rw [decide_eq_true hk]; exact My.hd_all a b k hk
  · rw [decide_eq_false hk, show k = My.hd a b by omega]; exact My.hd_stop a b
theorem eqAt_some {a b : List Int} {i k : Nat} {x y : Int} (h1 : a[i]? = some x) (h2 : b[k]? = some y) : My.eqAt a b i k = (x == y) := by unfold My.eqAt; rw [h1, h2]

set_option maxHeartbeats 4000000 in
set_option maxRecDepth 100000 in
theorem sameEnds_any {v u : Value} {a b : List Int} {w : World} (hv : RdI w v a) (hu : RdI w u b) (hl : a.length ≤ 1000000000) (hm : b.length ≤ 1000000000) :
    Calls Try.prog 84 #[v, u] w fun e w' => e = .returned (.tuple #[.int .i64 (My.hd a b), .int .i64 (My.tl a b (My.hd a b))]) ∧ Below w.heap.size w w' := by
  obtain ⟨a0, c0, rfl⟩ := hv.shape
  obtain ⟨a1, c1, rfl⟩ := hu.shape
  have HV := hid hv
  have HU := hid hu
  clear hv hu
  obtain ⟨H, hH⟩ : ∃ H, H = My.hd a b := ⟨_, rfl⟩
  obtain ⟨T, hT⟩ : ∃ T, T = My.tl a b H := ⟨_, rfl⟩
  rw [← hH, ← hT]
  have hHl := My.hd_le a b
  have hTl := My.tl_le a b H
  rw [← hH] at hHl
  rw [← hT] at hTl
  have HIF : Hid (∀ k, k ≤ H → My.eqAt a b k k = decide (k < H)) := hid (fun k hk => by rw [hH] at *; exact hd_iff hk)
  have HTF : Hid (∀ k, k ≤ T → My.eqAt (a.drop H).reverse (b.drop H).reverse k k = decide (k < T)) := hid (fun k hk => by rw [hT] at *; exact hd_iff hk)
  clear hH hT
  obtain ⟨M, hM⟩ : ∃ M : Nat, M = min a.length b.length := ⟨_, rfl⟩
  have hM1 : M ≤ a.length := by omega
  have hM2 : M ≤ b.length := by omega
  have hM3 : M = a.length ∨ M = b.length := by omega
  have HMM := hid hM
  clear hM
  have hHM : H ≤ M := by omega
  have hTM : T ≤ M - H := by omega
  go_enter Try.func84, Try.ntmps84
  go_upto_region 1 with fail
  go_cut [6] (fun m wc => m = .int .i64 M ∧ wc = w)
  case first =>
    by_cases hab : (a.length : Int) ≤ (b.length : Int)
    · have HE : Hid (M = a.length) := hid (by have := HMM.out; omega)
      go_wp2
      all_goals go_meet
      all_goals exact ⟨by rw [HE.out], rfl⟩
    · have HE : Hid (M = b.length) := hid (by have := HMM.out; omega)
      go_wp2
      all_goals go_meet
      all_goals exact ⟨by rw [HE.out], rfl⟩
  case rest =>
    obtain ⟨rfl, rfl⟩ := hcut
    go_wp2
    go_loopw [7] (fun i wr => ∃ k : Nat, k ≤ H ∧ i = .int .i64 k ∧ ∃ q, wr = wc.drewN q) (fun i _ => H - (intOf i).toNat)
    case atStart => exact ⟨0, Nat.zero_le _, rfl, 0, rfl⟩
    case round =>
      obtain ⟨k, hk, rfl, q, rfl⟩ := hrel
      go_upto_region 3 with fail
      go_cut [27] (fun c wx => c = .bool (decide (k < H)) ∧ ∃ q, wx = wc.drewN q)
      case first =>
        by_cases hkm : k < M
        · obtain ⟨x, hx⟩ : ∃ x, a[k]? = some x := ⟨_, List.getElem?_eq_getElem (by omega)⟩
          obtain ⟨y, hy⟩ : ∃ y, b[k]? = some y := ⟨_, List.getElem?_eq_getElem (by omega)⟩
          obtain ⟨b1, o1, rfl, _, d1⟩ := rdI_at HV.out hx
          obtain ⟨b2, o2, rfl, _, d2⟩ := rdI_at HU.out hy
          have HE : Hid ((x == y) = decide (k < H)) := hid (by rw [← HIF.out k hk]; exact (eqAt_some hx hy).symm)
          have i1 : (0 : Int) ≤ (k : Int) := by omega
          have i2 : (k : Int) < (a.length : Int) := by omega
          have i3 : (k : Int) < (b.length : Int) := by omega
          have e1 : decide ((k : Int) < (M : Int)) = true := decide_eq_true (by omega)
          clear hx hy
          go_quiet (fail)
          go_wp2
          go_meet
          exact ⟨by rw [HE.out], _, by first | rfl | exact World.drewN_drewN _ _ _⟩
        · have HE : Hid (decide (k < H) = false) := hid (decide_eq_false (by omega))
          have e1 : decide ((k : Int) < (M : Int)) = false := decide_eq_false (by omega)
          go_quiet (fail)
          go_wp2
          go_meet
          exact ⟨by rw [HE.out], _, by first | rfl | exact World.drewN_drewN _ _ _⟩
      case rest =>
        obtain ⟨rfl, q1, rfl⟩ := hcut
        by_cases hkH : k < H
        · rw [decide_eq_true hkH]
          go_wp2
          go_roundw
          case rel => exact ⟨k + 1, by omega, by go_num, _, rfl⟩
          case measure => simp [intOf]; omega
        · rw [decide_eq_false hkH]
          obtain rfl : k = H := by omega
          clear hk hkH
          go_wp2
          go_loopw [8] (fun i wr => ∃ j : Nat, j ≤ T ∧ i = .int .i64 j ∧ ∃ q, wr = wc.drewN q) (fun i _ => T - (intOf i).toNat)
          case atStart => exact ⟨0, Nat.zero_le _, rfl, _, rfl⟩
          case round =>
            obtain ⟨j, hj, rfl, q2, rfl⟩ := hrel
            have i0 : IntKind.i64.wrap ((M : Int) - (k : Int)) = (M : Int) - (k : Int) := wrapOk (by omega) (by omega)
            go_upto_region 6 with fail
            go_cut [53] (fun c wx => c = .bool (decide (j < T)) ∧ ∃ q, wx = wc.drewN q)
            case first =>
              by_cases hjm : j < M - k
              · have ha1 : a.length - 1 - j < a.length := by omega
                have hb1 : b.length - 1 - j < b.length := by omega
                obtain ⟨x, hx⟩ : ∃ x, a[a.length - 1 - j]? = some x := ⟨_, List.getElem?_eq_getElem ha1⟩
                obtain ⟨y, hy⟩ : ∃ y, b[b.length - 1 - j]? = some y := ⟨_, List.getElem?_eq_getElem hb1⟩
                obtain ⟨b1, o1, rfl, _, d1⟩ := rdI_at HV.out hx
                obtain ⟨b2, o2, rfl, _, d2⟩ := rdI_at HU.out hy
                have HE : Hid ((x == y) = decide (j < T)) := hid (by
                  rw [← HTF.out j hj]
                  refine (eqAt_some ?_ ?_).symm
                  · rw [List.getElem?_reverse (by rw [List.length_drop]; omega), List.getElem?_drop, List.length_drop, show k + (a.length - k - 1 - j) = a.length - 1 - j by omega]; exact hx
                  · rw [List.getElem?_reverse (by rw [List.length_drop]; omega), List.getElem?_drop, List.length_drop, show k + (b.length - k - 1 - j) = b.length - 1 - j by omega]; exact hy)
                have z1 : (a.length : Int) - 1 - (j : Int) = ((a.length - 1 - j : Nat) : Int) := by omega
                have z2 : (b.length : Int) - 1 - (j : Int) = ((b.length - 1 - j : Nat) : Int) := by omega
                have i1 : IntKind.i64.wrap ((a.length : Int) - 1) = (a.length : Int) - 1 := wrapOk (by omega) (by omega)
                have i2 : IntKind.i64.wrap ((b.length : Int) - 1) = (b.length : Int) - 1 := wrapOk (by omega) (by omega)
                have i3 : IntKind.i64.wrap ((a.length : Int) - 1 - (j : Int)) = ((a.length - 1 - j : Nat) : Int) := (wrapOk (by omega) (by omega)).trans z1
                have i4 : IntKind.i64.wrap ((b.length : Int) - 1 - (j : Int)) = ((b.length - 1 - j : Nat) : Int) := (wrapOk (by omega) (by omega)).trans z2
                generalize a.length - 1 - j = ia at *
                generalize b.length - 1 - j = ib at *
                have i5 : (0 : Int) ≤ (ia : Int) := by omega
                have i6 : (ia : Int) < (a.length : Int) := by omega
                have i7 : (0 : Int) ≤ (ib : Int) := by omega
                have i8 : (ib : Int) < (b.length : Int) := by omega
                have e1 : decide ((j : Int) < (M : Int) - (k : Int)) = true := decide_eq_true (by omega)
                clear hx hy z1 z2
                go_quiet (fail)
                go_wp2
                go_meet
                exact ⟨by rw [HE.out], _, by first | rfl | exact World.drewN_drewN _ _ _⟩
              · have HE : Hid (decide (j < T) = false) := hid (decide_eq_false (by omega))
                have e1 : decide ((j : Int) < (M : Int) - (k : Int)) = false := decide_eq_false (by omega)
                go_quiet (fail)
                go_wp2
                go_meet
                exact ⟨by rw [HE.out], _, by first | rfl | exact World.drewN_drewN _ _ _⟩
            case rest =>
              obtain ⟨rfl, q3, rfl⟩ := hcut
              by_cases hjT : j < T
              · rw [decide_eq_true hjT]
                go_wp2
                go_roundw
                case rel => exact ⟨j + 1, by omega, by go_num, _, rfl⟩
                case measure => simp [intOf]; omega
              · rw [decide_eq_false hjT]
                obtain rfl : j = T := by omega
                go_wp2
                go_ret2
                exact ⟨rfl, below_drewN (Below.refl _ _) _⟩

set_option maxHeartbeats 2000000 in
theorem marked_any {v : Value} {l : List Bool} {w : World} (hv : RdB w v l) (hl : l.length ≤ 1000000000) :
    Calls Try.prog 92 #[v] w fun e w' => e = .returned (.int .i64 (My.mk0 l)) ∧ w' = w := by
  obtain ⟨a0, c0, rfl⟩ := hv.shape
  have HV := hid hv
  clear hv
  obtain ⟨N, hN⟩ : ∃ N, N = My.mk0 l := ⟨_, rfl⟩
  rw [← hN]
  have key : ∀ (l : List Bool) (k : Nat), k ≤ My.mk0 l → (∀ x, l[k]? = some x → x = decide (k < My.mk0 l)) ∧ (l.length ≤ k → ¬ k < My.mk0 l) := by
    intro l
    induction l with
    | nil => intro k hk; simp [My.mk0]
    | cons m l ih =>
      intro k hk
      cases m with
      | true =>
        rw [My.mk0] at hk ⊢
        cases k with
        | zero => simp
        | succ k =>
          obtain ⟨h1, h2⟩ := ih k (by omega)
          refine ⟨fun x hx => ?_, fun h => ?_⟩
          · rw [List.getElem?_cons_succ] at hx
            rw [h1 x hx]
            by_cases q : k < My.mk0 l
            · rw [decide_eq_true q, decide_eq_true (by omega)]
            · rw [decide_eq_false q, decide_eq_false (by omega)]
          · rw [List.length_cons] at h
            have := h2 (by omega)
            omega
      | false =>
        have e : My.mk0 (false :: l) = 0 := by simp [My.mk0]
        rw [e] at hk ⊢
        have : k = 0 := by omega
        subst this
        simp
  have HK := hid (key l)
  rw [← hN] at HK
  have hNl : N ≤ l.length := by rw [hN]; exact My.mk0_le l
  clear key hN
  go_enter Try.func92, Try.ntmps92
  go_wp2
  go_loopw [3] (fun i wr => ∃ k : Nat, k ≤ N ∧ i = .int .i64 k ∧ wr = w) (fun i _ => N - (intOf i).toNat)
  case atStart => exact ⟨0, Nat.zero_le _, rfl, rfl⟩
  case round =>
    obtain ⟨k, hk, rfl, rfl⟩ := hrel
    obtain ⟨h1, h2⟩ := HK.out k hk
    by_cases hlt : k < l.length
    · obtain ⟨x, hx⟩ : ∃ x, l[k]? = some x := ⟨_, List.getElem?_eq_getElem hlt⟩
      have hxe := h1 x hx
      obtain ⟨b1, o1, rfl, _, d1⟩ := rdB_at HV.out hx
      have i1 : (0 : Int) ≤ (k : Int) := by omega
      have i2 : (k : Int) < (l.length : Int) := by omega
      by_cases hkN : k < N
      · rw [decide_eq_true hkN] at hxe
        subst hxe
        clear hx h1 h2
        go_wp2
        go_roundw
        case rel => exact ⟨k + 1, by omega, by go_num, by first | rfl | trivial⟩
        case measure => simp [intOf]; omega
      · rw [decide_eq_false hkN] at hxe
        subst hxe
        obtain rfl : k = N := by omega
        clear hx h1 h2
        go_wp2
        go_ret
        exact ⟨rfl, rfl⟩
    · have := h2 (by omega)
      obtain rfl : k = N := by omega
      have i2 : ¬ (k : Int) < (l.length : Int) := by omega
      clear h1 h2
      go_wp2
      go_ret
      exact ⟨rfl, rfl⟩
end Go.Proofs.Ytdilmgcdebobaaa
