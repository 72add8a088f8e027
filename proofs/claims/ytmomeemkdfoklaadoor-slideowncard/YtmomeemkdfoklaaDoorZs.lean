/-
  The iterator of slices.Backward: every change of a row, from the last to the first, each read when its round begins.
-/
import Derived.Test.YtmomeemkdfoklaaDoorZr
namespace Go.Proofs.YtmomeemkdfoklaaDoor
open Go.RowKit Go.Shelf
open Ed (Ch Run Pr)
attribute [local go_sem] Oper.semAt_some

def zCh : Ch := ⟨0, 0, 0, 0⟩
def bEnc (l : List Ch) (k : Nat) : Array Value := #[.int .i64 ((l.length - 1 - k : Nat) : Int), chV (l.getD (l.length - 1 - k) zCh)]
/-- what the iterator reads ahead of its round number k -/
def BkRd (Bs : Nat) (A : Option Addr) (C : Nat) (l : List Ch) (k : Nat) (W : World) : Prop :=
  W.cell? ⟨Bs, 0, none⟩ = some (.slice A l.length C) ∧ (k < l.length → ∃ b o, A = some ⟨b, o, none⟩ ∧ ∀ c, l[l.length - 1 - k]? = some c →
    W.cell? ⟨b, o + (l.length - 1 - k) * 4, none⟩ = some (.int .i64 c.a) ∧ W.cell? ⟨b, o + (l.length - 1 - k) * 4 + 1, none⟩ = some (.int .i64 c.n) ∧ W.cell? ⟨b, o + (l.length - 1 - k) * 4 + 2, none⟩ = some (.int .i64 c.b) ∧ W.cell? ⟨b, o + (l.length - 1 - k) * 4 + 3, none⟩ = some (.int .i64 c.m))

set_option maxHeartbeats 4000000 in
set_option maxRecDepth 100000 in
theorem back_in (n L Bs : Nat) (A : Option Addr) (C : Nat) (l : List Ch) (hl : l.length ≤ 10000000) (J : Nat → World → Prop) (hJ : ∀ k W, J k W → BkRd Bs A C l k W)
    (hY : ∀ k W, J k W → k < l.length → YieldAt Fence.wide (n - 1) Tryd.prog L (bEnc l k) W fun e W' => e = .returned (.bool true) ∧ J (k + 1) W') (W : World) (h0 : J 0 W) :
    CallsIn Fence.wide n Tryd.prog 37 #[.func (.yield L) #[] #[], .pointer (some ⟨Bs, 0, none⟩)] W fun e W' => (∃ v, e = .returned v) ∧ J l.length W' := by
  obtain ⟨N, hN⟩ : ∃ N, N = l.length := ⟨_, rfl⟩
  have HN := hid hN
  have b0 := (hJ 0 W h0).1
  rw [← hN] at b0 hl ⊢
  have i0 : IntKind.i64.wrap ((N : Int) - 1) = (N : Int) - 1 := by rw [IntKind.wrap_i64]; omega
  clear hN
  refine callsIn_of_wp Tryd.func37 rfl trivial ?_ rfl
  simp only [Tryd.ntmps37, List.size_toArray, List.length_cons, List.length_nil, Nat.reduceAdd, Nat.reduceSub, Array.replicate_succ, Array.replicate_zero, List.push_toArray, List.append_toArray, List.nil_append, List.cons_append]
  gi_wp2
  gi_loopw [3] (fun p wr => ∃ k : Nat, k ≤ N ∧ p = .int .i64 ((N : Int) - 1 - k) ∧ J k wr) (fun p _ => (intOf p + 1).toNat)
  case atStart => exact ⟨0, Nat.zero_le _, by simp, h0⟩
  case round =>
    obtain ⟨k, hk, rfl, hJk⟩ := hrel
    by_cases hlt : k < N
    · obtain ⟨i, hi⟩ : ∃ i, i = N - 1 - k := ⟨_, rfl⟩
      have e1 : (N : Int) - 1 - (k : Int) = (i : Int) := by omega
      obtain ⟨c1, c2⟩ := hJ k wr hJk
      obtain ⟨b, o, rfl, c3⟩ := c2 (by have := HN.out; omega)
      have hil : i < l.length := by have := HN.out; omega
      have hget := List.getElem?_eq_getElem hil
      rw [← HN.out, ← hi] at c3
      obtain ⟨d0, d1, d2, d3⟩ := c3 _ hget
      rw [← HN.out] at c1
      obtain ⟨fn, tmps, assign, body, hy, hR⟩ := hY k wr hJk (by have := HN.out; omega)
      unfold bEnc at hy
      rw [← HN.out, ← hi, List.getD_eq_getElem?_getD, hget, Option.getD_some] at hy
      rw [e1]
      generalize l[i] = c at d0 d1 d2 d3 hy
      rcases c with ⟨ca, cn, cb, cm⟩
      simp only at d0 d1 d2 d3
      dsimp only [chV] at hy
      have j1 : (0 : Int) ≤ (i : Int) := by omega
      have j2 : (i : Int) < (N : Int) := by omega
      have j3 : ((i : Int) ≥ 0) ↔ True := iff_true_intro j1
      have j4 : IntKind.i64.wrap ((i : Int) - 1) = (i : Int) - 1 := by rw [IntKind.wrap_i64]; omega
      have HI := hid hi
      clear hi e1 hget c3 c2
      gi_wp2
      refine ⟨fun h => by simp [Fence.wide] at h, ?_⟩
      refine hR.mono ?_
      rintro e W3 ⟨rfl, hJ3⟩
      gi_wp2
      go_roundw
      case rel => exact ⟨k + 1, by omega, by rw [show (N : Int) - 1 - ((k + 1 : Nat) : Int) = (i : Int) - 1 by have := HI.out; omega], hJ3⟩
      case measure => simp [intOf]
    · obtain rfl : k = N := by omega
      have e1 : (k : Int) - 1 - (k : Int) = -1 := by omega
      rw [e1]
      gi_wp2
      go_end0
      exact ⟨⟨_, rfl⟩, hJk⟩
end Go.Proofs.YtmomeemkdfoklaaDoor
