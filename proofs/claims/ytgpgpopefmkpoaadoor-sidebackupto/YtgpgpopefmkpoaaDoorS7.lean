/-
  The walks of the laws' same and wordy.
-/
import Derived.Test.YtgpgpopefmkpoaaDoorS6
namespace Go.Proofs.YtgpgpopefmkpoaaDoor
open Go.RowKit
open Ed (Ch)

theorem str_same (x : ByteArray) : (x.toList == x.toList) = true := beq_self_eq_true _
set_option maxHeartbeats 1000000 in
theorem same15_yes {w : World} {u v : Value} {l : List ByteArray} (hu : RdT w u l) (hv : RdT w v l) (hl : l.length ≤ 1099511627776) :
    Calls Tryd.prog 48 #[u, v] w fun e w' => e = .returned (.bool true) ∧ Below w.heap.size w w' := by
  obtain ⟨a, c, rfl⟩ := hu.shape
  obtain ⟨b, d, rfl⟩ := hv.shape
  have HU := hid hu
  have HV := hid hv
  obtain ⟨n, hn⟩ : ∃ n, n = l.length := ⟨_, rfl⟩
  have HN := hid hn
  rw [← hn] at HU HV hl ⊢
  clear hu hv hn
  go_enter Tryd.func48, Tryd.ntmps48
  go_wp2
  go_loopw [5] (fun i wr => ∃ k : Nat, k ≤ n ∧ i = .int .i64 k ∧ Hid (∃ m, wr = w.drewN m)) (fun i _ => n - (intOf i).toNat)
  case atStart => exact ⟨0, Nat.zero_le _, rfl, hid ⟨0, rfl⟩⟩
  case round =>
    obtain ⟨k, hk, rfl, HM⟩ := hrel
    by_cases hlt : k < n
    · obtain ⟨x, hx⟩ : ∃ x, l[k]? = some x := ⟨_, List.getElem?_eq_getElem (by have := HN.out; omega)⟩
      have hbw : Below w.heap.size w wr := by
        obtain ⟨m, rfl⟩ := HM.out
        exact below_drewN (Below.refl _ _) m
      obtain ⟨b1, o1, e1, hb1, c1⟩ := rdT_at (HU.out.below hbw) hx
      obtain ⟨b2, o2, e2, hb2, c2⟩ := rdT_at (HV.out.below hbw) hx
      subst e1 e2
      have i1 : (0 : Int) ≤ (k : Int) := by omega
      have i2 : (k : Int) < (n : Int) := by omega
      have hxx := str_same x
      clear hx hbw hb1 hb2
      go_wp2
      go_quiet (fail)
      have HM2 : Hid (∃ m, wr.drewN nq = w.drewN m) := hid (by
        obtain ⟨m, rfl⟩ := HM.out
        exact ⟨_, World.drewN_drewN _ _ _⟩)
      generalize wr.drewN nq = wq at HM2 ⊢
      go_wp2
      go_roundw
      case rel => exact ⟨k + 1, by omega, by go_num, HM2⟩
      case measure => simp [intOf]; omega
    · have HB : Hid (Below w.heap.size w wr) := hid (by
        obtain ⟨m, rfl⟩ := HM.out
        exact below_drewN (Below.refl _ _) m)
      go_wp2
      go_ret
      exact ⟨rfl, HB.out⟩
theorem rdX_blk {w : World} {b n : Nat} {t : TypeId} {cs : Array Value} (h : w.heap[b]? = some (.cells cs t)) : RdX w (.slice (some ⟨b, 0, none⟩) n n) n cs.toList :=
  .inr ⟨b, 0, n, rfl, Nat.le_refl _, lt_of_heap h, fun j u hj => by rw [Nat.zero_add, cell_of_blk h j, ← Array.getElem?_toList]; exact hj⟩
theorem wds_step {t p r : Sd.Bs} (h : t ≠ []) (hp : t.take (Sd.fl t) = p) (hr : t.drop (Sd.fl t) = r) : Sd.wds t = p :: Sd.wds r := by rw [Sd.wds_cons h, hp, hr]
theorem wordy_words : wdB ⟨#[97, 49, 32, 61, 32, 98, 59, 10]⟩ = [⟨#[97, 49]⟩, ⟨#[32]⟩, ⟨#[61]⟩, ⟨#[32]⟩, ⟨#[98]⟩, ⟨#[59]⟩, ⟨#[10]⟩] := by
  have e : Sd.wds [97, 49, 32, 61, 32, 98, 59, 10] = [[97, 49], [32], [61], [32], [98], [59], [10]] := by
    rw [wds_step (p := [97, 49]) (r := [32, 61, 32, 98, 59, 10]) (by decide) (by decide +kernel) (by decide +kernel),
      wds_step (p := [32]) (r := [61, 32, 98, 59, 10]) (by decide) (by decide +kernel) (by decide +kernel),
      wds_step (p := [61]) (r := [32, 98, 59, 10]) (by decide) (by decide +kernel) (by decide +kernel),
      wds_step (p := [32]) (r := [98, 59, 10]) (by decide) (by decide +kernel) (by decide +kernel),
      wds_step (p := [98]) (r := [59, 10]) (by decide) (by decide +kernel) (by decide +kernel),
      wds_step (p := [59]) (r := [10]) (by decide) (by decide +kernel) (by decide +kernel),
      wds_step (p := [10]) (r := []) (by decide) (by decide +kernel) (by decide +kernel), Sd.wds_nil]
  unfold wdB
  show (Sd.wds [97, 49, 32, 61, 32, 98, 59, 10]).map bB = _
  rw [e]
  rfl
theorem wordy_norm : Ed.normal [⟨1, 1, 1, 1⟩] 3 3 = [⟨1, 1, 1, 1⟩] := by decide +kernel
theorem wordy_text : inlP [⟨#[97]⟩, ⟨#[120]⟩, ⟨#[98]⟩] [⟨#[97]⟩, ⟨#[121]⟩, ⟨#[98]⟩] [⟨1, 1, 1, 1⟩] 0 = [97, 91, 45, 120, 45, 93, 123, 43, 121, 43, 125, 98] := by decide +kernel

set_option maxHeartbeats 2000000 in
theorem wordy_any (w : World) : Calls Tryd.prog 21 #[] w fun e w' => e = .returned (.bool true) ∧ Below w.heap.size w w' := by
  have HW := hid (words_any ⟨#[97, 49, 32, 61, 32, 98, 59, 10]⟩ w (by decide))
  rw [wordy_words] at HW
  have HI : Hid (∀ w1 : World, Calls Tryd.prog 19 #[.slice (some ⟨w1.heap.size, 0, none⟩) 1 1, .slice (some ⟨w1.heap.size + 1, 0, none⟩) 3 3, .slice (some ⟨w1.heap.size + 1 + 1, 0, none⟩) 3 3] (((w1.alloc (.cells #[.int .i64 1, .int .i64 1, .int .i64 1, .int .i64 1] 45)).alloc (.cells #[.string ⟨#[97]⟩, .string ⟨#[120]⟩, .string ⟨#[98]⟩] 9)).alloc (.cells #[.string ⟨#[97]⟩, .string ⟨#[121]⟩, .string ⟨#[98]⟩] 9)) fun e w' => e = .returned (.tuple #[.string ⟨#[97, 91, 45, 120, 45, 93, 123, 43, 121, 43, 125, 98]⟩, .nilIface]) ∧ Below w1.heap.size w1 w') := hid (fun w1 => by
    have b1 := (Below.refl w1.heap.size w1).alloc (Nat.le_refl _) (.cells #[.int .i64 1, .int .i64 1, .int .i64 1, .int .i64 1] 45)
    have h1 := heap_alloc_new w1 (.cells #[.int .i64 1, .int .i64 1, .int .i64 1, .int .i64 1] 45)
    have z1 : (w1.alloc (.cells #[.int .i64 1, .int .i64 1, .int .i64 1, .int .i64 1] 45)).heap.size = w1.heap.size + 1 := by simp
    generalize w1.alloc (.cells #[.int .i64 1, .int .i64 1, .int .i64 1, .int .i64 1] 45) = w2 at b1 h1 z1 ⊢
    have b2 := (Below.refl w2.heap.size w2).alloc (Nat.le_refl _) (.cells #[.string ⟨#[97]⟩, .string ⟨#[120]⟩, .string ⟨#[98]⟩] 9)
    have h2 := heap_alloc_new w2 (.cells #[.string ⟨#[97]⟩, .string ⟨#[120]⟩, .string ⟨#[98]⟩] 9)
    have z2 : (w2.alloc (.cells #[.string ⟨#[97]⟩, .string ⟨#[120]⟩, .string ⟨#[98]⟩] 9)).heap.size = w2.heap.size + 1 := by simp
    generalize w2.alloc (.cells #[.string ⟨#[97]⟩, .string ⟨#[120]⟩, .string ⟨#[98]⟩] 9) = w3 at b2 h2 z2 ⊢
    have b3 := (Below.refl w3.heap.size w3).alloc (Nat.le_refl _) (.cells #[.string ⟨#[97]⟩, .string ⟨#[121]⟩, .string ⟨#[98]⟩] 9)
    have h3 := heap_alloc_new w3 (.cells #[.string ⟨#[97]⟩, .string ⟨#[121]⟩, .string ⟨#[98]⟩] 9)
    generalize w3.alloc (.cells #[.string ⟨#[97]⟩, .string ⟨#[121]⟩, .string ⟨#[98]⟩] 9) = w4 at b3 h3 ⊢
    have bb : Below w1.heap.size w1 w4 := (b1.trans (b2.mono b1.size)).trans (b3.mono (by omega))
    rw [z2, z1] at h3
    rw [z1] at h2
    have h2' := (b3.block _ (by omega)).trans h2
    have h1' := (b3.block _ (by omega)).trans ((b2.block _ (by omega)).trans h1)
    refine (inline_any (s := [⟨1, 1, 1, 1⟩]) (A := [⟨#[97]⟩, ⟨#[120]⟩, ⟨#[98]⟩]) (Bl := [⟨#[97]⟩, ⟨#[121]⟩, ⟨#[98]⟩]) (rdX_blk h1') ?_ ⟨by decide +kernel, by decide +kernel, by decide +kernel⟩ (rdX_blk h2') (rdX_blk h3) ?_).mono ?_
    · intro c hc
      rw [List.mem_singleton.1 hc]
      unfold WfC I64
      decide
    · show (inlP _ _ (Ed.normal [⟨1, 1, 1, 1⟩] 3 3) 0).length + 8 ≤ _
      rw [wordy_norm, wordy_text]
      decide
    · rintro e w' ⟨rfl, hb⟩
      refine ⟨?_, bb.trans (hb.mono bb.size)⟩
      show Ending.returned (.tuple #[.string (bB (inlP _ _ (Ed.normal [⟨1, 1, 1, 1⟩] 3 3) 0)), .nilIface]) = _
      rw [wordy_norm, wordy_text]
      rfl)
  go_enter Tryd.func21, Tryd.ntmps21
  go_wp2_with fail
  refine HW.out.mono ?_
  rintro e w1 ⟨v1, rfl, hO, hb1⟩
  obtain ⟨a1, c1, rfl⟩ := own_shape hO
  have HO := hid hO
  have HB1 := hid hb1
  clear hO hb1 HW
  go_wp2_with fail
  refine (HI.out w1).mono ?_
  rintro e w2 ⟨rfl, hb2⟩
  have HB2 := hid (HB1.out.trans (hb2.mono HB1.out.size))
  have hb3 := (Below.refl w2.heap.size w2).alloc (Nat.le_refl _) (.cells #[.string ⟨#[97, 49]⟩, .string ⟨#[32]⟩, .string ⟨#[61]⟩, .string ⟨#[32]⟩, .string ⟨#[98]⟩, .string ⟨#[59]⟩, .string ⟨#[10]⟩] 9)
  have HS := hid (same15_yes (own_rd (own_stays (own_stays HO.out hb2) hb3)) (v := .slice (some ⟨w2.heap.size, 0, none⟩) 7 7) (rdX_blk (heap_alloc_new w2 (.cells #[.string ⟨#[97, 49]⟩, .string ⟨#[32]⟩, .string ⟨#[61]⟩, .string ⟨#[32]⟩, .string ⟨#[98]⟩, .string ⟨#[59]⟩, .string ⟨#[10]⟩] 9))) (by decide))
  have HB3 := hid (HB2.out.trans (hb3.mono HB2.out.size))
  clear hb2 hb3 HI HO
  go_wp2_with fail
  refine HS.out.mono ?_
  rintro e w3 ⟨rfl, hb4⟩
  have HB4 := hid (HB3.out.trans (hb4.mono HB3.out.size))
  clear hb4 HS
  go_wp2_with fail
  go_ret
  exact ⟨rfl, HB4.out⟩
end Go.Proofs.YtgpgpopefmkpoaaDoor
