/-
  Unified diffs: the program's Print of names without a stamp (made by wip/genu1.py).
-/
import Derived.Test.YtobocdbehjcpjaaGreatDoorFy
import Derived.Test.YtobocdbehjcpjaaGreatDoorU0
namespace Go.Proofs.YtobocdbehjcpjaaGreatDoor
open Go.RowKit
open Hu (Rw Hk)

set_option maxHeartbeats 4000000 in
set_option maxRecDepth 100000 in
theorem print_bare {w : World} {v : Value} {hs : List Hk} (p1 p2 : ByteArray) (hr : RdH w v hs) (hp : PowV w) (hch : chkN hs = 0) (hz : ∀ h ∈ hs, SzH h) (hn : hs.length ≤ 5000000) (hp1 : p1.size ≤ 1099511627776) (hp2 : p2.size ≤ 1099511627776) (h01 : p1.size ≠ 0) (h02 : p2.size ≠ 0) (hz1 : (0 : UInt8) ∉ p1.data.toList) (hz2 : (0 : UInt8) ∉ p2.data.toList) (hl : (hs.flatMap Un.hunkT).length ≤ 100000000000000) :
    Calls Tryz.prog 9 #[.agg #[.string p1, .string ⟨#[]⟩], .agg #[.string p2, .string ⟨#[]⟩], v] w fun e w' => e = .returned (.tuple #[.string (bB (Un.printT (p1.data.toList, []) (p2.data.toList, []) hs)), .nilIface]) ∧ Below w.heap.size w w' := by
  have hall : hs.all Hu.vld = true := by
    unfold chkN at hch
    split at hch
    · assumption
    · cases hch
  have HCK := hid (fun w1 (h1 : Below w.heap.size w w1) => check_any (hr.below h1) hn hz)
  rw [hch] at HCK
  have HFP := hid (fun w1 (h1 : Below w.heap.size w w1) => fprint_any p1 ⟨#[]⟩ p2 ⟨#[]⟩ (hr.below h1) (hp.below h1 (Nat.succ_le_of_lt hp.lt)) hall hz hn hp1 hp2 (by show 0 ≤ _; omega) (by show 0 ≤ _; omega) hl)
  have HI1 := hid (fun w1 => isPrinted_bare p1 w1 h01 hz1)
  have HI2 := hid (fun w1 => isPrinted_bare p2 w1 h02 hz2)
  have HFM := hid (fun w1 => format_any w1)
  have e0 : (ByteArray.mk #[]).data.toList = [] := rfl
  rw [e0] at HFP
  obtain ⟨PT, hPT⟩ : ∃ PT, PT = bB (Un.printT (p1.data.toList, []) (p2.data.toList, []) hs) := ⟨_, rfl⟩
  rw [← hPT] at HFP ⊢
  obtain ⟨va, vc, rfl⟩ := hr.shape
  obtain ⟨N, hN⟩ : ∃ N, N = hs.length := ⟨_, rfl⟩
  rw [← hN] at HCK HFP ⊢
  obtain ⟨hb0, k1, k2⟩ := twoF w (.cells #[.string p1, .string ⟨#[]⟩] 23) (.cells #[.string p2, .string ⟨#[]⟩] 23)
  have HB0 := hid hb0
  have K1 := hid k1
  have K2 := hid k2
  obtain ⟨A, hA⟩ : ∃ A, A = w.heap.size := ⟨_, rfl⟩
  rw [← hA] at K1 K2
  clear hr hp hch hz hall hPT hN hb0 k1 k2 h01 h02 hz1 hz2 e0
  go_enter Tryz.func9, Tryz.ntmps9
  go_wp2_with fail
  rw [← hA]
  clear hA
  generalize (w.alloc (.cells #[.string p1, .string ⟨#[]⟩] 23)).alloc (.cells #[.string p2, .string ⟨#[]⟩] 23) = w0 at HB0 K1 K2 ⊢
  refine (HI1.out w0).mono ?_
  rintro e w1 ⟨rfl, hb1⟩
  have HB1 := hid (HB0.out.trans (hb1.mono HB0.out.size))
  have L1 := hid ((hb1.block A (lt_of_heap K1.out)).trans K1.out)
  have L2 := hid ((hb1.block (A + 1) (lt_of_heap K2.out)).trans K2.out)
  have c0 : w1.cell? ⟨A + 1, 0, none⟩ = some (.string p2) := cell_of_blk L2.out 0
  have c1 : w1.cell? ⟨A + 1, 1, none⟩ = some (.string ⟨#[]⟩) := cell_of_blk L2.out 1
  clear hb1
  go_wp2_with fail
  refine (HI2.out w1).mono ?_
  rintro e w2 ⟨rfl, hb2⟩
  have HB2 := hid (HB1.out.trans (hb2.mono HB1.out.size))
  have M1 := hid ((hb2.block A (lt_of_heap L1.out)).trans L1.out)
  have M2 := hid ((hb2.block (A + 1) (lt_of_heap L2.out)).trans L2.out)
  clear hb2 c0 c1
  go_wp2_with fail
  refine (HCK.out w2 HB2.out).mono ?_
  rintro e w3 ⟨rfl, hb3⟩
  have HB3 := hid (HB2.out.trans (hb3.mono HB2.out.size))
  have N1 := hid ((hb3.block A (lt_of_heap M1.out)).trans M1.out)
  have N2 := hid ((hb3.block (A + 1) (lt_of_heap M2.out)).trans M2.out)
  clear hb3
  rw [errV_zero]
  go_wp2_with fail
  refine wp_region_noPanic ?_
  refine wp_region_held_drew (S := fun w' => Below w3.heap.size w3 w') (by kernel_rfl) ?S (fun hHeld => ?M)
  case S => exact (Below.refl _ _).drew
  generalize w3.drew = wd at hHeld ⊢
  refine wpAnyH_take (i := 1) (v := ?v1) rfl (by kernel_rfl) (by kernel_rfl) (by kernel_rfl) (fun _ _ _ h => h) (Or.inl ⟨by rfl, fun ww hSw => ?y1⟩) hHeld ?r1
  case y1 => (have t0 : ww.cell? ⟨A, 0, none⟩ = some (.string p1) := cell_of_blk ((hSw.block A (lt_of_heap N1.out)).trans N1.out) 0; have t1 : ww.cell? ⟨A, 1, none⟩ = some (.string ⟨#[]⟩) := cell_of_blk ((hSw.block A (lt_of_heap N1.out)).trans N1.out) 1; go_simp; all_goals with_reducible rfl)
  try simp only [Act.put]
  try simp only [List.setIfInBounds_toArray]
  try simp only [List.set]
  refine wpAnyH_take (i := 2) (v := ?v2) rfl (by kernel_rfl) (by kernel_rfl) (by kernel_rfl) (fun _ _ _ h => h) (Or.inl ⟨by rfl, fun ww hSw => ?y2⟩) hHeld ?r2
  case y2 => (have t0 : ww.cell? ⟨(A + 1), 0, none⟩ = some (.string p2) := cell_of_blk ((hSw.block (A + 1) (lt_of_heap N2.out)).trans N2.out) 0; have t1 : ww.cell? ⟨(A + 1), 1, none⟩ = some (.string ⟨#[]⟩) := cell_of_blk ((hSw.block (A + 1) (lt_of_heap N2.out)).trans N2.out) 1; go_simp; all_goals with_reducible rfl)
  try simp only [Act.put]
  try simp only [List.setIfInBounds_toArray]
  try simp only [List.set]
  refine wpAnyH_take (i := 3) (v := ?v3) rfl (by kernel_rfl) (by kernel_rfl) (by kernel_rfl) (fun _ _ _ h => h) (Or.inl ⟨by rfl, fun ww hSw => ?y3⟩) hHeld ?r3
  case y3 => (go_simp; all_goals with_reducible rfl)
  try simp only [Act.put]
  try simp only [List.setIfInBounds_toArray]
  try simp only [List.set]
  refine wpAnyH_ready (rs := [0]) (by kernel_rfl) (by simp) ?q0
  refine AllReadyH.cons rfl (fun K hK => ?_) AllReadyH.nil
  go_simp
  refine (HFM.out wd).mono ?_
  rintro e w5 ⟨rfl, hb5⟩
  go_simp
  refine hK.out _ _ ?S0 (fun hHeld => ?M0)
  case S0 => exact hHeld.trans (hb5.mono hHeld.size)
  clear hK K hb5
  try simp only [Act.put]
  try simp only [List.setIfInBounds_toArray]
  try simp only [List.set]
  refine wpAnyH_ready (rs := [4]) (by kernel_rfl) (by simp) ?q4
  refine AllReadyH.cons rfl (fun K hK => ?_) AllReadyH.nil
  go_simp
  refine (HFP.out w5 (HB3.out.trans (hHeld.mono HB3.out.size))).mono ?_
  rintro e w6 ⟨rfl, hb6⟩
  go_simp
  refine hK.out _ _ ?S4 (fun hHeld => ?M4)
  case S4 => exact hHeld.trans (hb6.mono hHeld.size)
  clear hK K hb6
  try simp only [Act.put]
  try simp only [List.setIfInBounds_toArray]
  try simp only [List.set]
  refine wpAnyH_ready (rs := [5]) (by kernel_rfl) (by simp) ?q5
  refine AllReadyH.cons rfl (fun K hK => ?_) AllReadyH.nil
  go_simp
  refine hK.out _ _ ?S5 (fun hHeld => ?M5)
  case S5 => exact hHeld
  clear hK K
  try simp only [Act.put]
  try simp only [List.setIfInBounds_toArray]
  try simp only [List.set]
  refine wpAnyH_ready (rs := [6]) (by kernel_rfl) (by simp) ?q6
  refine AllReadyH.cons rfl (fun K hK => ?_) AllReadyH.nil
  go_simp
  refine hK.out _ _ ?S6 (fun hHeld => ?M6)
  case S6 => exact hHeld
  clear hK K
  try simp only [Act.put]
  try simp only [List.setIfInBounds_toArray]
  try simp only [List.set]
  refine wpAnyH_done (by kernel_rfl) ?_ _
  refine NoPanic.normal ?_
  have HBZ := hid (HB3.out.trans (hHeld.mono HB3.out.size))
  clear hHeld
  go_wp2_with fail
  go_ret2
  exact ⟨rfl, HBZ.out⟩
end Go.Proofs.YtobocdbehjcpjaaGreatDoor
