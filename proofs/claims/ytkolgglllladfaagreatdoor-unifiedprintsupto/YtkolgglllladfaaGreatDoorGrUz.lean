/-
  Several texts in one: U3, U5.
-/
import Derived.Test.YtkolgglllladfaaGreatDoorU2
import Derived.Test.YtkolgglllladfaaGreatDoorGrAs
import Derived.Test.YtkolgglllladfaaGreatDoorU4
/-
  Unified diffs: the law's sure.
-/
namespace Go.Proofs.YtkolgglllladfaaGreatDoor
open Go.RowKit
open Hu (Rw Hk)

/-- what the calls read of the world -/
structure RdyU (w : World) : Prop where
  lib : LibV w
  pow : PowV w
  err : ErrVar w
theorem RdyU.below {w w' : World} (h : RdyU w) (hb : Below w.heap.size w w') : RdyU w' := ⟨h.lib.below hb, h.pow.below hb (Nat.succ_le_of_lt h.pow.lt), h.err.below hb⟩
theorem su_rd {w : World} {g r : Nat} (h1 : w.heap[g]? = some (.cells #[.int .i64 1, .int .i64 1, .int .i64 1, .int .i64 1, .string ⟨#[]⟩, .slice (some ⟨r, 0, none⟩) 2 2] 37)) (h2 : w.heap[r]? = some (.cells #[.int .i64 2, .string ⟨#[97, 10]⟩, .int .i64 3, .string ⟨#[98]⟩] 57)) : RdH w (.slice (some ⟨g, 0, none⟩) 1 1) [suH] := by
  refine ⟨[(suH, .slice (some ⟨r, 0, none⟩) 2 2)], rfl, .inr ⟨g, 0, 1, rfl, Nat.le_refl _, lt_of_heap h1, fun j u hj => ?_⟩, fun q hq => ?_⟩
  · rw [Nat.zero_add, cell_of_blk h1 j]
    rw [← hj, ← Array.getElem?_toList]
    rfl
  · rw [List.mem_singleton.1 hq]
    refine .inr ⟨r, 0, 2, rfl, Nat.le_refl _, lt_of_heap h2, fun j u hj => ?_⟩
    rw [Nat.zero_add, cell_of_blk h2 j]
    rw [← hj, ← Array.getElem?_toList]
    rfl
theorem su_pa {w : World} {s : ByteArray} (h : s.data.toList = suM) (hv : LibV w) : Calls Tryz.prog 24 #[.string s] w fun e w' => Below w.heap.size w w' ∧ ∃ v, e = .returned (.tuple #[.agg #[.string ⟨#[97, 47, 120]⟩, .string ⟨#[]⟩], .agg #[.string ⟨#[98, 47, 120]⟩, .string ⟨#[]⟩], v, .string ⟨#[109, 111, 114, 101]⟩, .int .i64 0, .nilIface]) ∧ RdH w' v [suH] := by
  refine (parse_any hv (by rw [← dsize, h]; decide)).mono ?_
  rintro e w' ⟨hb, ha⟩
  rw [h, su_parse] at ha
  obtain ⟨v, he, hO, _⟩ := ha
  exact ⟨hb, v, he, hO.rd⟩
theorem su_pb {w : World} {s : ByteArray} (h : s.data.toList = suB) (hv : LibV w) : Calls Tryz.prog 24 #[.string s] w fun e w' => Below w.heap.size w w' ∧ e = .returned (.tuple #[.agg #[.string ⟨#[]⟩, .string ⟨#[]⟩], .agg #[.string ⟨#[]⟩, .string ⟨#[]⟩], .slice none 0 0, .string ⟨#[]⟩, .int .i64 5, .iface 42 (.int .i64 111)]) := by
  refine (parse_any hv (by rw [← dsize, h]; decide)).mono ?_
  rintro e w' ⟨hb, ha⟩
  rw [h, su_bad] at ha
  exact ⟨hb, ha⟩
set_option maxHeartbeats 8000000 in
set_option maxRecDepth 100000 in
theorem sure_any (w : World) (hr : RdyU w) : Calls Tryz.prog 11 #[] w fun e w' => e = .returned (.bool true) ∧ Below w.heap.size w w' := by
  obtain ⟨hb0, k0, k1, k2⟩ := threeF w (.cells #[.int .i64 2, .string ⟨#[97, 10]⟩, .int .i64 3, .string ⟨#[98]⟩] 57) (.cells #[.int .i64 1, .int .i64 1, .int .i64 1, .int .i64 1, .string ⟨#[]⟩, .slice (some ⟨w.heap.size, 0, none⟩) 2 2] 37) (.cells #[.int .i64 1, .int .i64 1, .int .i64 1, .int .i64 1, .string ⟨#[]⟩, .slice (some ⟨w.heap.size, 0, none⟩) 2 2] 37)
  have HB0 := hid hb0
  have K0 := hid k0
  have K1 := hid k1
  have K2 := hid k2
  have HR := hid hr
  have HPR := hid (fun w1 v (h1 : Below w.heap.size w w1) (h2 : RdH w1 v [suH]) => print_bare (w := w1) (v := v) (hs := [suH]) ⟨#[97, 47, 120]⟩ ⟨#[98, 47, 120]⟩ h2 (hr.below h1).pow su_chk (fun h hh => by rw [List.mem_singleton.1 hh]; exact suH_sz) (by decide) (by decide) (by decide) (by decide) (by decide) (by decide) (by decide) (by rw [su_hunk]; decide))
  rw [show (ByteArray.mk #[97, 47, 120]).data.toList = [97, 47, 120] from rfl, show (ByteArray.mk #[98, 47, 120]).data.toList = [98, 47, 120] from rfl, su_print] at HPR
  have HPA := hid (fun w1 (s : ByteArray) (h1 : Below w.heap.size w w1) (h2 : s.data.toList = suM) => su_pa (s := s) h2 (hr.below h1).lib)
  have HPB := hid (fun w1 (s : ByteArray) (h1 : Below w.heap.size w w1) (h2 : s.data.toList = suB) => su_pb (s := s) h2 (hr.below h1).lib)
  clear hb0 k0 k1 k2 hr
  go_enter Tryz.func11, Tryz.ntmps11
  go_wp2_with fail
  obtain ⟨A, hA⟩ : ∃ A, A = w.heap.size := ⟨_, rfl⟩
  rw [← hA] at K0 K1 K2 HB0 ⊢
  generalize ((w.alloc (.cells #[.int .i64 2, .string ⟨#[97, 10]⟩, .int .i64 3, .string ⟨#[98]⟩] 57)).alloc (.cells #[.int .i64 1, .int .i64 1, .int .i64 1, .int .i64 1, .string ⟨#[]⟩, .slice (some ⟨A, 0, none⟩) 2 2] 37)).alloc (.cells #[.int .i64 1, .int .i64 1, .int .i64 1, .int .i64 1, .string ⟨#[]⟩, .slice (some ⟨A, 0, none⟩) 2 2] 37) = w0 at HB0 K0 K1 K2 ⊢
  have HB0' : Hid (Below w.heap.size w w0) := hid (by rw [← hA]; exact HB0.out)
  have hAw : A = w.heap.size := hA
  have HAW := hid hAw
  clear hA hAw HB0
  have HB0 := HB0'
  clear HB0'
  refine (HPR.out w0 _ HB0.out (su_rd K2.out K0.out)).mono ?_
  rintro e w1 ⟨rfl, hb1⟩
  have HB1 := hid (HB0.out.trans (hb1.mono HB0.out.size))
  have L0 := hid ((hb1.block A (lt_of_heap K0.out)).trans K0.out)
  have L1 := hid ((hb1.block (A + 1) (lt_of_heap K1.out)).trans K1.out)
  clear hb1 HPR
  obtain ⟨TX, hTX⟩ : ∃ TX, TX = bB suT := ⟨_, rfl⟩
  rw [← hTX]
  have HTX := hid hTX
  clear hTX
  go_wp2_with fail
  refine (HPA.out w1 _ HB1.out (by kernel_rfl)).mono ?_
  rintro e w2 ⟨hb2, v, rfl, hrd⟩
  obtain ⟨va, vc, rfl⟩ := hrd.shape
  have HRD := hid hrd
  have HB2 := hid (HB1.out.trans (hb2.mono HB1.out.size))
  have M0 := hid ((hb2.block A (lt_of_heap L0.out)).trans L0.out)
  have M1 := hid ((hb2.block (A + 1) (lt_of_heap L1.out)).trans L1.out)
  obtain ⟨hbN, n1, n2⟩ := twoF w2 (.cells #[.string ⟨#[]⟩, .string ⟨#[]⟩] 23) (.cells #[.string ⟨#[]⟩, .string ⟨#[]⟩] 23)
  have HBN := hid hbN
  have P1 := hid n1
  have P2 := hid n2
  obtain ⟨C, hC⟩ : ∃ C, C = w2.heap.size := ⟨_, rfl⟩
  rw [← hC] at P1 P2
  have HCA : Hid (A + 1 < C) := hid (by have := lt_of_heap M1.out; omega)
  have HCW := hid hC
  clear hb2 hrd hbN n1 n2 HPA L0 L1
  go_wp2_with (first | (guard_target =~ wpList _ _ _ (_ :: _) _ _; rw [← hC]; refine wpList_stA 23 #[.string ⟨#[97, 47, 120]⟩, .string ⟨#[]⟩] rfl rfl P1.out Tryz.sizeName rfl rfl rfl rfl ?_; intro w3 hk3 hkp3; have Q1 := hid hk3; have HP3 := hid hkp3; have Q2 := hid ((hkp3.block (C + 1) (lt_of_heap P2.out) (by omega)).trans P2.out); clear hk3 hkp3 hC) | (guard_target =~ wpList _ _ _ (_ :: _) _ _; refine wpList_stA 23 #[.string ⟨#[98, 47, 120]⟩, .string ⟨#[]⟩] rfl rfl Q2.out Tryz.sizeName rfl rfl rfl rfl ?_; intro w4 hk4 hkp4; have R2 := hid hk4; have HP4 := hid hkp4; have R1 := hid ((hkp4.block C (lt_of_heap Q1.out) (by omega)).trans Q1.out); clear hk4 hkp4))
  have HB4 := hid (Kept.onto (Kept.onto (HB2.out.trans (HBN.out.mono HB2.out.size)) HP3.out (by have := HCA.out; have := HAW.out; omega) (Nat.le_refl _)) HP4.out (by have := HCA.out; have := HAW.out; omega) (Nat.le_refl _))
  have HK4 : Hid (Below C w2 w4) := hid (Kept.onto (Kept.onto (HCW.out ▸ HBN.out) HP3.out (Nat.le_refl _) (Nat.le_of_eq HCW.out)) HP4.out (Nat.le_succ _) (Nat.le_of_eq HCW.out))
  have HRD4 : Hid (RdH w4 (.slice va 1 vc) [suH]) := hid (HRD.out.below (HCW.out ▸ HK4.out))
  have S0 := hid ((HK4.out.block A (by have := HCA.out; omega)).trans M0.out)
  have S1 := hid ((HK4.out.block (A + 1) HCA.out).trans M1.out)
  clear M0 M1 HRD HBN P1 P2 HP3 HP4 Q1 Q2 HK4 HB2 HB1 HB0 K0 K1 K2
  refine (HPB.out w4 _ HB4.out (by kernel_rfl)).mono ?_
  rintro e w5 ⟨hb5, rfl⟩
  have HB5 := hid (HB4.out.trans (hb5.mono HB4.out.size))
  have HRD5 := hid (HRD4.out.below hb5)
  have T0 := hid ((hb5.block A (lt_of_heap S0.out)).trans S0.out)
  have T1 := hid ((hb5.block (A + 1) (lt_of_heap S1.out)).trans S1.out)
  have U1 := hid ((hb5.block C (lt_of_heap R1.out)).trans R1.out)
  have U2 := hid ((hb5.block (C + 1) (lt_of_heap R2.out)).trans R2.out)
  clear hb5 HPB HRD4 S0 S1 R1 R2 HB4
  obtain ⟨hbN, n1, n2⟩ := twoF w5 (.cells #[.string ⟨#[]⟩, .string ⟨#[]⟩] 23) (.cells #[.string ⟨#[]⟩, .string ⟨#[]⟩] 23)
  have HBN := hid hbN
  have P1 := hid n1
  have P2 := hid n2
  obtain ⟨D, hD⟩ : ∃ D, D = w5.heap.size := ⟨_, rfl⟩
  rw [← hD] at P1 P2
  have HDW := hid hD
  have hTl : (TX.toList == [45, 45, 45, 32, 97, 47, 120, 10, 43, 43, 43, 32, 98, 47, 120, 10, 64, 64, 32, 45, 49, 32, 43, 49, 32, 64, 64, 10, 45, 97, 10, 43, 98, 10, 92, 32, 78, 111, 32, 110, 101, 119, 108, 105, 110, 101, 32, 97, 116, 32, 101, 110, 100, 32, 111, 102, 32, 102, 105, 108, 101, 10]) = true := by
    rw [HTX.out, str_eq, decide_eq_true]
    rfl
  clear hbN n1 n2
  go_wp2_with (first | (guard_target =~ wpList _ _ _ (_ :: _) _ _; rw [← hD]; refine wpList_stA 23 #[.string ⟨#[]⟩, .string ⟨#[]⟩] rfl rfl P1.out Tryz.sizeName rfl rfl rfl rfl ?_; intro w7 hk7 hkp7; have HP7 := hid hkp7; have Q2 := hid ((hkp7.block (D + 1) (lt_of_heap P2.out) (by omega)).trans P2.out); clear hk7 hkp7 hD) | (guard_target =~ wpList _ _ _ (_ :: _) _ _; refine wpList_stA 23 #[.string ⟨#[]⟩, .string ⟨#[]⟩] rfl rfl Q2.out Tryz.sizeName rfl rfl rfl rfl ?_; intro w8 hk8 hkp8; have HK8 : Hid (Below D w5 w8) := hid (Kept.onto (Kept.onto (HDW.out ▸ HBN.out) HP7.out (Nat.le_refl _) (Nat.le_of_eq HDW.out)) hkp8 (Nat.le_succ _) (Nat.le_of_eq HDW.out)); have HB8 := hid (HB5.out.trans (HK8.out.mono (by rw [HDW.out]; exact HB5.out.size))); have HRD8 : Hid (RdH w8 (.slice va 1 vc) [suH]) := hid (HRD5.out.below (HDW.out ▸ HK8.out)); have V0 := hid ((HK8.out.block A (by have := lt_of_heap T0.out; have := HDW.out; omega)).trans T0.out); have V1 := hid ((HK8.out.block (A + 1) (by have := lt_of_heap T1.out; have := HDW.out; omega)).trans T1.out); have X1 := hid ((HK8.out.block C (by have := lt_of_heap U1.out; have := HDW.out; omega)).trans U1.out); have X2 := hid ((HK8.out.block (C + 1) (by have := lt_of_heap U2.out; have := HDW.out; omega)).trans U2.out); have c0 : w8.cell? ⟨A + 1, 0, none⟩ = some (.int .i64 1) := cell_of_blk V1.out 0; have c1 : w8.cell? ⟨A + 1, 1, none⟩ = some (.int .i64 1) := cell_of_blk V1.out 1; have c2 : w8.cell? ⟨A + 1, 2, none⟩ = some (.int .i64 1) := cell_of_blk V1.out 2; have c3 : w8.cell? ⟨A + 1, 3, none⟩ = some (.int .i64 1) := cell_of_blk V1.out 3; have c4 : w8.cell? ⟨A + 1, 4, none⟩ = some (.string ⟨#[]⟩) := cell_of_blk V1.out 4; have c5 : w8.cell? ⟨A + 1, 5, none⟩ = some (.slice (some ⟨A, 0, none⟩) 2 2) := cell_of_blk V1.out 5; have p0 : w8.cell? ⟨C, 0, none⟩ = some (.string ⟨#[97, 47, 120]⟩) := cell_of_blk X1.out 0; have q0 : w8.cell? ⟨C + 1, 0, none⟩ = some (.string ⟨#[98, 47, 120]⟩) := cell_of_blk X2.out 0; clear hk8 hkp8))
  have hbB := (Below.refl w8.heap.size w8).alloc (Nat.le_refl _) (.cells #[.int .i64 1, .int .i64 1, .int .i64 1, .int .i64 1, .string ⟨#[]⟩, .slice (some ⟨A, 0, none⟩) 2 2] 37)
  have hkB := heap_alloc_new w8 (.cells #[.int .i64 1, .int .i64 1, .int .i64 1, .int .i64 1, .string ⟨#[]⟩, .slice (some ⟨A, 0, none⟩) 2 2] 37)
  have HBB := hid (HB8.out.trans (hbB.mono HB8.out.size))
  have HRB := hid (HRD8.out.below hbB)
  have HRC := hid (su_rd hkB ((hbB.block A (lt_of_heap V0.out)).trans V0.out))
  clear hbB hkB
  generalize w8.alloc (.cells #[.int .i64 1, .int .i64 1, .int .i64 1, .int .i64 1, .string ⟨#[]⟩, .slice (some ⟨A, 0, none⟩) 2 2] 37) = w9 at HBB HRB HRC ⊢
  refine (sameHunks_yes HRB.out HRC.out (by decide) (fun h hh => by rw [List.mem_singleton.1 hh]; decide)).mono ?_
  rintro e w10 ⟨rfl, hb10⟩
  have HB10 := hid (HBB.out.trans (hb10.mono HBB.out.size))
  clear hb10
  go_wp2_with fail
  refine (num_errno 111 w10 (HR.out.below HB10.out).err).mono ?_
  rintro e w11 ⟨rfl, hb11⟩
  have HB11 := hid (HB10.out.trans (hb11.mono HB10.out.size))
  clear hb11
  go_wp2_with fail
  go_ret
  exact ⟨rfl, HB11.out⟩
end Go.Proofs.YtkolgglllladfaaGreatDoor
/-
  Unified diffs: Parse by what it answers; two names laid.
-/
namespace Go.Proofs.YtkolgglllladfaaGreatDoor
open Go.RowKit
open Hu (Rw Hk)

theorem pa_bad {w : World} {s : ByteArray} {c er : Nat} (h : Un.parse s.data.toList = .bad c er) (hv : LibV w) (hs : s.size ≤ maxLen) : Calls Tryz.prog 24 #[.string s] w fun e w' => Below w.heap.size w w' ∧ e = .returned (.tuple #[.agg #[.string ⟨#[]⟩, .string ⟨#[]⟩], .agg #[.string ⟨#[]⟩, .string ⟨#[]⟩], .slice none 0 0, .string ⟨#[]⟩, .int .i64 (c : Nat), .iface 42 (.int .i64 (er : Nat))]) := by
  refine (parse_any hv hs).mono ?_
  rintro e w' ⟨hb, ha⟩
  rw [h] at ha
  exact ⟨hb, ha⟩
theorem pa_ok {w : World} {s : ByteArray} {o q : Un.Bs × Un.Bs} {hs : List Hk} {rest : Un.Bs} (h : Un.parse s.data.toList = .ok o q hs rest) (hv : LibV w) (hz : s.size ≤ maxLen) : Calls Tryz.prog 24 #[.string s] w fun e w' => Below w.heap.size w w' ∧ ∃ va vc, e = .returned (.tuple #[.agg #[.string (bB o.1), .string (bB o.2)], .agg #[.string (bB q.1), .string (bB q.2)], .slice va hs.length vc, .string (bB rest), .int .i64 0, .nilIface]) ∧ OwnH w' w.heap.size (.slice va hs.length vc) hs ∧ (∀ h ∈ hs, SzH h) ∧ hs.length ≤ 5000000 := by
  refine (parse_any hv hz).mono ?_
  rintro e w' ⟨hb, ha⟩
  rw [h] at ha
  obtain ⟨v, he, hO, h1, h2⟩ := ha
  obtain ⟨va, vc, rfl⟩ := hO.shape
  exact ⟨hb, va, vc, he, hO, h1, h2⟩
theorem parse_ne {s : Un.Bs} {o q : Un.Bs × Un.Bs} {hs : List Hk} {rest : Un.Bs} (h : Un.parse s = .ok o q hs rest) : s ≠ [] := by
  rintro rfl
  have : Un.parse [] = .bad 1 110 := by kernel_rfl
  rw [this] at h
  cases h
theorem SzH.rowsLe {h : Hk} (hz : SzH h) : h.rows.length ≤ 5864062014800 := Nat.le_of_lt hz.1
end Go.Proofs.YtkolgglllladfaaGreatDoor
