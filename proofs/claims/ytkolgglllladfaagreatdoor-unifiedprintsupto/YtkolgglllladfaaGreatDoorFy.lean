/-
  Unified diffs: the program's Print.
-/
import Derived.Test.YtkolgglllladfaaGreatDoorFx
import Derived.Test.YtkolgglllladfaaGreatDoorFt
import Derived.Test.YtkolgglllladfaaGreatDoorXQ6
namespace Go.Proofs.YtkolgglllladfaaGreatDoor
open Go.RowKit
open Hu (Rw Hk)

theorem str_any {B b : Nat} {l : Un.Bs} {w : World} (h : BfAt B b l w) (hB : B ≤ w.heap.size) :
    Calls Tryz.prog 20 #[.pointer (some ⟨b, 0, none⟩)] w fun e w' => e = .returned (.string (bB l)) ∧ Below B w w' := by
  refine (Any.Builder_String_any_k Tryz.lays169 Tryz.Builder_Extra_169 B b l w h hB).mono ?_
  rintro e w' ⟨rfl, _, hb, _⟩
  exact ⟨rfl, hb⟩
theorem vld_kinds {h : Hk} (hv : Hu.vld h = true) : ∀ r ∈ h.rows, r.k = 1 ∨ r.k = 2 ∨ r.k = 3 := by
  obtain ⟨_, _, _, _, _, _, _, _, _, _, _, _, _, _, hkk, _⟩ := Un.vld_parts hv
  exact fun r hr => (hkk r hr).1
theorem hunks_take {l : List Hk} {k : Nat} {h : Hk} (hx : l[k]? = some h) : (l.take (k + 1)).flatMap Un.hunkT = (l.take k).flatMap Un.hunkT ++ Un.hunkT h := by
  rw [List.take_add_one, hx, List.flatMap_append]
  simp
theorem take_hunk {l : List Hk} {k : Nat} {h : Hk} (hx : l[k]? = some h) : ((l.take k).flatMap Un.hunkT).length + (Un.hunkT h).length ≤ (l.flatMap Un.hunkT).length := by
  rw [← List.length_append, ← hunks_take hx]
  conv => rhs; rw [← List.take_append_drop (k + 1) l]
  rw [List.flatMap_append, List.length_append]
  omega
set_option maxHeartbeats 4000000 in
set_option maxRecDepth 100000 in
theorem fprint_any {w : World} {v : Value} {hs : List Hk} (p1 s1 p2 s2 : ByteArray) (hr : RdH w v hs) (hp : PowV w) (hall : hs.all Hu.vld = true) (hz : ∀ h ∈ hs, SzH h) (hn : hs.length ≤ 5000000) (hp1 : p1.size ≤ 1099511627776) (hp2 : p2.size ≤ 1099511627776) (hs1 : s1.size ≤ 1099511627776) (hs2 : s2.size ≤ 1099511627776) (hl : (hs.flatMap Un.hunkT).length ≤ 100000000000000) :
    Calls Tryz.prog 15 #[.agg #[.string ⟨#[45, 45, 45, 32]⟩, .string ⟨#[43, 43, 43, 32]⟩, .func (.func 19) #[] #[], .func (.func 29) #[] #[], .func (.func 30) #[] #[]], .agg #[.string p1, .string s1], .agg #[.string p2, .string s2], v] w fun e w' => e = .returned (.string (bB (Un.printT (p1.data.toList, s1.data.toList) (p2.data.toList, s2.data.toList) hs))) ∧ Below w.heap.size w w' := by
  obtain ⟨va, vc, rfl⟩ := hr.shape
  obtain ⟨hb3, k0, k1, k2⟩ := threeF w (.cells #[.string ⟨#[45, 45, 45, 32]⟩, .string ⟨#[43, 43, 43, 32]⟩, .func (.func 19) #[] #[], .func (.func 29) #[] #[], .func (.func 30) #[] #[]] 48) (.cells #[.string p1, .string s1] 23) (.cells #[.string p2, .string s2] 23)
  obtain ⟨N, hN⟩ : ∃ N, N = hs.length := ⟨_, rfl⟩
  have HNN := hid hN
  have HRD : Hid (∀ w1, Below w.heap.size w w1 → RdH w1 (.slice va N vc) hs) := hid (fun w1 hb => by rw [hN]; exact hr.below hb)
  have HPW := hid (fun w1 (h1 : Below w.heap.size w w1) => hp.below h1 (Nat.succ_le_of_lt hp.lt))
  have hw3 : 3 ≤ w.heap.size := Nat.succ_le_of_lt hp.lt
  have HVL : Hid (∀ h ∈ hs, Hu.vld h = true) := hid (fun h hh => List.all_eq_true.1 hall h hh)
  have HZ := hid hz
  obtain ⟨A, hA⟩ : ∃ A, A = w.heap.size := ⟨_, rfl⟩
  have HAW := hid hA
  rw [← hN] at hn ⊢
  clear hr hp hall hz hN
  have hb4 := (Below.refl _ (((w.alloc (.cells #[.string ⟨#[45, 45, 45, 32]⟩, .string ⟨#[43, 43, 43, 32]⟩, .func (.func 19) #[] #[], .func (.func 29) #[] #[], .func (.func 30) #[] #[]] 48)).alloc (.cells #[.string p1, .string s1] 23)).alloc (.cells #[.string p2, .string s2] 23))).alloc (Nat.le_refl _) (.cells #[.pointer none, .slice none 0 0] 60)
  have HFB := hid (Lib.IsBuilderF.of (Cx.fresh_builder (((w.alloc (.cells #[.string ⟨#[45, 45, 45, 32]⟩, .string ⟨#[43, 43, 43, 32]⟩, .func (.func 19) #[] #[], .func (.func 29) #[] #[], .func (.func 30) #[] #[]] 48)).alloc (.cells #[.string p1, .string s1] 23)).alloc (.cells #[.string p2, .string s2] 23))))
  have hs3 : (((w.alloc (.cells #[.string ⟨#[45, 45, 45, 32]⟩, .string ⟨#[43, 43, 43, 32]⟩, .func (.func 19) #[] #[], .func (.func 29) #[] #[], .func (.func 30) #[] #[]] 48)).alloc (.cells #[.string p1, .string s1] 23)).alloc (.cells #[.string p2, .string s2] 23)).heap.size = w.heap.size + 1 + 1 + 1 := by simp
  have HB4 := hid (hb3.trans (hb4.mono (by rw [hs3]; omega)))
  have K0 := hid ((hb4.block _ (lt_of_heap k0)).trans k0)
  have K1 := hid ((hb4.block _ (lt_of_heap k1)).trans k1)
  have K2 := hid ((hb4.block _ (lt_of_heap k2)).trans k2)
  have HZ4 : Hid (w.heap.size + 1 + 1 + 1 ≤ ((((w.alloc (.cells #[.string ⟨#[45, 45, 45, 32]⟩, .string ⟨#[43, 43, 43, 32]⟩, .func (.func 19) #[] #[], .func (.func 29) #[] #[], .func (.func 30) #[] #[]] 48)).alloc (.cells #[.string p1, .string s1] 23)).alloc (.cells #[.string p2, .string s2] 23)).alloc (.cells #[.pointer none, .slice none 0 0] 60)).heap.size) := hid (by rw [← hs3]; exact hb4.size)
  rw [hs3] at HFB
  rw [← hA] at K0 K1 K2 HZ4 HFB
  clear hb3 hb4 k0 k1 k2 hs3
  go_enter Tryz.func15, Tryz.ntmps15
  go_wp2_with fail
  rw [← hA]
  generalize (((w.alloc (.cells #[.string ⟨#[45, 45, 45, 32]⟩, .string ⟨#[43, 43, 43, 32]⟩, .func (.func 19) #[] #[], .func (.func 29) #[] #[], .func (.func 30) #[] #[]] 48)).alloc (.cells #[.string p1, .string s1] 23)).alloc (.cells #[.string p2, .string s2] 23)).alloc (.cells #[.pointer none, .slice none 0 0] 60) = w4 at HFB HB4 K0 K1 K2 HZ4 ⊢
  have H4 : Hid (BfAt (A + 1 + 1 + 1) (A + 1 + 1 + 1) [] w4) := hid HFB.out
  clear HFB hA
  obtain ⟨N1, hN1⟩ : ∃ N1, N1 = Un.nameT Un.mkOld (p1.data.toList, s1.data.toList) ++ [10] := ⟨_, rfl⟩
  obtain ⟨N2, hN2⟩ : ∃ N2, N2 = Un.nameT Un.mkNew (p2.data.toList, s2.data.toList) ++ [10] := ⟨_, rfl⟩
  have hl1 : N1.length ≤ 4 * p1.size + s1.size + 10 := by
    rw [hN1]
    have := Pq.quote_len p1.data.toList
    rw [dsize] at this
    unfold Un.nameT Un.mkOld
    have h9 := dsize s1
    simp only [List.length_append, List.length_cons, List.length_nil]
    split
    · simp; omega
    · simp; omega
  have hl2 : N2.length ≤ 4 * p2.size + s2.size + 10 := by
    rw [hN2]
    have := Pq.quote_len p2.data.toList
    rw [dsize] at this
    unfold Un.nameT Un.mkNew
    have h9 := dsize s2
    simp only [List.length_append, List.length_cons, List.length_nil]
    split
    · simp; omega
    · simp; omega
  have HPT : Hid (Un.printT (p1.data.toList, s1.data.toList) (p2.data.toList, s2.data.toList) hs = N1 ++ N2 ++ hs.flatMap Un.hunkT) := hid (by
    rw [hN1, hN2]
    unfold Un.printT
    simp)
  have HW1 := hid (fun (l1 : Un.Bs) w1 (h1 : BfAt (A + 1 + 1 + 1) (A + 1 + 1 + 1) l1 w1) (h2 : A + 1 + 1 + 1 ≤ w1.heap.size) h3 => writeHeader_any ⟨#[45, 45, 45, 32]⟩ p1 s1 h1 h2 h3 (by omega))
  have HW2 := hid (fun (l1 : Un.Bs) w1 (h1 : BfAt (A + 1 + 1 + 1) (A + 1 + 1 + 1) l1 w1) (h2 : A + 1 + 1 + 1 ≤ w1.heap.size) h3 => writeHeader_any ⟨#[43, 43, 43, 32]⟩ p2 s2 h1 h2 h3 (by omega))
  rw [show (ByteArray.mk #[45, 45, 45, 32]).data.toList = Un.mkOld from rfl, ← hN1] at HW1
  rw [show (ByteArray.mk #[43, 43, 43, 32]).data.toList = Un.mkNew from rfl, ← hN2] at HW2
  clear hN1 hN2
  refine (HW1.out [] w4 H4.out HZ4.out (by show 0 + 4 + _ + _ + _ ≤ _; omega)).mono ?_
  rintro e w5 ⟨rfl, hb5, hf5⟩
  rw [List.nil_append] at hb5
  have H5 := hid hb5
  have F5 : Hid (Below (A + 1 + 1 + 1) w4 w5) := hid hf5.below
  have J0 := hid ((hf5.below.block A (by omega)).trans K0.out)
  have J2 := hid ((hf5.below.block (A + 2) (by omega)).trans K2.out)
  have f1 : w5.cell? ⟨A, 1, none⟩ = some (.string ⟨#[43, 43, 43, 32]⟩) := cell_of_blk J0.out 1
  have g0 : w5.cell? ⟨A + 1 + 1, 0, none⟩ = some (.string p2) := cell_of_blk J2.out 0
  have g1 : w5.cell? ⟨A + 1 + 1, 1, none⟩ = some (.string s2) := cell_of_blk J2.out 1
  clear hb5 hf5 H4 HW1
  go_wp2_with fail
  refine (HW2.out _ w5 H5.out (Nat.le_trans HZ4.out F5.out.size) (by show _ + 4 + _ + _ + _ ≤ _; omega)).mono ?_
  rintro e w6 ⟨rfl, hb6, hf6⟩
  have H6 := hid hb6
  have F6 : Hid (Below (A + 1 + 1 + 1) w4 w6) := hid (F5.out.trans hf6.below)
  clear hb6 hf6 H5 F5 J0 J2 f1 g0 g1 HW2
  obtain ⟨P, hP⟩ : ∃ P, P = N1 ++ N2 := ⟨_, rfl⟩
  have hPl : P.length = N1.length + N2.length := by rw [hP, List.length_append]
  rw [← hP] at H6 HPT
  clear hP
  go_wp2_with fail
  go_loopw [22] (fun ii wr => ∃ k : Nat, k ≤ N ∧ ii = .int .i64 k ∧ Hid (BfAt (A + 1 + 1 + 1) (A + 1 + 1 + 1) (P ++ (hs.take k).flatMap Un.hunkT) wr) ∧ Hid (Below (A + 1 + 1 + 1) w4 wr)) (fun ii _ => N - (intOf ii).toNat)
  case atStart => exact ⟨0, Nat.zero_le _, rfl, hid (by simpa using H6.out), F6⟩
  case round =>
    obtain ⟨k, hk, rfl, HI, HF⟩ := hrel
    clear H6 F6
    have HBW : Hid (Below w.heap.size w wr) := hid (HB4.out.trans (HF.out.mono (by have := HAW.out; omega)))
    by_cases hlt : k < N
    · obtain ⟨x, hx⟩ : ∃ x, hs[k]? = some x := ⟨_, List.getElem?_eq_getElem (by have := HNN.out; omega)⟩
      obtain ⟨b, o, u, rfl, hb, d0, d1, d2, d3, d4, d5, hu⟩ := rdH_at (HRD.out w (Below.refl _ _)) hx
      obtain ⟨qa, qc, rfl⟩ := hu.shape
      have hmem := List.mem_of_getElem? hx
      have hv := HVL.out x hmem
      have hkk := vld_kinds hv
      have hth := take_hunk hx
      have HX := hid (hunks_take hx)
      have HWK := hid (fun (l1 : Un.Bs) w1 (h1 : BfAt (A + 1 + 1 + 1) (A + 1 + 1 + 1) l1 w1) (h2 : A + 1 + 1 + 1 ≤ w1.heap.size) (h3 : PowV w1) (h4 : ∀ w', Below (A + 1 + 1 + 1) w1 w' → RdW w' (.slice qa x.rows.length qc) x.rows) h5 => writeHunk_any (h := x) h1 h2 (by omega) h3 h4 (vld_sm hv) hkk (Nat.le_of_lt (HZ.out x hmem).1) h5)
      have HUW : Hid (∀ w', Below w.heap.size w w' → RdW w' (.slice qa x.rows.length qc) x.rows) := hid (fun w' hb' => hu.below hb')
      unfold HkV at HWK
      obtain ⟨xa, xn, xb, xm, xh, xr⟩ := x
      dsimp only at d0 d1 d2 d3 d4 d5 HWK HUW
      have c0 := (HBW.out.cell (p := ⟨b, o + k * 6, none⟩) hb).trans d0
      have c1 := (HBW.out.cell (p := ⟨b, o + k * 6 + 1, none⟩) hb).trans d1
      have c2 := (HBW.out.cell (p := ⟨b, o + k * 6 + 2, none⟩) hb).trans d2
      have c3 := (HBW.out.cell (p := ⟨b, o + k * 6 + 3, none⟩) hb).trans d3
      have c4 := (HBW.out.cell (p := ⟨b, o + k * 6 + 4, none⟩) hb).trans d4
      have c5 := (HBW.out.cell (p := ⟨b, o + k * 6 + 5, none⟩) hb).trans d5
      have i1 : (0 : Int) ≤ (k : Int) := by omega
      have i2 : (k : Int) < (N : Int) := by omega
      have i3 : IntKind.i64.wrap ((k : Int) + 1) = (k : Int) + 1 := wrapOk (by omega) (by omega)
      have hbN := (Below.refl wr.heap.size wr).alloc (Nat.le_refl _) (.cells #[.int .i64 xa, .int .i64 xn, .int .i64 xb, .int .i64 xm, .string xh, .slice qa xr.length qc] 37)
      have HI1 := hid (HI.out.below hbN)
      have HZr : Hid (A + 1 + 1 + 1 ≤ wr.heap.size) := hid (Nat.le_trans HZ4.out HF.out.size)
      have HF1 := hid (HF.out.trans (hbN.mono HZr.out))
      have HZ1 : Hid (A + 1 + 1 + 1 ≤ (wr.alloc (.cells #[.int .i64 xa, .int .i64 xn, .int .i64 xb, .int .i64 xm, .string xh, .slice qa xr.length qc] 37)).heap.size) := hid (Nat.le_trans HZr.out hbN.size)
      have HBW1 := hid (HBW.out.trans (hbN.mono HBW.out.size))
      have f2 : (wr.alloc (.cells #[.int .i64 xa, .int .i64 xn, .int .i64 xb, .int .i64 xm, .string xh, .slice qa xr.length qc] 37)).cell? ⟨A, 2, none⟩ = some (.func (.func 19) #[] #[]) := cell_of_blk ((HF1.out.block A (by omega)).trans K0.out) 2
      clear hb hx hu hv hkk hmem d0 d1 d2 d3 d4 d5 hbN HI HF
      go_wp2_with fail
      generalize wr.alloc (.cells #[.int .i64 xa, .int .i64 xn, .int .i64 xb, .int .i64 xm, .string xh, .slice qa xr.length qc] 37) = w7 at HI1 HF1 HZ1 HBW1 f2 ⊢
      refine (HWK.out _ w7 HI1.out HZ1.out (HPW.out w7 HBW1.out) (fun w' hb' => HUW.out w' (HBW1.out.trans (hb'.mono (by have := HAW.out; omega)))) (by rw [List.length_append]; omega)).mono ?_
      rintro e w8 ⟨rfl, hb8, hf8⟩
      have HI8 := hid hb8
      have HF8 := hid (HF1.out.trans hf8.below)
      clear hb8 hf8 HI1 HF1 f2
      go_wp2_with fail
      go_roundw
      case rel => exact ⟨k + 1, by omega, by go_num, hid (by rw [HX.out, ← List.append_assoc]; exact HI8.out), HF8⟩
      case measure => simp [intOf]; omega
    · obtain rfl : k = N := by omega
      have HE : Hid (hs.take k = hs) := hid (List.take_of_length_le (Nat.le_of_eq HNN.out.symm))
      rw [HE.out] at HI
      go_wp2_with fail
      refine (str_any HI.out (Nat.le_trans HZ4.out HF.out.size)).mono ?_
      rintro e w8 ⟨rfl, hb8⟩
      have HB8 := hid (HBW.out.trans (hb8.mono (by have := HAW.out; omega)))
      clear hb8
      go_wp2_with fail
      go_ret
      exact ⟨by rw [HPT.out]; rfl, HB8.out⟩
end Go.Proofs.YtkolgglllladfaaGreatDoor
