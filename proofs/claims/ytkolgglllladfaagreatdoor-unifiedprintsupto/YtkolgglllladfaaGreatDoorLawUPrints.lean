/-
  UnifiedPrints, up to the bulk, for every two names and every list of hunks: the program tells the document's text, or the document's error, of all of them and of each of the first twenty; the hunks are as they were. (The card: the row lists six package-level variables, of which the proof uses errors.errorType, internal/strconv.uint64pow10, strconv.ErrSyntax and strconv.ErrRange.)
-/
import Derived.Test.YtkolgglllladfaaGreatDoorGrQz
import Derived.Test.YtkolgglllladfaaGreatDoorGrUz
import Derived.Test.YtkolgglllladfaaGreatDoorHz
namespace Go.Proofs.YtkolgglllladfaaGreatDoor.unifiedPrints
open Go.ChangeShapes Go.WideShapes Go.ChangeAt Go.RowKit
open Go.ChangeMaps (open_string shut_string)
open Hu (Rw Hk)

theorem argH_below {w w' : World} {v : Value} {l : List Hk} (h : Ub.ArgH w v l.length) (hr : RdH w v l) (hb : Below w.heap.size w w') : Ub.ArgH w' v l.length := by
  intro b o m c hv k hk u hu
  subst hv
  obtain ⟨x, hx⟩ : ∃ x, l[k]? = some x := ⟨_, List.getElem?_eq_getElem hk⟩
  obtain ⟨b1, o1, u1, e1, hb1, _, _, _, _, _, d5, _⟩ := rdH_at hr hx
  cases e1
  rw [(hb.cell (p := ⟨b, _, none⟩) hb1)] at hu
  exact h b o m c rfl k hk u hu
set_option maxHeartbeats 16000000 in
set_option maxRecDepth 100000 in
theorem walk (p1 s1 p2 s2 : ByteArray) (v : Value) (l : List Hk) (w : World) (hn1 : p1.size + s1.size ≤ 1048576) (hn2 : p2.size + s2.size ≤ 1048576) (hr : RdH w v l) (hw : ∀ c ∈ l, Ub.WfH c ∧ (∀ r ∈ c.rows, r.t.size ≤ maxLen) ∧ c.head.size ≤ maxLen) (hkl : Ub.hkW l ≤ 1048576) (hAH : Ub.ArgH w v l.length) (_hsh : Ub.ArgS v) (hy : RdyU w) :
    Calls Tryz.prog 3 #[.agg #[.string p1, .string s1], .agg #[.string p2, .string s2], v] w fun e w' => e = .returned (.bool true) ∧ Below w.heap.size w w' := by
  have HY := hid (fun w1 (h1 : Below w.heap.size w w1) => hy.below h1)
  have HSU := hid (fun w1 (h1 : Below w.heap.size w w1) => sure_any w1 (hy.below h1))
  have hlsz := Ub.hkW_sz hw hkl
  have hll := Ub.hkW_len l
  have HLZ := hid hlsz
  have HKL := hid hkl
  obtain ⟨va0, vc0, rfl⟩ := hr.shape
  obtain ⟨NL, hNL⟩ : ∃ NL, NL = l.length := ⟨_, rfl⟩
  have HNL := hid hNL
  have HR0 : Hid (RdH w (.slice va0 NL vc0) l) := hid (by rw [hNL]; exact hr)
  have HTW := hid (fun w1 (h1 : Below w.heap.size w w1) => Ub.twin_any (w := w1) (hr.below h1) (argH_below hAH hr h1) (by omega) hlsz)
  have HUP := hid (fun (w1 : World) (v1 : Value) (h1 : Below w.heap.size w w1) (h2 : RdH w1 v1 l) => Ub.uPrint_any p1 s1 p2 s2 h2 (hy.below h1).pow hlsz hkl hn1 hn2)
  have HRP := hid (fun (w1 : World) (h1 : Below w.heap.size w w1) => Ub.rPrint_any p1 s1 p2 s2 (hr.below h1) hlsz hkl hn1 hn2)
  have HSH := hid (fun (w1 : World) (v1 v2 : Value) (h1 : RdH w1 v1 l) (h2 : RdH w1 v2 l) => sameHunks_yes h1 h2 (by omega) (fun h hh => Nat.le_of_lt (hlsz h hh).1))
  rw [← hNL] at HTW HRP hll ⊢
  generalize Ub.prS (p1.data.toList, s1.data.toList) (p2.data.toList, s2.data.toList) l = T at HUP HRP
  generalize fltN (p1.data.toList, s1.data.toList) (p2.data.toList, s2.data.toList) l = f at HUP HRP
  have HNM := hid (fun w1 (h1 : Below w.heap.size w w1) => Ub.num_any f w1 (hy.below h1).err)
  generalize errV f = EV at HUP HNM
  obtain ⟨hb0, k1, k2⟩ := twoF w (.cells #[.string p1, .string s1] 23) (.cells #[.string p2, .string s2] 23)
  have HB0 := hid hb0
  have K1 := hid k1
  have K2 := hid k2
  obtain ⟨A, hA⟩ : ∃ A, A = w.heap.size := ⟨_, rfl⟩
  rw [← hA] at K1 K2
  clear hr hw hlsz hNL hkl hAH hy hb0 k1 k2 hn1 hn2
  go_enter Tryz.func3, Tryz.ntmps3
  go_wp2_with fail
  rw [← hA]
  clear hA
  generalize (w.alloc (.cells #[.string p1, .string s1] 23)).alloc (.cells #[.string p2, .string s2] 23) = w0 at HB0 K1 K2 ⊢
  refine (HTW.out w0 HB0.out).mono ?_
  rintro e w1 ⟨v1, rfl, hO1, hb1⟩
  have HB1 := hid (HB0.out.trans (hb1.mono HB0.out.size))
  have J1 := hid ((hb1.block A (lt_of_heap K1.out)).trans K1.out)
  have J2 := hid ((hb1.block (A + 1) (lt_of_heap K2.out)).trans K2.out)
  have HM1 := hid hO1.rd
  clear hb1 K1 K2 HB0 hO1 HTW
  have c0 : w1.cell? ⟨A, 0, none⟩ = some (.string p1) := cell_of_blk J1.out 0
  have c1 : w1.cell? ⟨A, 1, none⟩ = some (.string s1) := cell_of_blk J1.out 1
  have c2 : w1.cell? ⟨A + 1, 0, none⟩ = some (.string p2) := cell_of_blk J2.out 0
  have c3 : w1.cell? ⟨A + 1, 1, none⟩ = some (.string s2) := cell_of_blk J2.out 1
  go_wp2_with fail
  refine (HUP.out w1 v1 HB1.out HM1.out).mono ?_
  rintro e w2 ⟨rfl, hb2⟩
  have HB2 := hid (HB1.out.trans (hb2.mono HB1.out.size))
  have L1 := hid ((hb2.block A (lt_of_heap J1.out)).trans J1.out)
  have L2 := hid ((hb2.block (A + 1) (lt_of_heap J2.out)).trans J2.out)
  have HM2 := hid (HM1.out.below hb2)
  clear hb2 c0 c1 c2 c3 J1 J2 HB1 HM1 HUP
  have c0 : w2.cell? ⟨A, 0, none⟩ = some (.string p1) := cell_of_blk L1.out 0
  have c1 : w2.cell? ⟨A, 1, none⟩ = some (.string s1) := cell_of_blk L1.out 1
  have c2 : w2.cell? ⟨A + 1, 0, none⟩ = some (.string p2) := cell_of_blk L2.out 0
  have c3 : w2.cell? ⟨A + 1, 1, none⟩ = some (.string s2) := cell_of_blk L2.out 1
  go_wp2_with fail
  refine (HRP.out w2 HB2.out).mono ?_
  rintro e w3 ⟨rfl, hb3⟩
  have HB3 := hid (HB2.out.trans (hb3.mono HB2.out.size))
  have HM3 := hid (HM2.out.below hb3)
  clear hb3 c0 c1 c2 c3 L1 L2 HB2 HM2 HRP
  go_wp2_with fail
  refine (HNM.out w3 HB3.out).mono ?_
  rintro e w4 ⟨rfl, hb4⟩
  have HB4 := hid (HB3.out.trans (hb4.mono HB3.out.size))
  have HM4 := hid (HM3.out.below hb4)
  clear hb4 HB3 HM3 HNM
  go_wp2_with fail
  refine (HSH.out w4 v1 _ HM4.out (HR0.out.below HB4.out)).mono ?_
  rintro e w5 ⟨rfl, hb5⟩
  have HB5 := hid (HB4.out.trans (hb5.mono HB4.out.size))
  clear hb5 HB4 HM4 HSH
  go_wp2_with fail
  go_loopw [12] (fun ii wr => ∃ k : Nat, k ≤ NL ∧ ii = .int .i64 k ∧ Hid (Below w.heap.size w wr)) (fun ii _ => NL - (intOf ii).toNat)
  case atStart => exact ⟨0, Nat.zero_le _, rfl, HB5⟩
  case round =>
    obtain ⟨k, hk, rfl, HB⟩ := hrel
    clear HB5
    by_cases hlt : k < NL
    · by_cases h20 : k < 20
      · obtain ⟨x, hx⟩ : ∃ x, l[k]? = some x := ⟨_, List.getElem?_eq_getElem (by have := HNL.out; omega)⟩
        obtain ⟨b, o, u, rfl, hb, d0, d1, d2, d3, d4, d5, hu⟩ := rdH_at (HR0.out.below HB.out) hx
        have hmem := List.mem_of_getElem? hx
        have HUH := hid (Ub.uHunk_any hu (HLZ.out x hmem) (HY.out wr HB.out).pow (fun hv => Ub.hkW_hunk HKL.out hmem hv))
        have HRH := hid (fun w1 (h1 : Below wr.heap.size wr w1) => Ub.rHunk_any (hu.below h1) (HLZ.out x hmem) (fun r hr => Ub.hkW_text HKL.out hmem r hr) (fun hv => Ub.hkW_hunk HKL.out hmem hv))
        unfold HkV at HUH HRH
        generalize Ub.hkS x = TX at HUH HRH
        generalize vldN x = g at HUH HRH
        have HNX := hid (fun w1 (h1 : Below w.heap.size w w1) => Ub.num_any g w1 (HY.out w1 h1).err)
        generalize errV g = GV at HUH HNX
        obtain ⟨qa, qc, rfl⟩ := hu.shape
        obtain ⟨xa, xn, xb, xm, xh, xr⟩ := x
        dsimp only at d0 d1 d2 d3 d4 d5 HUH HRH
        obtain ⟨XL, hXL⟩ : ∃ XL, XL = xr.length := ⟨_, rfl⟩
        rw [← hXL] at d5 HUH HRH
        have D0 := hid d0
        have D1 := hid d1
        have D2 := hid d2
        have D3 := hid d3
        have D4 := hid d4
        have D5 := hid d5
        have HLB := hid hb
        have i1 : (0 : Int) ≤ (k : Int) := by omega
        have i2 : (k : Int) < (NL : Int) := by omega
        have i3 : (k : Int) < 20 := by omega
        clear hx hb hu hmem hXL
        go_wp2_with fail
        refine HUH.out.mono ?_
        rintro e wa ⟨rfl, hba⟩
        have HBA := hid (HB.out.trans (hba.mono HB.out.size))
        have HBW := hid hba
        clear d0 d1 d2 d3 d4 d5 hba HUH
        have d0 := (HBW.out.cell (p := ⟨b, o + k * 6, none⟩) HLB.out).trans D0.out
        have d1 := (HBW.out.cell (p := ⟨b, o + k * 6 + 1, none⟩) HLB.out).trans D1.out
        have d2 := (HBW.out.cell (p := ⟨b, o + k * 6 + 2, none⟩) HLB.out).trans D2.out
        have d3 := (HBW.out.cell (p := ⟨b, o + k * 6 + 3, none⟩) HLB.out).trans D3.out
        have d4 := (HBW.out.cell (p := ⟨b, o + k * 6 + 4, none⟩) HLB.out).trans D4.out
        have d5 := (HBW.out.cell (p := ⟨b, o + k * 6 + 5, none⟩) HLB.out).trans D5.out
        go_wp2_with fail
        refine (HRH.out wa HBW.out).mono ?_
        rintro e wb ⟨rfl, hbb⟩
        have HBB := hid (HBA.out.trans (hbb.mono HBA.out.size))
        clear d0 d1 d2 d3 d4 d5 hbb HRH HBA HBW
        go_wp2_with fail
        refine (HNX.out wb HBB.out).mono ?_
        rintro e wc ⟨rfl, hbc⟩
        have HBC := hid (HBB.out.trans (hbc.mono HBB.out.size))
        clear hbc HBB HNX
        go_wp2_with fail
        go_roundw
        case rel => exact ⟨k + 1, by omega, by go_num, HBC⟩
        case measure => simp [intOf]; omega
      · have i2 : (k : Int) < (NL : Int) := by omega
        have i3 : ¬ ((k : Int) < 20) := by omega
        go_wp2_with fail
        refine (HSU.out wr HB.out).mono ?_
        rintro e wz ⟨rfl, hbz⟩
        have HBZ := hid (HB.out.trans (hbz.mono HB.out.size))
        clear hbz
        go_wp2_with fail
        go_ret
        exact ⟨rfl, HBZ.out⟩
    · have i2 : ¬ ((k : Int) < (NL : Int)) := by omega
      go_wp2_with fail
      refine (HSU.out wr HB.out).mono ?_
      rintro e wz ⟨rfl, hbz⟩
      have HBZ := hid (HB.out.trans (hbz.mono HB.out.size))
      clear hbz
      go_wp2_with fail
      go_ret
      exact ⟨rfl, HBZ.out⟩
theorem own : ownKnob Tryz.prog.godebug = none := by kernel_rfl

set_option maxRecDepth 100000 in
theorem contract (H : Type) (enc : TypeId × Value → H) (W : World) (base : Nat) (args : Array Value) (ds gs : List (DataW H)) (before : List MemPlace)
    (hval : ∀ (j : Nat) t v, Tryz.f3.params[j]? = some t → args[j]? = some v → Value.okWide Tryz.prog W .any base t v)
    (hW : DataW.Whole enc Tryz.prog Tryz.f3.params.toList Rows.unifiedPrintsSpec.vars false W args.toList ds gs before)
    (hk : Rows.uptoSmall H (ds ++ gs) = true)
    (hL : laidMetH Tryz.prog Rows.unifiedPrintsUptoRow.laid W)
    (hSh : W.ShapedOpen Tryz.prog)
    : Calls Tryz.prog 3 args W fun e W' => ∃ v, e = .returned v ∧ Rows.unifiedPrintsSpec.post enc Tryz.prog Tryz.f3 false true false false W args v W' := by
  have hW' := hW
  obtain ⟨p, q, hA0, hV, rfl, hfz, hnd⟩ := hW
  have hA : DataW.TrodAll enc Tryz.prog W 0 (fun _ => true) true Tryz.f3.params.toList args.toList ds p := hA0
  rw [Tryz.params3] at hA hval
  obtain ⟨v0, vs0, d0, ds0, p0, q0, hargs0, rfl, rfl, h0, r0⟩ := trodAll_cons hA
  obtain ⟨v1, vs1, d1, ds1, p1, q1, hargs1, rfl, rfl, h1, r1⟩ := trodAll_cons r0
  obtain ⟨v2, vs2, d2, ds2, p2, q2, hargs2, rfl, rfl, h2, r2⟩ := trodAll_cons r1
  obtain ⟨rfl, rfl, rfl⟩ := trodAll_nil r2
  obtain rfl : args = #[v0, v1, v2] := by cases args; simp_all
  obtain ⟨rfl, rfl⟩ := trodVars_none hV
  obtain ⟨x0a, x0b, rfl, hb0⟩ := Ub.open_nm h0
  obtain ⟨x1a, x1b, rfl, hb1⟩ := Ub.open_nm h1
  obtain ⟨x2, hr2, hw2, hd2, hAH2, hsh2⟩ := Ub.open_hks (okWide_slice Tryz.underlying24 (hval 2 24 v2 rfl rfl)) h2
  clear hA0
  simp only [List.append_nil] at hW' hk
  have hk' : Rows.uptoBulkAll (H := H) [d0, d1, d2] ≤ 1048576 := of_decide_eq_true hk
  simp only [Rows.uptoBulkAll] at hk'
  have hlt0 : ∀ x ∈ p0, x.block < W.heap.size := fun x hx => by simpa using hW'.lt x (by simp [hx])
  have hlt1 : ∀ x ∈ p1, x.block < W.heap.size := fun x hx => by simpa using hW'.lt x (by simp [hx])
  have hlt2 : ∀ x ∈ p2, x.block < W.heap.size := fun x hx => by simpa using hW'.lt x (by simp [hx])
  refine (walk x0a x0b x1a x1b v2 x2 W (Nat.le_trans hb0 (by omega)) (Nat.le_trans hb1 (by omega)) hr2 hw2 (Nat.le_trans hd2 (by omega)) hAH2 hsh2 (ready_of hL hSh)).mono fun e W' ⟨he, hb⟩ => ?_
  subst he
  exact ⟨_, rfl, _, _, _, [], (p0 ++ (p1 ++ (p2 ++ []))), [], hW', trodAll_cons_mk (shut_bool Tryz.underlying4 _) trodAll_mk0, trodAll_cons_mk (Below.trod laidOut (by kernel_rfl) (of_decide_eq_true (by kernel_rfl)) h0 hb hlt0) (trodAll_cons_mk (Below.trod laidOut (by kernel_rfl) (of_decide_eq_true (by kernel_rfl)) h1 hb hlt1) (trodAll_cons_mk (Below.trod laidOut (by kernel_rfl) (of_decide_eq_true (by kernel_rfl)) h2 hb hlt2) trodAll_mk0)), rfl, hb.frame _, fun h => by cases h⟩

set_option maxRecDepth 100000 in
theorem lifted (os : Os) (started : os.Started) (H : Type) (enc : TypeId × Value → H) (F : Stop.Interp) :
    ReturnsInHanded {} Tryz.checked os 3 .any ((Rows.OpenSpec.upto Rows.unifiedPrintsSpec).preRow enc Tryz.prog Tryz.f3 Rows.unifiedPrintsUptoRow.domain false Rows.unifiedPrintsUptoRow.laid) (((Rows.OpenSpec.upto Rows.unifiedPrintsSpec).at F).post enc Tryz.prog Tryz.f3 false true false false) := by
  refine returnsInHanded_of_row (C := Tryz.checked) (s := Rows.OpenSpec.upto Rows.unifiedPrintsSpec) own started (by kernel_rfl) Tryz.func3
    (witness_row_at (enc := enc) (C := Tryz.checked) false
      (laidWorld os)
      #[.agg #[.string .empty, .string .empty], .agg #[.string .empty, .string .empty], .slice none 0 0] rfl (by kernel_rfl) (by kernel_rfl) (by kernel_rfl)
      (OpenSpec.preRow_of_cond 8 (x := ([.agg [.lit (.string []), .lit (.string [])], .agg [.lit (.string []), .lit (.string [])], .nil], [], [])) (by kernel_rfl) (by kernel_rfl) (fun k hk => by cases hk; kernel_rfl) (by kernel_rfl) (laidWorld_met os _))) ?_
  intro W base args ds gs before hval hW _ hcond hsz hL hSh _
  exact contract H enc W base args ds gs before hval hW (hcond _ rfl) hL hSh

theorem said : Rows.UnifiedPrintsUptoSaid :=
  OpenClaim.holds_of_cond 3 Tryz.f3 rfl rfl rfl rfl rfl rfl rfl ⟨rfl, rfl, rfl, rfl, rfl⟩ rfl rfl rfl rfl rfl (by kernel_rfl) Tryz.func3 (by kernel_rfl)
    (of_decide_eq_true (by kernel_rfl)) (by unfold Func.isWrapper; first | (rw [if_pos (by decide +kernel)]; kernel_rfl) | (rw [if_neg (by decide +kernel)]; exact ⟨rfl, rfl⟩))
    (fun os started H enc _ F => by rw [OpenClaim.pre_eq_preRow]; exact lifted os started H enc F)

theorem plain (f : FuncId) (fn : Func) (hf : Tryz.pinned.checked.prog.funcNamed Rows.unifiedPrintsUptoRow.func = some f) (hfn : Tryz.pinned.checked.prog.funcs[f]? = some fn) :
    true = Tryz.pinned.checked.prog.looks [] ∧ ∀ (j : Nat) t, fn.params[j]? = some t → Tryz.pinned.checked.prog.wantsStandIn t = false := by
  obtain rfl : f = 3 := Option.some.inj ((show Tryz.prog.funcNamed Rows.unifiedPrintsUptoRow.func = some 3 by kernel_rfl).symm.trans hf) |>.symm
  obtain rfl : fn = Tryz.f3 := (Option.some.inj (Tryz.func3.symm.trans hfn)).symm
  refine ⟨by kernel_rfl, fun j t ht => ?_⟩
  rw [Tryz.params3] at ht
  have hm : t = 23 ∨ t = 24 := by simpa using Array.mem_of_getElem? ht
  rcases hm with rfl | rfl
  · exact (show Tryz.prog.wantsStandIn 23 = false by kernel_rfl)
  · exact (show Tryz.prog.wantsStandIn 24 = false by kernel_rfl)

theorem card : Rows.UnifiedPrintsUptoCardSaid :=
  Claim7.holds_tied_plain_at .later [] _ _ _ _ said (fun _ h => by cases h) (by kernel_rfl) (fun _ h => by cases h) unifiedPrintsUpto_row_tie rfl ⟨rfl, rfl⟩ (by kernel_rfl) rfl plain (by kernel_rfl)
end Go.Proofs.YtkolgglllladfaaGreatDoor.unifiedPrints
