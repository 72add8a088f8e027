/-
  UnifiedParses, for every text: the names and the hunks that Parse reads, what is left, or the error and its line, are the document's own answer. (The card: the row lists six package-level variables, of which the proof uses errors.errorType, strconv.ErrSyntax, strconv.ErrRange and the table of powers of ten.) (Made by wip/genluparses.py.)
-/
import Derived.Test.YtobocdbehjcpjaaGreatDoorGrVe
import Derived.Test.YtobocdbehjcpjaaGreatDoorHz
namespace Go.Proofs.YtobocdbehjcpjaaGreatDoor.unifiedParses
open Go.ChangeShapes Go.WideShapes Go.ChangeAt Go.RowKit
open Go.ChangeMaps (open_string shut_string)
open Hu (Rw Hk)

set_option maxHeartbeats 8000000 in
set_option maxRecDepth 100000 in
theorem walk (s : ByteArray) (w : World) (hs : s.size ≤ 140737488351232) (hr : RdyU w) :
    Calls Tryz.prog 4 #[.string s] w fun e w' => e = .returned (.bool true) ∧ Below w.heap.size w w' := by
  have HR := hid hr
  have HSU := hid (fun w1 (h1 : Below w.heap.size w w1) => sure_any w1 (hr.below h1))
  have HNV := hid (fun w1 (h1 : Below w.heap.size w w1) => (hr.below h1).err)
  obtain ⟨o1, o2, q1, q2, rest, l, c, er, ev, hB⟩ := both_any s (by unfold maxLen; omega)
  have HPA := hid (hB.prog w hr.lib)
  have HRF := hid hB.ref
  have HNM := hid hB.num
  have hlen := hB.short
  have HZ := hid hB.sz
  have y1 : (o1 == o1) = true := ba_sameU _
  have y2 : (o2 == o2) = true := ba_sameU _
  have y3 : (q1 == q1) = true := ba_sameU _
  have y4 : (q2 == q2) = true := ba_sameU _
  have y5 : (rest == rest) = true := ba_sameU _
  have y6 : ((c : Int) == (c : Int)) = true := zeq rfl
  have y7 : ((er : Int) == (er : Int)) = true := zeq rfl
  obtain ⟨NL, hNL⟩ : ∃ NL, NL = l.length := ⟨_, rfl⟩
  have HNL := hid hNL
  rw [← hNL] at HPA HRF hlen
  clear hr hB hs hNL
  go_enter Tryz.func4, Tryz.ntmps4
  go_wp2_with fail
  refine HPA.out.mono ?_
  rintro e w1 ⟨hb1, va, vc, rfl, hO⟩
  have HBw1 := hid hb1
  have HO1 : Hid (RdH w1 (.slice va NL vc) l) := hid hO.rd
  clear hb1 hO HPA
  obtain ⟨hbN, n1, n2⟩ := twoF w1 (.cells #[.string ⟨#[]⟩, .string ⟨#[]⟩] 23) (.cells #[.string ⟨#[]⟩, .string ⟨#[]⟩] 23)
  have HBNw3 := hid hbN
  have P1w3 := hid n1
  have P2w3 := hid n2
  obtain ⟨C, hC⟩ : ∃ C, C = w1.heap.size := ⟨_, rfl⟩
  rw [← hC] at P1w3 P2w3
  have HCW := hid hC
  clear hbN n1 n2
  go_wp2_with (first | (guard_target =~ wpList _ _ _ (_ :: _) _ _; rw [← hC]; refine wpList_stA 23 #[.string o1, .string o2] rfl rfl P1w3.out Tryz.sizeName rfl rfl rfl rfl ?_; intro w2 hk1 hkp1; have Q1w3 := hid hk1; have HPw2 := hid hkp1; have Q2w3 := hid ((hkp1.block (C + 1) (lt_of_heap P2w3.out) (by omega)).trans P2w3.out); clear hk1 hkp1 hC) | (guard_target =~ wpList _ _ _ (_ :: _) _ _; refine wpList_stA 23 #[.string q1, .string q2] rfl rfl Q2w3.out Tryz.sizeName rfl rfl rfl rfl ?_; intro w3 hk2 hkp2; have R2w3 := hid hk2; have R1w3 := hid ((hkp2.block C (lt_of_heap Q1w3.out) (by omega)).trans Q1w3.out); have HKw3 : Hid (Below C w1 w3) := hid (Kept.onto (Kept.onto (HCW.out ▸ HBNw3.out) HPw2.out (Nat.le_refl _) (Nat.le_of_eq HCW.out)) hkp2 (Nat.le_succ _) (Nat.le_of_eq HCW.out)); have HBw3 := hid (HBw1.out.trans (HKw3.out.mono (by rw [HCW.out]; exact HBw1.out.size))); have HO3 : Hid (RdH w3 (.slice va NL vc) l) := hid (HO1.out.below (HCW.out ▸ HKw3.out)); clear hk2 hkp2))
  refine (HRF.out w3).mono ?_
  rintro e w5 ⟨hb5, vb, vd, rfl, hX⟩
  have HBw5 := hid (HBw3.out.trans (hb5.mono HBw3.out.size))
  have HO5 := hid (HO3.out.below hb5)
  have HX5 := hid hX
  have HM1 := hid ((hb5.block C (lt_of_heap R1w3.out)).trans R1w3.out)
  have HM2 := hid ((hb5.block (C + 1) (lt_of_heap R2w3.out)).trans R2w3.out)
  clear hb5 hX HRF
  obtain ⟨hbN, n1, n2⟩ := twoF w5 (.cells #[.string ⟨#[]⟩, .string ⟨#[]⟩] 23) (.cells #[.string ⟨#[]⟩, .string ⟨#[]⟩] 23)
  have HBNw7 := hid hbN
  have P1w7 := hid n1
  have P2w7 := hid n2
  obtain ⟨D, hD⟩ : ∃ D, D = w5.heap.size := ⟨_, rfl⟩
  rw [← hD] at P1w7 P2w7
  have HDW := hid hD
  clear hbN n1 n2
  have HMF : Hid (∀ w', Below D w5 w' → w'.cell? ⟨C, 0, none⟩ = some (.string o1) ∧ w'.cell? ⟨C, 1, none⟩ = some (.string o2) ∧ w'.cell? ⟨C + 1, 0, none⟩ = some (.string q1) ∧ w'.cell? ⟨C + 1, 1, none⟩ = some (.string q2)) := hid (fun w' hb' => by
    have h8 := lt_of_heap HM2.out
    have h9 := HDW.out
    have k1 := (hb'.block C (by omega)).trans HM1.out
    have k2 := (hb'.block (C + 1) (by omega)).trans HM2.out
    exact ⟨cell_of_blk k1 0, cell_of_blk k1 1, cell_of_blk k2 0, cell_of_blk k2 1⟩)
  go_wp2_with (first | (guard_target =~ wpList _ _ _ (_ :: _) _ _; rw [← hD]; refine wpList_stA 23 #[.string o1, .string o2] rfl rfl P1w7.out Tryz.sizeName rfl rfl rfl rfl ?_; intro w6 hk1 hkp1; have Q1w7 := hid hk1; have HPw6 := hid hkp1; have Q2w7 := hid ((hkp1.block (D + 1) (lt_of_heap P2w7.out) (by omega)).trans P2w7.out); clear hk1 hkp1 hD) | (guard_target =~ wpList _ _ _ (_ :: _) _ _; refine wpList_stA 23 #[.string q1, .string q2] rfl rfl Q2w7.out Tryz.sizeName rfl rfl rfl rfl ?_; intro w7 hk2 hkp2; have R2w7 := hid hk2; have R1w7 := hid ((hkp2.block D (lt_of_heap Q1w7.out) (by omega)).trans Q1w7.out); have HKw7 : Hid (Below D w5 w7) := hid (Kept.onto (Kept.onto (HDW.out ▸ HBNw7.out) HPw6.out (Nat.le_refl _) (Nat.le_of_eq HDW.out)) hkp2 (Nat.le_succ _) (Nat.le_of_eq HDW.out)); have HBw7 := hid (HBw5.out.trans (HKw7.out.mono (by rw [HDW.out]; exact HBw5.out.size))); have HO7 : Hid (RdH w7 (.slice va NL vc) l) := hid (HO5.out.below (HDW.out ▸ HKw7.out)); have HX7 : Hid (RdH w7 (.slice vb NL vd) l) := hid (HX5.out.below (HDW.out ▸ HKw7.out)); obtain ⟨m0, m1, m2, m3⟩ := HMF.out w7 HKw7.out; have g0 : w7.cell? ⟨D, 0, none⟩ = some (.string o1) := cell_of_blk R1w7.out 0; have g1 : w7.cell? ⟨D, 1, none⟩ = some (.string o2) := cell_of_blk R1w7.out 1; have g2 : w7.cell? ⟨D + 1, 0, none⟩ = some (.string q1) := cell_of_blk R2w7.out 0; have g3 : w7.cell? ⟨D + 1, 1, none⟩ = some (.string q2) := cell_of_blk R2w7.out 1; clear hk2 hkp2))
  refine (sameHunks_yes HO7.out HX7.out (by rw [← HNL.out]; exact hlen) (fun h hh => (HZ.out h hh).rowsLe)).mono ?_
  rintro e w8 ⟨rfl, hb8⟩
  have HB8 := hid (HBw7.out.trans (hb8.mono HBw7.out.size))
  clear hb8
  go_wp2_with fail
  refine (HNM.out w8 (HNV.out w8 HB8.out)).mono ?_
  rintro e w9 ⟨rfl, hb9⟩
  have HB9 := hid (HB8.out.trans (hb9.mono HB8.out.size))
  clear hb9
  go_wp2_with fail
  refine (HSU.out w9 HB9.out).mono ?_
  rintro e w10 ⟨rfl, hb10⟩
  have HB10 := hid (HB9.out.trans (hb10.mono HB9.out.size))
  clear hb10
  go_wp2_with fail
  go_ret
  exact ⟨rfl, HB10.out⟩
theorem own : ownKnob Tryz.prog.godebug = none := by kernel_rfl

set_option maxRecDepth 100000 in
theorem contract (H : Type) (enc : TypeId × Value → H) (W : World) (base : Nat) (args : Array Value) (ds gs : List (DataW H)) (before : List MemPlace)
    (hval : ∀ (j : Nat) t v, Tryz.f4.params[j]? = some t → args[j]? = some v → Value.okWide Tryz.prog W .any base t v)
    (hW : DataW.Whole enc Tryz.prog Tryz.f4.params.toList Rows.unifiedParsesSpec.vars false W args.toList ds gs before)
    (hsz : (DataW.weightsEach Tryz.prog (Tryz.f4.params.toList ++ Rows.unifiedParsesSpec.plain.varTypes Tryz.prog) (ds ++ gs)).all (· ≤ reachBytes) = true)
    (hL : laidMetH Tryz.prog Rows.unifiedParsesRow.laid W)
    (hSh : W.ShapedOpen Tryz.prog)
    : Calls Tryz.prog 4 args W fun e W' => ∃ v, e = .returned v ∧ Rows.unifiedParsesSpec.post enc Tryz.prog Tryz.f4 false true false false W args v W' := by
  have hW' := hW
  obtain ⟨p, q, hA0, hV, rfl, hfz, hnd⟩ := hW
  have hA : DataW.TrodAll enc Tryz.prog W 0 (fun _ => true) true Tryz.f4.params.toList args.toList ds p := hA0
  rw [Tryz.params4] at hA hval hsz
  obtain ⟨v0, vs0, d0, ds0, p0, q0, hargs0, rfl, rfl, h0, r0⟩ := trodAll_cons hA
  obtain ⟨rfl, rfl, rfl⟩ := trodAll_nil r0
  obtain rfl : args = #[v0] := by cases args; simp_all
  obtain ⟨rfl, rfl⟩ := trodVars_none hV
  obtain ⟨x0, rfl, rfl, rfl, hmax0⟩ := open_string Tryz.underlying9 (hval 0 9 v0 rfl rfl) h0
  have hlen0 : x0.size ≤ 140737488351232 := by
    have := sized_string hsz (j := 0) (t := 9) rfl rfl
    rwa [size_data] at this
  clear hA0 hsz
  simp only [List.append_nil] at hW'
  refine (walk x0 W hlen0 (ready_of hL hSh)).mono fun e W' ⟨he, hb⟩ => ?_
  subst he
  exact ⟨_, rfl, _, _, _, [], [], [], hW', trodAll_cons_mk (shut_bool Tryz.underlying4 _) trodAll_mk0, trodAll_cons_mk (shut_string Tryz.underlying9 hmax0) trodAll_mk0, rfl, hb.frame _, fun h => by cases h⟩

set_option maxRecDepth 100000 in
theorem lifted (os : Os) (started : os.Started) (H : Type) (enc : TypeId × Value → H) (F : Stop.Interp) :
    ReturnsInHanded {} Tryz.checked os 4 .any ((OpenSpec.ofChange Rows.unifiedParsesSpec).preRow enc Tryz.prog Tryz.f4 Rows.unifiedParsesRow.domain false Rows.unifiedParsesRow.laid) (((OpenSpec.ofChange Rows.unifiedParsesSpec).at F).post enc Tryz.prog Tryz.f4 false true false false) := by
  refine returnsInHanded_of_row (C := Tryz.checked) (s := OpenSpec.ofChange Rows.unifiedParsesSpec) own started (by kernel_rfl) Tryz.func4
    (witness_row_at (enc := enc) (C := Tryz.checked) false
      (laidWorld os)
      #[.string .empty] rfl (by kernel_rfl) (by kernel_rfl) (by kernel_rfl)
      (OpenSpec.preRow_of_cond 8 (x := ([.lit (.string [])], [], [])) (by kernel_rfl) (by kernel_rfl) (fun k hk => by cases hk) (by kernel_rfl) (laidWorld_met os _))) ?_
  intro W base args ds gs before hval hW _ hcond hsz hL hSh _
  exact contract H enc W base args ds gs before hval hW hsz hL hSh

theorem said : Rows.UnifiedParsesSaid :=
  OpenClaim.holds_of_cond 4 Tryz.f4 rfl rfl rfl rfl rfl rfl rfl ⟨rfl, rfl, rfl, rfl, rfl⟩ rfl rfl rfl rfl rfl (by kernel_rfl) Tryz.func4 (by kernel_rfl)
    (of_decide_eq_true (by kernel_rfl)) (by unfold Func.isWrapper; first | (rw [if_pos (by decide +kernel)]; kernel_rfl) | (rw [if_neg (by decide +kernel)]; exact ⟨rfl, rfl⟩))
    (fun os started H enc _ F => by rw [OpenClaim.pre_eq_preRow]; exact lifted os started H enc F)

theorem plain (f : FuncId) (fn : Func) (hf : Tryz.pinned.checked.prog.funcNamed Rows.unifiedParsesRow.func = some f) (hfn : Tryz.pinned.checked.prog.funcs[f]? = some fn) :
    true = Tryz.pinned.checked.prog.looks [] ∧ ∀ (j : Nat) t, fn.params[j]? = some t → Tryz.pinned.checked.prog.wantsStandIn t = false := by
  obtain rfl : f = 4 := Option.some.inj ((show Tryz.prog.funcNamed Rows.unifiedParsesRow.func = some 4 by kernel_rfl).symm.trans hf) |>.symm
  obtain rfl : fn = Tryz.f4 := (Option.some.inj (Tryz.func4.symm.trans hfn)).symm
  refine ⟨by kernel_rfl, fun j t ht => ?_⟩
  rw [Tryz.params4] at ht
  have hm : t = 9 := by simpa using Array.mem_of_getElem? ht
  rcases hm with rfl
  · exact (show Tryz.prog.wantsStandIn 9 = false by kernel_rfl)

theorem card : Rows.UnifiedParsesCardSaid :=
  Claim7.holds_tied_plain_at .later [] _ _ _ _ said (fun _ h => by cases h) (by kernel_rfl) (fun _ h => by cases h) unifiedParses_row_tie rfl ⟨rfl, rfl⟩ (by kernel_rfl) rfl plain (by kernel_rfl)
end Go.Proofs.YtobocdbehjcpjaaGreatDoor.unifiedParses
