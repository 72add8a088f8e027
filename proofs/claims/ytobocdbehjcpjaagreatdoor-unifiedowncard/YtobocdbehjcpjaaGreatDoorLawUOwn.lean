/-
  UnifiedOwn, for every text: hunks that Parse read may be written over and grown by their caller: what a second Parse answers is the document's own answer all the same. (The card: the row lists six package-level variables, of which the proof uses errors.errorType, strconv.ErrSyntax, strconv.ErrRange and the table of powers of ten.) (Made by wip/genluown.py.)
-/
import Derived.Test.YtobocdbehjcpjaaGreatDoorGrVe
import Derived.Test.YtobocdbehjcpjaaGreatDoorHz
namespace Go.Proofs.YtobocdbehjcpjaaGreatDoor.unifiedOwn
open Go.ChangeShapes Go.WideShapes Go.ChangeAt Go.RowKit
open Go.ChangeMaps (open_string shut_string)
open Hu (Rw Hk)

set_option maxHeartbeats 16000000 in
set_option maxRecDepth 100000 in
theorem walk (s : ByteArray) (w : World) (hs : s.size ≤ 140737488351232) (hr : RdyU w) :
    Calls Tryz.prog 7 #[.string s] w fun e w' => e = .returned (.bool true) ∧ Below w.heap.size w w' := by
  have HR := hid hr
  have HSU := hid (fun w1 (h1 : Below w.heap.size w w1) => sure_any w1 (hr.below h1))
  have HNV := hid (fun w1 (h1 : Below w.heap.size w w1) => (hr.below h1).err)
  have HLV := hid (fun w1 (h1 : Below w.heap.size w w1) => (hr.below h1).lib)
  obtain ⟨o1, o2, q1, q2, rest, l, c, er, ev, hB⟩ := both_any s (by unfold maxLen; omega)
  have HPA := hid hB.prog
  have HRF := hid hB.ref
  have HNM := hid hB.num
  have hlen := hB.short
  have HZ := hid hB.sz
  have y7 : ((er : Int) == (er : Int)) = true := zeq rfl
  obtain ⟨NL, hNL⟩ : ∃ NL, NL = l.length := ⟨_, rfl⟩
  have HNL := hid hNL
  rw [← hNL] at HPA HRF hlen
  clear hr hB hs hNL
  go_enter Tryz.func7, Tryz.ntmps7
  go_wp2_with fail
  refine (HPA.out w HR.out.lib).mono ?_
  rintro e w1 ⟨hb1, va, vc, rfl, hO⟩
  have HBw1 := hid hb1
  have HI1 := hid (hO.hunkI HNL.out (fun x hx => (HZ.out x hx).1))
  clear hb1 hO
  obtain ⟨hbN, n1, n2⟩ := twoF w1 (.cells #[.string ⟨#[]⟩, .string ⟨#[]⟩] 23) (.cells #[.string ⟨#[]⟩, .string ⟨#[]⟩] 23)
  have HBNw3 := hid hbN
  have P1w3 := hid n1
  have P2w3 := hid n2
  obtain ⟨C, hC⟩ : ∃ C, C = w1.heap.size := ⟨_, rfl⟩
  rw [← hC] at P1w3 P2w3
  have HCW := hid hC
  clear hbN n1 n2
  go_wp2_with (first | (guard_target =~ wpList _ _ _ (_ :: _) _ _; rw [← hC]; refine wpList_stA 23 #[.string o1, .string o2] rfl rfl P1w3.out Tryz.sizeName rfl rfl rfl rfl ?_; intro w2 hk1 hkp1; have Q1w3 := hid hk1; have HPw2 := hid hkp1; have Q2w3 := hid ((hkp1.block (C + 1) (lt_of_heap P2w3.out) (by omega)).trans P2w3.out); clear hk1 hkp1 hC) | (guard_target =~ wpList _ _ _ (_ :: _) _ _; refine wpList_stA 23 #[.string q1, .string q2] rfl rfl Q2w3.out Tryz.sizeName rfl rfl rfl rfl ?_; intro w3 hk2 hkp2; have HKw3 : Hid (Below C w1 w3) := hid (Kept.onto (Kept.onto (HCW.out ▸ HBNw3.out) HPw2.out (Nat.le_refl _) (Nat.le_of_eq HCW.out)) hkp2 (Nat.le_succ _) (Nat.le_of_eq HCW.out)); have HBw3 := hid (HBw1.out.trans (HKw3.out.mono (by rw [HCW.out]; exact HBw1.out.size))); have HI3 := hid (HI1.out.stays (HCW.out ▸ HKw3.out)); clear hk2 hkp2))
  go_loopw [9] (fun ii wr => ∃ i : Nat, i ≤ NL ∧ ii = .int .i64 i ∧ Hid (Below w.heap.size w wr) ∧ Hid (HunkI wr w.heap.size va NL i)) (fun ii _ => NL - (intOf ii).toNat)
  case atStart => exact ⟨0, Nat.zero_le _, rfl, HBw3, HI3⟩
  case round =>
    clear HI3 HI1
    obtain ⟨i, hi, rfl, HBwr, HI⟩ := hrel
    by_cases hlt : i < NL
    · obtain ⟨g, cur, ea, hg, hBg, hsz, hrow⟩ := HI.out (by omega)
      subst ea
      obtain ⟨v, m, xs, hv, hm, ho⟩ := hrow i (Nat.le_refl _) hlt
      obtain ⟨x, cc, rfl⟩ := own_shape ho
      have HG0 := hid hg
      have HBG := hid hBg
      have HSZ := hid hsz
      have HROW0 := hid hrow
      have HV := hid hv
      have i1 : (0 : Int) ≤ (i : Int) := by omega
      have i2 : (i : Int) < (NL : Int) := by omega
      obtain ⟨wo, hwo⟩ : ∃ wo, wo = wr := ⟨_, rfl⟩
      subst hwo
      clear hg hBg hsz hrow hv ho HI
      go_wp2_with fail
      go_loopw [10] (fun kk wr => ∃ k : Nat, k ≤ m ∧ kk = .int .i64 k ∧ Hid (Below w.heap.size w wr) ∧ Hid (wr.heap[g]? = some (.cells cur 37)) ∧ Hid (RowsI wr w.heap.size NL i cur)) (fun kk _ => m - (intOf kk).toNat)
      case atStart => exact ⟨0, Nat.zero_le _, rfl, HBwr, HG0, HROW0⟩
      case round =>
        obtain ⟨k, hk, rfl, HBR, HG, HROW⟩ := hrel
        clear HBwr HG0 HROW0
        have c5 : wr.cell? ⟨g, i * 6 + 5, none⟩ = some (.slice x m cc) := (cell_of_blk HG.out _).trans HV.out
        obtain ⟨v2, m2, xs2, hv2, _, ho2⟩ := HROW.out i (Nat.le_refl _) hlt
        have e2 : v2 = .slice x m cc := by rw [HV.out] at hv2; exact (Option.some.inj hv2).symm
        subst e2
        have e3 : m2 = m := by
          obtain ⟨a3, c3, e3⟩ := own_shape ho2
          simp only [Value.slice.injEq] at e3
          exact e3.2.1.symm
        subst e3
        by_cases hkm : k < m2
        · rcases ho2.2 with ⟨_, h0⟩ | ⟨g2, cap, cr, hvv, hB2, hh2, hc2, hm2, hs2, _⟩
          · omega
          · simp only [Value.slice.injEq] at hvv
            obtain ⟨ex, _, ec⟩ := hvv
            subst ex
            have HH2 := hid hh2
            have HB2 := hid hB2
            obtain ⟨u0, r0⟩ : ∃ u, wr.cell? ⟨g2, k * 2, none⟩ = some u := ⟨_, cell_in hh2 (by omega)⟩
            obtain ⟨u1, r1⟩ : ∃ u, wr.cell? ⟨g2, k * 2 + 1, none⟩ = some u := ⟨_, cell_in hh2 (by omega)⟩
            have rf : ∀ q, wr.frozen? ⟨g2, q, none⟩ = false := fun q => frozen_of_blk HH2.out q
            have j1 : (0 : Int) ≤ (k : Int) := by omega
            have j2 : (k : Int) < (m2 : Int) := by omega
            have HRR : Hid (Rowed w.heap.size wr ((wr.setCell ⟨g2, k * 2, none⟩ (.int .i64 9)).setCell ⟨g2, k * 2 + 1, none⟩ (.string ⟨#[115, 112, 111, 105, 108, 116]⟩))) := hid ((Rowed.set hh2 hB2).trans (Rowed.set (set_heap wr g2 (k * 2) _ _ (.int .i64 9) hh2) hB2))
            clear ho2 hv2 hh2 hB2 hc2 hm2 hs2 ec
            go_wp2_with fail
            go_roundw
            case rel => exact ⟨k + 1, by omega, by go_num, hid (HRR.out.onto HBR.out (Nat.le_refl _)), hid (HRR.out.hunk HG.out), hid (HROW.out.rowed HRR.out)⟩
            case measure => simp [intOf]; omega
        · obtain rfl : k = m2 := by omega
          have j2 : ¬ ((k : Int) < (k : Int)) := by omega
          have HNN := hid ho2
          have hbN := (Below.refl wr.heap.size wr).alloc (Nat.le_refl _) (.cells #[.int .i64 8, .string ⟨#[]⟩, .int .i64 8, .string ⟨#[]⟩] 52)
          have hkN := heap_alloc_new wr (.cells #[.int .i64 8, .string ⟨#[]⟩, .int .i64 8, .string ⟨#[]⟩] 52)
          have HBN := hid hbN
          have HKN := hid hkN
          have HOB := hid (own_stays ho2 hbN)
          have HGB := hid ((hbN.block g (lt_of_heap HG.out)).trans HG.out)
          have HRB := hid (HROW.out.rowed (.of hbN))
          have HBB := hid (HBR.out.trans (hbN.mono HBR.out.size))
          have HSW : Hid (w.heap.size ≤ (wr.alloc (.cells #[.int .i64 8, .string ⟨#[]⟩, .int .i64 8, .string ⟨#[]⟩] 52)).heap.size) := hid HBB.out.size
          have hmm : k + 2 ≤ 5864062014802 := by omega
          clear ho2 hv2 hkm hbN hkN
          go_wp2_with (first | (at_builtin; refine wpList_append_rowed rfl _ _ rfl w.heap.size k 2 wr.heap.size 2 (.slice x k cc) xs2 rfl HOB.out [.int .i64 8, .string ⟨#[]⟩, .int .i64 8, .string ⟨#[]⟩] rfl rfl (World.news_of_block HKN.out) (by decide) (by decide) (by unfold maxLen; omega) (by omega) HSW.out ?_; intro v' w' xs' hO' hR'; obtain ⟨av', cv', ev'⟩ := own_shape hO'; subst ev'; have HO' := hid hO'; have HG' := hid (hR'.hunk HGB.out); have HROW' := hid (HRB.out.rowed hR'); have HB' := hid (hR'.onto HBB.out (Nat.le_refl _)); obtain ⟨ud, d5⟩ : ∃ u, w'.cell? ⟨g, i * 6 + 5, none⟩ = some u := ⟨_, cell_in HG'.out (by have := HSZ.out; omega)⟩; have df : ∀ q, w'.frozen? ⟨g, q, none⟩ = false := fun q => frozen_of_blk HG'.out q; clear hO' hR'))
          go_roundw
          case rel => exact ⟨i + 1, by omega, by go_num, hid (below_set HB'.out HBG.out), hid (fun _ => ⟨g, _, rfl, set_heap _ g (i * 6 + 5) _ _ _ HG'.out, HBG.out, by simpa using HSZ.out, HROW'.out.next HG'.out⟩)⟩
          case measure => simp [intOf]; omega
    · have i2 : ¬ ((i : Int) < (NL : Int)) := by omega
      obtain ⟨wo, hwo⟩ : ∃ wo, wo = wr := ⟨_, rfl⟩
      subst hwo
      clear HI
      go_wp2_with fail
      refine (HPA.out wo (HLV.out wo HBwr.out)).mono ?_
      rintro e w4 ⟨hb4, vb, vd, rfl, hX⟩
      have HBw4 := hid (HBwr.out.trans (hb4.mono HBwr.out.size))
      have HX4 : Hid (RdH w4 (.slice vb NL vd) l) := hid hX.rd
      clear hb4 hX
      obtain ⟨hbN, n1, n2⟩ := twoF w4 (.cells #[.string ⟨#[]⟩, .string ⟨#[]⟩] 23) (.cells #[.string ⟨#[]⟩, .string ⟨#[]⟩] 23)
      have HBNw6 := hid hbN
      have P1w6 := hid n1
      have P2w6 := hid n2
      obtain ⟨D, hD⟩ : ∃ D, D = w4.heap.size := ⟨_, rfl⟩
      rw [← hD] at P1w6 P2w6
      have HDW := hid hD
      clear hbN n1 n2
      go_wp2_with (first | (guard_target =~ wpList _ _ _ (_ :: _) _ _; rw [← hD]; refine wpList_stA 23 #[.string o1, .string o2] rfl rfl P1w6.out Tryz.sizeName rfl rfl rfl rfl ?_; intro w5 hk1 hkp1; have Q1w6 := hid hk1; have HPw5 := hid hkp1; have Q2w6 := hid ((hkp1.block (D + 1) (lt_of_heap P2w6.out) (by omega)).trans P2w6.out); clear hk1 hkp1 hD) | (guard_target =~ wpList _ _ _ (_ :: _) _ _; refine wpList_stA 23 #[.string q1, .string q2] rfl rfl Q2w6.out Tryz.sizeName rfl rfl rfl rfl ?_; intro w6 hk2 hkp2; have HKw6 : Hid (Below D w4 w6) := hid (Kept.onto (Kept.onto (HDW.out ▸ HBNw6.out) HPw5.out (Nat.le_refl _) (Nat.le_of_eq HDW.out)) hkp2 (Nat.le_succ _) (Nat.le_of_eq HDW.out)); have HBw6 := hid (HBw4.out.trans (HKw6.out.mono (by rw [HDW.out]; exact HBw4.out.size))); have HX6 : Hid (RdH w6 (.slice vb NL vd) l) := hid (HX4.out.below (HDW.out ▸ HKw6.out)); clear hk2 hkp2))
      refine (HRF.out w6).mono ?_
      rintro e w7 ⟨hb7, vf, vg, rfl, hY⟩
      have HBw7 := hid (HBw6.out.trans (hb7.mono HBw6.out.size))
      have HX7 := hid (HX6.out.below hb7)
      have HY7 := hid hY
      clear hb7 hY
      obtain ⟨hbN, n1, n2⟩ := twoF w7 (.cells #[.string ⟨#[]⟩, .string ⟨#[]⟩] 23) (.cells #[.string ⟨#[]⟩, .string ⟨#[]⟩] 23)
      have HBNw9 := hid hbN
      have P1w9 := hid n1
      have P2w9 := hid n2
      obtain ⟨E, hE⟩ : ∃ E, E = w7.heap.size := ⟨_, rfl⟩
      rw [← hE] at P1w9 P2w9
      have HEW := hid hE
      clear hbN n1 n2
      go_wp2_with (first | (guard_target =~ wpList _ _ _ (_ :: _) _ _; rw [← hE]; refine wpList_stA 23 #[.string o1, .string o2] rfl rfl P1w9.out Tryz.sizeName rfl rfl rfl rfl ?_; intro w8 hk1 hkp1; have Q1w9 := hid hk1; have HPw8 := hid hkp1; have Q2w9 := hid ((hkp1.block (E + 1) (lt_of_heap P2w9.out) (by omega)).trans P2w9.out); clear hk1 hkp1 hE) | (guard_target =~ wpList _ _ _ (_ :: _) _ _; refine wpList_stA 23 #[.string q1, .string q2] rfl rfl Q2w9.out Tryz.sizeName rfl rfl rfl rfl ?_; intro w9 hk2 hkp2; have HKw9 : Hid (Below E w7 w9) := hid (Kept.onto (Kept.onto (HEW.out ▸ HBNw9.out) HPw8.out (Nat.le_refl _) (Nat.le_of_eq HEW.out)) hkp2 (Nat.le_succ _) (Nat.le_of_eq HEW.out)); have HBw9 := hid (HBw7.out.trans (HKw9.out.mono (by rw [HEW.out]; exact HBw7.out.size))); have HX9 : Hid (RdH w9 (.slice vb NL vd) l) := hid (HX7.out.below (HEW.out ▸ HKw9.out)); have HY9 : Hid (RdH w9 (.slice vf NL vg) l) := hid (HY7.out.below (HEW.out ▸ HKw9.out)); clear hk2 hkp2))
      refine (HNM.out w9 (HNV.out w9 HBw9.out)).mono ?_
      rintro e wa ⟨rfl, hba⟩
      have HBa := hid (HBw9.out.trans (hba.mono HBw9.out.size))
      have HXa := hid (HX9.out.below hba)
      have HYa := hid (HY9.out.below hba)
      clear hba
      go_wp2_with fail
      refine (HNM.out wa (HNV.out wa HBa.out)).mono ?_
      rintro e wb ⟨rfl, hbb⟩
      have HBb := hid (HBa.out.trans (hbb.mono HBa.out.size))
      have HXb := hid (HXa.out.below hbb)
      have HYb := hid (HYa.out.below hbb)
      clear hbb
      go_wp2_with fail
      refine (sameHunks_yes HXb.out HYb.out (by rw [← HNL.out]; exact hlen) (fun h hh => (HZ.out h hh).rowsLe)).mono ?_
      rintro e wc ⟨rfl, hbc⟩
      have HBc := hid (HBb.out.trans (hbc.mono HBb.out.size))
      clear hbc
      go_wp2_with fail
      refine (HSU.out wc HBc.out).mono ?_
      rintro e we ⟨rfl, hbe⟩
      have HBe := hid (HBc.out.trans (hbe.mono HBc.out.size))
      clear hbe
      go_wp2_with fail
      go_ret
      exact ⟨rfl, HBe.out⟩
theorem own : ownKnob Tryz.prog.godebug = none := by kernel_rfl

set_option maxRecDepth 100000 in
theorem contract (H : Type) (enc : TypeId × Value → H) (W : World) (base : Nat) (args : Array Value) (ds gs : List (DataW H)) (before : List MemPlace)
    (hval : ∀ (j : Nat) t v, Tryz.f7.params[j]? = some t → args[j]? = some v → Value.okWide Tryz.prog W .any base t v)
    (hW : DataW.Whole enc Tryz.prog Tryz.f7.params.toList Rows.unifiedOwnSpec.vars false W args.toList ds gs before)
    (hsz : (DataW.weightsEach Tryz.prog (Tryz.f7.params.toList ++ Rows.unifiedOwnSpec.plain.varTypes Tryz.prog) (ds ++ gs)).all (· ≤ reachBytes) = true)
    (hL : laidMetH Tryz.prog Rows.unifiedOwnRow.laid W)
    (hSh : W.ShapedOpen Tryz.prog)
    : Calls Tryz.prog 7 args W fun e W' => ∃ v, e = .returned v ∧ Rows.unifiedOwnSpec.post enc Tryz.prog Tryz.f7 false true false false W args v W' := by
  have hW' := hW
  obtain ⟨p, q, hA0, hV, rfl, hfz, hnd⟩ := hW
  have hA : DataW.TrodAll enc Tryz.prog W 0 (fun _ => true) true Tryz.f7.params.toList args.toList ds p := hA0
  rw [Tryz.params7] at hA hval hsz
  obtain ⟨v0, vs0, d0, ds0, p0, q0, hargs0, rfl, rfl, h0, r0⟩ := trodAll_cons hA
  obtain ⟨rfl, rfl, rfl⟩ := trodAll_nil r0
  obtain rfl : args = #[v0] := by cases args; simp_all
  obtain ⟨rfl, rfl⟩ := trodVars_none hV
  obtain ⟨x0, rfl, rfl, rfl, hmax0⟩ := open_string Tryz.underlying9 (hval 0 9 v0 rfl rfl) h0
  have hlen0 : x0.size ≤ 140737488351232 := by
    have := sized_string hsz (j := 0) (t := 9) rfl rfl
    rwa [size_data] at this
  clear hA0 hsz
  simp only [List.append_nil] at hW'
  refine (walk x0 W hlen0 (ready_of hL hSh)).mono fun e W' ⟨he, hb⟩ => ?_
  subst he
  exact ⟨_, rfl, _, _, _, [], [], [], hW', trodAll_cons_mk (shut_bool Tryz.underlying4 _) trodAll_mk0, trodAll_cons_mk (shut_string Tryz.underlying9 hmax0) trodAll_mk0, rfl, hb.frame _, fun h => by cases h⟩

set_option maxRecDepth 100000 in
theorem lifted (os : Os) (started : os.Started) (H : Type) (enc : TypeId × Value → H) (F : Stop.Interp) :
    ReturnsInHanded {} Tryz.checked os 7 .any ((OpenSpec.ofChange Rows.unifiedOwnSpec).preRow enc Tryz.prog Tryz.f7 Rows.unifiedOwnRow.domain false Rows.unifiedOwnRow.laid) (((OpenSpec.ofChange Rows.unifiedOwnSpec).at F).post enc Tryz.prog Tryz.f7 false true false false) := by
  refine returnsInHanded_of_row (C := Tryz.checked) (s := OpenSpec.ofChange Rows.unifiedOwnSpec) own started (by kernel_rfl) Tryz.func7
    (witness_row_at (enc := enc) (C := Tryz.checked) false
      (laidWorld os)
      #[.string .empty] rfl (by kernel_rfl) (by kernel_rfl) (by kernel_rfl)
      (OpenSpec.preRow_of_cond 8 (x := ([.lit (.string [])], [], [])) (by kernel_rfl) (by kernel_rfl) (fun k hk => by cases hk) (by kernel_rfl) (laidWorld_met os _))) ?_
  intro W base args ds gs before hval hW _ hcond hsz hL hSh _
  exact contract H enc W base args ds gs before hval hW hsz hL hSh

theorem said : Rows.UnifiedOwnSaid :=
  OpenClaim.holds_of_cond 7 Tryz.f7 rfl rfl rfl rfl rfl rfl rfl ⟨rfl, rfl, rfl, rfl, rfl⟩ rfl rfl rfl rfl rfl (by kernel_rfl) Tryz.func7 (by kernel_rfl)
    (of_decide_eq_true (by kernel_rfl)) (by unfold Func.isWrapper; first | (rw [if_pos (by decide +kernel)]; kernel_rfl) | (rw [if_neg (by decide +kernel)]; exact ⟨rfl, rfl⟩))
    (fun os started H enc _ F => by rw [OpenClaim.pre_eq_preRow]; exact lifted os started H enc F)

theorem plain (f : FuncId) (fn : Func) (hf : Tryz.pinned.checked.prog.funcNamed Rows.unifiedOwnRow.func = some f) (hfn : Tryz.pinned.checked.prog.funcs[f]? = some fn) :
    true = Tryz.pinned.checked.prog.looks [] ∧ ∀ (j : Nat) t, fn.params[j]? = some t → Tryz.pinned.checked.prog.wantsStandIn t = false := by
  obtain rfl : f = 7 := Option.some.inj ((show Tryz.prog.funcNamed Rows.unifiedOwnRow.func = some 7 by kernel_rfl).symm.trans hf) |>.symm
  obtain rfl : fn = Tryz.f7 := (Option.some.inj (Tryz.func7.symm.trans hfn)).symm
  refine ⟨by kernel_rfl, fun j t ht => ?_⟩
  rw [Tryz.params7] at ht
  have hm : t = 9 := by simpa using Array.mem_of_getElem? ht
  rcases hm with rfl
  · exact (show Tryz.prog.wantsStandIn 9 = false by kernel_rfl)

theorem card : Rows.UnifiedOwnCardSaid :=
  Claim7.holds_tied_plain_at .later [] _ _ _ _ said (fun _ h => by cases h) (by kernel_rfl) (fun _ h => by cases h) unifiedOwn_row_tie rfl ⟨rfl, rfl⟩ (by kernel_rfl) rfl plain (by kernel_rfl)
end Go.Proofs.YtobocdbehjcpjaaGreatDoor.unifiedOwn
