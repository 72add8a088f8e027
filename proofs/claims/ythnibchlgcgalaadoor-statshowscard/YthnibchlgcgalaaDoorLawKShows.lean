/-
  PROVED: the card of StatShows: for every two quadruples of integers StatShows returns true (a bar is no longer than its width, empty just if nothing was changed, its two parts are there just if lines came or went; more lines in all have no shorter bar), and nothing else changes. (The card: the row lists four package-level variables, of which the proof uses errors.errorType and the table of powers of ten.)
-/
import Derived.Test.YthnibchlgcgalaaDoorBw
import Derived.Test.YthnibchlgcgalaaDoorBb
import Derived.Test.YthnibchlgcgalaaDoorHw
namespace Go.Proofs.YthnibchlgcgalaaDoor.statShows
open Go.ChangeShapes Go.WideShapes Go.ChangeAt Go.RowKit
open Go.ChangeMaps (open_string shut_string)
open Sx

theorem iff_dec {p q : Prop} [Decidable p] [Decidable q] (h : (!decide p == decide q) = false) : p ↔ q := by
  by_cases hp : p <;> by_cases hq : q <;> simp_all
abbrev brO (a d wd m : Int) : Obj := .cells #[.int .i64 a, .int .i64 d, .int .i64 wd, .int .i64 m] 23
set_option maxHeartbeats 4000000 in
set_option maxRecDepth 100000 in
theorem walk (a d wd m a2 d2 wd2 m2 : Int) (w : World) (ha : -9223372036854775808 ≤ a ∧ a ≤ 9223372036854775807) (hd : -9223372036854775808 ≤ d ∧ d ≤ 9223372036854775807) (hw : -9223372036854775808 ≤ wd ∧ wd ≤ 9223372036854775807) (hm : -9223372036854775808 ≤ m ∧ m ≤ 9223372036854775807)
    (ha2 : -9223372036854775808 ≤ a2 ∧ a2 ≤ 9223372036854775807) (hd2 : -9223372036854775808 ≤ d2 ∧ d2 ≤ 9223372036854775807) (_hw2 : -9223372036854775808 ≤ wd2 ∧ wd2 ≤ 9223372036854775807) (_hm2 : -9223372036854775808 ≤ m2 ∧ m2 ≤ 9223372036854775807) (hg : RdyK w) :
    Calls Tryd.prog 6 #[.agg #[.int .i64 a, .int .i64 d, .int .i64 wd, .int .i64 m], .agg #[.int .i64 a2, .int .i64 d2, .int .i64 wd2, .int .i64 m2]] w fun e w' => e = .returned (.bool true) ∧ Below w.heap.size w w' := by
  have HA := hid (fun w' => bar_any a d wd m w' ha hd hw hm)
  have HB := hid (fun w' => bar_any a2 d2 wd m w' ha2 hd2 hw hm)
  have HG := hid hg
  have HN := hid (two_new w (brO a d wd m) (brO a2 d2 wd2 m2))
  have HW := hid (fun w' (h : Below w.heap.size w w') => works_any w' (HG.out.2.below h) (HG.out.1.later h))
  obtain ⟨E, hE⟩ : ∃ E, E = w.heap.size := ⟨_, rfl⟩
  clear hg
  go_enter Tryd.func6, Tryd.ntmps6
  go_upto_region 1 with fail
  rw [← hE]
  rw [← hE] at HN
  have HE := hid hE
  clear hE
  generalize (w.alloc (.cells #[.int .i64 a, .int .i64 d, .int .i64 wd, .int .i64 m] 23)).alloc (.cells #[.int .i64 a2, .int .i64 d2, .int .i64 wd2, .int .i64 m2] 23) = w1 at HN ⊢
  have b0 : w1.cell? ⟨E, 0, none⟩ = some (.int .i64 a) := cell_of_blk HN.out.2.1 0
  have b1 : w1.cell? ⟨E, 1, none⟩ = some (.int .i64 d) := cell_of_blk HN.out.2.1 1
  have b2 : w1.cell? ⟨E, 2, none⟩ = some (.int .i64 wd) := cell_of_blk HN.out.2.1 2
  have b3 : w1.cell? ⟨E, 3, none⟩ = some (.int .i64 m) := cell_of_blk HN.out.2.1 3
  have c0 : w1.cell? ⟨E + 1, 0, none⟩ = some (.int .i64 a2) := cell_of_blk HN.out.2.2 0
  have c1 : w1.cell? ⟨E + 1, 1, none⟩ = some (.int .i64 d2) := cell_of_blk HN.out.2.2 1
  have HB1 : Hid (Below w.heap.size w w1) := hid (by have := HN.out.1; rw [HE.out] at this; exact this)
  clear HN
  go_wp2_with fail
  all_goals first
    | (refine (HW.out w1 HB1.out).mono ?_
       rintro e w2 ⟨rfl, hb2⟩
       have HB2 := hid (HB1.out.trans (hb2.mono HB1.out.size))
       clear hb2
       go_wp2_with fail
       go_ret
       exact ⟨rfl, HB2.out⟩)
    | skip
  · have ho : OkB a d wd m := ⟨by omega, by omega, by omega, by omega, by omega, by omega, by omega, by omega⟩
    have hr1 : 0 ≤ a ∧ a ≤ 1073741824 := ⟨by omega, by omega⟩
    have hr2 : 0 ≤ d ∧ d ≤ 1073741824 := ⟨by omega, by omega⟩
    have hbk := bar_ok ho
    have HO := hid ho
    have HX := hid (fun (ho2 : OkB a2 d2 wd m) => And.intro (bar_ok ho2) (fun h1 h2 => bar_more ho ho2 h1 h2))
    generalize bar a d wd m = p at HA hbk HX
    generalize bar a2 d2 wd m = p2 at HB HX
    obtain ⟨x, y⟩ := p
    obtain ⟨u, v⟩ := p2
    simp only at HA HB HX hbk
    obtain ⟨hx0, hy0, hxy, hxa, hyd⟩ := hbk
    have dx : decide (0 < x) = decide (0 < a) := decide_eq_decide.2 hxa
    have dy : decide (0 < y) = decide (0 < d) := decide_eq_decide.2 hyd
    have s1 : IntKind.i64.wrap (x + y) = x + y := wrapI (by omega) (by omega)
    clear hxa hyd ho ha hd hw hm
    refine (HA.out w1).mono ?_
    rintro e w2 ⟨rfl, rfl⟩
    clear HA
    go_wp2_with fail
    all_goals first
      | (refine (HW.out w2 HB1.out).mono ?_
         rintro e w3 ⟨rfl, hb3⟩
         have HB3 := hid (HB1.out.trans (hb3.mono HB1.out.size))
         clear hb3
         go_wp2_with fail
         go_ret
         exact ⟨rfl, HB3.out⟩)
      | skip
    all_goals
      have hiff : (0 < a2 ∧ 0 < d2) ↔ (0 < a ∧ 0 < d) := by
        first
          | omega
          | (have hf := iff_dec (And.right ‹_ ∧ ((!decide (0 < d2) == decide (0 < d)) = false)›)
             omega)
      have ho2 : OkB a2 d2 wd m := ⟨by omega, by omega, by omega, by omega, by omega, by omega, by omega, by omega⟩
      have HX2 := hid (HX.out ho2)
      have hu := HX2.out.1
      have s2 : IntKind.i64.wrap (u + v) = u + v := wrapI (by omega) (by omega)
      have s3 : IntKind.i64.wrap (a2 + d2) = a2 + d2 := wrapI (by omega) (by omega)
      have s4 : IntKind.i64.wrap (a + d) = a + d := wrapI (by omega) (by omega)
      have HIF := hid hiff
      clear hiff ho2 hu HX dx dy
      refine (HB.out w2).mono ?_
      rintro e w3 ⟨rfl, rfl⟩
      clear HB
      by_cases hge : a + d ≤ a2 + d2
      · have hle := HX2.out.2 HIF.out hge
        clear HX2 HIF
        go_wp2_with fail
        refine (HW.out w3 HB1.out).mono ?_
        rintro e w4 ⟨rfl, hb4⟩
        have HB4 := hid (HB1.out.trans (hb4.mono HB1.out.size))
        clear hb4
        go_wp2_with fail
        go_ret
        exact ⟨rfl, HB4.out⟩
      · clear HX2 HIF
        go_wp2_with fail
        refine (HW.out w3 HB1.out).mono ?_
        rintro e w4 ⟨rfl, hb4⟩
        have HB4 := hid (HB1.out.trans (hb4.mono HB1.out.size))
        clear hb4
        go_wp2_with fail
        go_ret
        exact ⟨rfl, HB4.out⟩

theorem own : ownKnob Tryd.prog.godebug = none := by kernel_rfl

set_option maxRecDepth 100000 in
theorem contract (H : Type) (enc : TypeId × Value → H) (W : World) (base : Nat) (args : Array Value) (ds gs : List (DataW H)) (before : List MemPlace)
    (hval : ∀ (j : Nat) t v, Tryd.f6.params[j]? = some t → args[j]? = some v → Value.okWide Tryd.prog W .any base t v)
    (hW : DataW.Whole enc Tryd.prog Tryd.f6.params.toList Rows.statShowsSpec.vars false W args.toList ds gs before)
    (hsz : (DataW.weightsEach Tryd.prog (Tryd.f6.params.toList ++ Rows.statShowsSpec.plain.varTypes Tryd.prog) (ds ++ gs)).all (· ≤ reachBytes) = true)
    (hL : laidMetH Tryd.prog Rows.statShowsRow.laid W)
    : Calls Tryd.prog 6 args W fun e W' => ∃ v, e = .returned v ∧ Rows.statShowsSpec.post enc Tryd.prog Tryd.f6 false true false false W args v W' := by
  have hW' := hW
  obtain ⟨p, q, hA0, hV, rfl, hfz, hnd⟩ := hW
  have hA : DataW.TrodAll enc Tryd.prog W 0 (fun _ => true) true Tryd.f6.params.toList args.toList ds p := hA0
  rw [Tryd.params6] at hA hval hsz
  obtain ⟨v0, vs0, d0, ds0, p0, q0, hargs0, rfl, rfl, h0, r0⟩ := trodAll_cons hA
  obtain ⟨v1, vs1, d1, ds1, p1, q1, hargs1, rfl, rfl, h1, r1⟩ := trodAll_cons r0
  obtain ⟨rfl, rfl, rfl⟩ := trodAll_nil r1
  obtain rfl : args = #[v0, v1] := by cases args; simp_all
  obtain ⟨rfl, rfl⟩ := trodVars_none hV
  obtain ⟨x0a, x0b, x0c, x0d, rfl, rfl, rfl, ma0, mb0, mc0, md0⟩ := open_bar Tryd.underlying23 Tryd.underlying3 ⟨rfl, rfl⟩ ⟨rfl, rfl⟩ ⟨rfl, rfl⟩ ⟨rfl, rfl⟩ (by kernel_rfl) (by kernel_rfl) h0
  obtain ⟨x1a, x1b, x1c, x1d, rfl, rfl, rfl, ma1, mb1, mc1, md1⟩ := open_bar Tryd.underlying23 Tryd.underlying3 ⟨rfl, rfl⟩ ⟨rfl, rfl⟩ ⟨rfl, rfl⟩ ⟨rfl, rfl⟩ (by kernel_rfl) (by kernel_rfl) h1
  clear hA0 hsz
  simp only [List.append_nil] at hW'
  refine (walk x0a x0b x0c x0d x1a x1b x1c x1d W (wf_range ma0) (wf_range mb0) (wf_range mc0) (wf_range md0) (wf_range ma1) (wf_range mb1) (wf_range mc1) (wf_range md1) (ready_of hL)).mono fun e W' ⟨he, hb⟩ => ?_
  subst he
  exact ⟨_, rfl, _, _, _, [], [], [], hW', trodAll_cons_mk (shut_bool Tryd.underlying4 _) trodAll_mk0, trodAll_cons_mk (shut_bar Tryd.underlying23 Tryd.underlying3 ⟨rfl, rfl⟩ ⟨rfl, rfl⟩ ⟨rfl, rfl⟩ ⟨rfl, rfl⟩ (by kernel_rfl) (by kernel_rfl) ma0 mb0 mc0 md0) (trodAll_cons_mk (shut_bar Tryd.underlying23 Tryd.underlying3 ⟨rfl, rfl⟩ ⟨rfl, rfl⟩ ⟨rfl, rfl⟩ ⟨rfl, rfl⟩ (by kernel_rfl) (by kernel_rfl) ma1 mb1 mc1 md1) trodAll_mk0), rfl, hb.frame _, fun h => by cases h⟩

set_option maxRecDepth 100000 in
theorem lifted (os : Os) (started : os.Started) (H : Type) (enc : TypeId × Value → H) (F : Stop.Interp) :
    ReturnsInHanded {} Tryd.checked os 6 .any ((OpenSpec.ofChange Rows.statShowsSpec).preRow enc Tryd.prog Tryd.f6 Rows.statShowsRow.domain false Rows.statShowsRow.laid) (((OpenSpec.ofChange Rows.statShowsSpec).at F).post enc Tryd.prog Tryd.f6 false true false false) := by
  refine returnsInHanded_of_row (C := Tryd.checked) (s := OpenSpec.ofChange Rows.statShowsSpec) own started (by kernel_rfl) Tryd.func6
    (witness_row_at (enc := enc) (C := Tryd.checked) false
      (laidWorld os)
      #[.agg #[.int .i64 0, .int .i64 0, .int .i64 0, .int .i64 0], .agg #[.int .i64 0, .int .i64 0, .int .i64 0, .int .i64 0]] rfl (by kernel_rfl) (by kernel_rfl) (by kernel_rfl)
      (OpenSpec.preRow_of_cond 8 (x := ([.agg [.lit (.int .i64 0), .lit (.int .i64 0), .lit (.int .i64 0), .lit (.int .i64 0)], .agg [.lit (.int .i64 0), .lit (.int .i64 0), .lit (.int .i64 0), .lit (.int .i64 0)]], [], [])) (by kernel_rfl) (by kernel_rfl) (fun k hk => by cases hk) (by kernel_rfl) (laidWorld_met os _))) ?_
  intro W base args ds gs before hval hW _ hcond hsz hL _ _
  exact contract H enc W base args ds gs before hval hW hsz hL

theorem said : Rows.StatShowsSaid :=
  OpenClaim.holds_of_cond 6 Tryd.f6 rfl rfl rfl rfl rfl rfl rfl ⟨rfl, rfl, rfl, rfl, rfl⟩ rfl rfl rfl rfl rfl (by kernel_rfl) Tryd.func6 (by kernel_rfl)
    (of_decide_eq_true (by kernel_rfl)) (by unfold Func.isWrapper; first | (rw [if_pos (by decide +kernel)]; kernel_rfl) | (rw [if_neg (by decide +kernel)]; exact ⟨rfl, rfl⟩))
    (fun os started H enc _ F => by rw [OpenClaim.pre_eq_preRow]; exact lifted os started H enc F)

theorem plain (f : FuncId) (fn : Func) (hf : Tryd.pinned.checked.prog.funcNamed Rows.statShowsRow.func = some f) (hfn : Tryd.pinned.checked.prog.funcs[f]? = some fn) :
    true = Tryd.pinned.checked.prog.looks [] ∧ ∀ (j : Nat) t, fn.params[j]? = some t → Tryd.pinned.checked.prog.wantsStandIn t = false := by
  obtain rfl : f = 6 := Option.some.inj ((show Tryd.prog.funcNamed Rows.statShowsRow.func = some 6 by kernel_rfl).symm.trans hf) |>.symm
  obtain rfl : fn = Tryd.f6 := (Option.some.inj (Tryd.func6.symm.trans hfn)).symm
  refine ⟨by kernel_rfl, fun j t ht => ?_⟩
  rw [Tryd.params6] at ht
  have hm : t = 23 := by simpa using Array.mem_of_getElem? ht
  rcases hm with rfl
  · exact (show Tryd.prog.wantsStandIn 23 = false by kernel_rfl)

theorem card : Rows.StatShowsCardSaid :=
  Claim7.holds_tied_plain_at .later [] _ _ _ _ said (fun _ h => by cases h) (by kernel_rfl) (fun _ h => by cases h) statShows_row_tie rfl ⟨rfl, rfl⟩ (by kernel_rfl) rfl plain (by kernel_rfl)
end Go.Proofs.YthnibchlgcgalaaDoor.statShows
