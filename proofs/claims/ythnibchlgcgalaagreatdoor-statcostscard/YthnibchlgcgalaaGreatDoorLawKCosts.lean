/-
  PROVED: the card of StatCosts: for every script, every two lists of strings and every context StatCosts returns true (of the hunks that the document builds of a script the program counts what the script costs), and nothing else changes. (The card: the row lists four package-level variables, of which the proof uses errors.errorType and the table of powers of ten.)
-/
import Derived.Test.YthnibchlgcgalaaGreatDoorBi
import Derived.Test.YthnibchlgcgalaaGreatDoorKl6
import Derived.Test.YthnibchlgcgalaaGreatDoorGrKp
import Derived.Test.YthnibchlgcgalaaGreatDoorHw
namespace Go.Proofs.YthnibchlgcgalaaGreatDoor.statCosts
open Go.ChangeShapes Go.WideShapes Go.ChangeAt Go.RowKit
open Go.ChangeMaps (open_string shut_string)
open Hu (Rw Hk)
open Ed (Ch)
open Sx

set_option maxHeartbeats 4000000 in
set_option maxRecDepth 100000 in
theorem walk (v0 : Value) (s : List Ch) (v1 : Value) (a : List ByteArray) (v2 : Value) (b : List ByteArray) (ctx : Int) (w : World) (hr : RdC w v0 s) (hwf : ∀ c ∈ s, WfC c) (hl : s.length ≤ 4398046510976) (_hsh : ArgS v0)
    (ha : RdT w v1 a) (hsa : ∀ c ∈ a, SzS c) (hla : a.length ≤ 8796093021952) (_hsA : ArgS v1) (hb : RdT w v2 b) (hsb : ∀ c ∈ b, SzS c) (hlb : b.length ≤ 8796093021952) (_hsB : ArgS v2) (hg : RdyK w) :
    Calls Tryz.prog 4 #[.agg #[v0, v1, v2, .int .i64 ctx]] w fun e w' => e = .returned (.bool true) ∧ Below w.heap.size w w' := by
  have hsa' : ∀ x ∈ a, x.size ≤ maxLen := hsa
  have hsb' : ∀ x ∈ b, x.size ≤ maxLen := hsb
  have HBu := hid (fun w' (h : Below w.heap.size w w') => rBuild_any (ctx := ctx) (hr.below h) hwf (by omega) (RdX.below ha h) (RdX.below hb h) (by omega) (by omega) hsa' hsb')
  have HCo := hid (fun w' (h : Below w.heap.size w w') => refCost_any (hr.below h) hwf (by omega))
  have HSZ := hid (bldA_sz (s := s) (ctx := ctx) hsa' hsb')
  have HBC := hid (fun h => bldA_cost (s := s) (a := a) (b := b) (ctx := ctx) h)
  have HG := hid hg
  have HW := hid (fun w' (h : Below w.heap.size w w') => Sx.works_any w' (HG.out.2.below h) (HG.out.1.later h))
  have HN := hid (one_new w (.cells #[v0, v1, v2, .int .i64 ctx] 38))
  obtain ⟨a0, c0, e0⟩ := hr.shape
  obtain ⟨a1, c1, e1⟩ := ha.shape
  obtain ⟨a2, c2, e2⟩ := hb.shape
  obtain ⟨u0, hu0⟩ : ∃ u, u = v0 := ⟨_, rfl⟩
  rw [e0, e1, e2] at HN HBu
  rw [e0] at HCo
  rw [e0, e1, e2]
  clear hr hwf hl _hsh ha hsa hla _hsA hb hsb hlb _hsB hg hsa' hsb' e0 e1 e2 hu0
  generalize s.length = n0 at *
  generalize a.length = n1 at *
  generalize b.length = n2 at *
  obtain ⟨E, hE⟩ : ∃ E, E = w.heap.size := ⟨_, rfl⟩
  have HE := hid hE
  rw [← hE] at HN
  by_cases h0 : bldN s a b ctx = 0
  · have hc := HBC.out h0
    have hlen := HSZ.out.2
    have hV := of_yes (nm := ⟨#[120]⟩) hc.2.2.2.2
    rw [hc.1, hc.2.1] at hV
    have HOf := hid (fun (w' : World) (v : Value) (h : RdH w' v (bldA s a b ctx)) => of_any ⟨#[120]⟩ h (by omega) HSZ.out.1 ⟨hc.2.2.1, hc.2.2.2.1⟩)
    rw [hV.1, hV.2, errV_zero] at HOf
    rw [h0] at HBu
    generalize bldA s a b ctx = J at HOf HBu
    generalize Ed.costP s = P at HOf HCo
    obtain ⟨p1, p2⟩ := P
    simp only at HOf HCo
    have z1 : (p1 == p1) = true := zeq rfl
    have z2 : (p2 == p2) = true := zeq rfl
    clear hc hlen hV h0 HBC HSZ
    go_enter Tryz.func4, Tryz.ntmps4
    go_wp2_with fail
    rw [← hE]
    clear hE
    generalize w.alloc (.cells #[.slice a0 n0 c0, .slice a1 n1 c1, .slice a2 n2 c2, .int .i64 ctx] 38) = w1 at HN ⊢
    have HB1 : Hid (Below w.heap.size w w1) := hid (by have := HN.out.1; rw [HE.out] at this; exact this)
    have HK1 := hid HN.out.2
    clear HN
    refine (HBu.out w1 HB1.out).mono ?_
    rintro e w2 ⟨v', rfl, hO, hb2⟩
    have HB2 := hid (HB1.out.trans (hb2.mono HB1.out.size))
    have HK2 : Hid (w2.heap[E]? = some (.cells #[.slice a0 n0 c0, .slice a1 n1 c1, .slice a2 n2 c2, .int .i64 ctx] 38)) := hid ((hb2.block E (lt_of_heap HK1.out)).trans HK1.out)
    have HO2 := hid (HOf.out w2 v' hO.rd)
    obtain ⟨av, cv, rfl⟩ := hO.shape
    generalize J.length = m at HO2 ⊢
    clear hO hb2 HBu HOf HB1 HK1
    go_wp2_with fail
    refine HO2.out.mono ?_
    rintro e w3 ⟨rfl, hb3⟩
    have HN3 := hid (one_new w3 (ctO ⟨#[120]⟩ p2 p1))
    have HB3 := hid (HB2.out.trans ((hb3.trans (HN3.out.1.mono hb3.size)).mono HB2.out.size))
    have HK3 : Hid ((w3.alloc (ctO ⟨#[120]⟩ p2 p1)).heap[E]? = some (.cells #[.slice a0 n0 c0, .slice a1 n1 c1, .slice a2 n2 c2, .int .i64 ctx] 38)) := hid (((hb3.trans (HN3.out.1.mono hb3.size)).block E (lt_of_heap HK2.out)).trans HK2.out)
    have g0 : (w3.alloc (.cells #[.string ⟨#[120]⟩, .int .i64 p2, .int .i64 p1] 24)).cell? ⟨E, 0, none⟩ = some (.slice a0 n0 c0) := cell_of_blk HK3.out 0
    clear hb3 HO2 HB2 HK2 HK3
    go_wp2_with fail
    obtain ⟨E3, hE3⟩ : ∃ E, E = w3.heap.size := ⟨_, rfl⟩
    rw [← hE3]
    rw [← hE3] at HN3
    have HC4 := hid HN3.out.2
    clear HN3 hE3
    generalize w3.alloc (.cells #[.string ⟨#[120]⟩, .int .i64 p2, .int .i64 p1] 24) = w4 at HB3 HC4 g0 ⊢
    refine (HCo.out w4 HB3.out).mono ?_
    rintro e w5 ⟨rfl, hb5⟩
    have HB5 := hid (HB3.out.trans (hb5.mono HB3.out.size))
    have HC5 : Hid (w5.heap[E3]? = some (ctO ⟨#[120]⟩ p2 p1)) := hid ((hb5.block E3 (lt_of_heap HC4.out)).trans HC4.out)
    have d0 : w5.cell? ⟨E3, 0, none⟩ = some (.string ⟨#[120]⟩) := cell_of_blk HC5.out 0
    have d1 : w5.cell? ⟨E3, 1, none⟩ = some (.int .i64 p2) := cell_of_blk HC5.out 1
    have d2 : w5.cell? ⟨E3, 2, none⟩ = some (.int .i64 p1) := cell_of_blk HC5.out 2
    clear hb5 HCo HB3 HC4 g0
    go_wp2_with fail
    refine (HW.out w5 HB5.out).mono ?_
    rintro e w6 ⟨rfl, hb6⟩
    have HB6 := hid (HB5.out.trans (hb6.mono HB5.out.size))
    clear hb6
    go_wp2_with fail
    go_ret
    exact ⟨rfl, HB6.out⟩
  · obtain ⟨k, hk⟩ : ∃ k, k = bldN s a b ctx := ⟨_, rfl⟩
    have q0 : ((k : Int) == 0) = false := ine (m := 0) (by omega)
    rw [← hk] at HBu
    clear h0 HBC HSZ hk
    go_enter Tryz.func4, Tryz.ntmps4
    go_wp2_with fail
    rw [← hE]
    clear hE
    generalize w.alloc (.cells #[.slice a0 n0 c0, .slice a1 n1 c1, .slice a2 n2 c2, .int .i64 ctx] 38) = w1 at HN ⊢
    have HB1 : Hid (Below w.heap.size w w1) := hid (by have := HN.out.1; rw [HE.out] at this; exact this)
    clear HN
    refine (HBu.out w1 HB1.out).mono ?_
    rintro e w2 ⟨v', rfl, hO, hb2⟩
    have HB2 := hid (HB1.out.trans (hb2.mono HB1.out.size))
    obtain ⟨av, cv, rfl⟩ := hO.shape
    clear hO hb2
    go_wp2_with fail
    refine (HW.out w2 HB2.out).mono ?_
    rintro e w6 ⟨rfl, hb6⟩
    have HB6 := hid (HB2.out.trans (hb6.mono HB2.out.size))
    clear hb6
    go_wp2_with fail
    go_ret
    exact ⟨rfl, HB6.out⟩

theorem own : ownKnob Tryz.prog.godebug = none := by kernel_rfl

set_option maxRecDepth 100000 in
theorem contract (H : Type) (enc : TypeId × Value → H) (W : World) (base : Nat) (args : Array Value) (ds gs : List (DataW H)) (before : List MemPlace)
    (hval : ∀ (j : Nat) t v, Tryz.f4.params[j]? = some t → args[j]? = some v → Value.okWide Tryz.prog W .any base t v)
    (hW : DataW.Whole enc Tryz.prog Tryz.f4.params.toList Rows.statCostsSpec.vars false W args.toList ds gs before)
    (hsz : (DataW.weightsEach Tryz.prog (Tryz.f4.params.toList ++ Rows.statCostsSpec.plain.varTypes Tryz.prog) (ds ++ gs)).all (· ≤ reachBytes) = true)
    (hL : laidMetH Tryz.prog Rows.statCostsRow.laid W)
    : Calls Tryz.prog 4 args W fun e W' => ∃ v, e = .returned v ∧ Rows.statCostsSpec.post enc Tryz.prog Tryz.f4 false true false false W args v W' := by
  have hW' := hW
  obtain ⟨p, q, hA0, hV, rfl, hfz, hnd⟩ := hW
  have hA : DataW.TrodAll enc Tryz.prog W 0 (fun _ => true) true Tryz.f4.params.toList args.toList ds p := hA0
  rw [Tryz.params4] at hA hval hsz
  obtain ⟨v0, vs0, d0, ds0, p0, q0, hargs0, rfl, rfl, h0, r0⟩ := trodAll_cons hA
  obtain ⟨rfl, rfl, rfl⟩ := trodAll_nil r0
  obtain rfl : args = #[v0] := by cases args; simp_all
  obtain ⟨rfl, rfl⟩ := trodVars_none hV
  obtain ⟨v0_0, x0_0, v0_1, x0_1, v0_2, x0_2, x0_3, rfl, hr0_0, hw0_0, hs0_0, hr0_1, hw0_1, hs0_1, hr0_2, hw0_2, hs0_2, hq0⟩ := open_job16 h0
  have hlen0 := hq0 (List.all_eq_true.2 fun n hn => List.all_eq_true.1 hsz n (DataW.weights_mem_each (j := 0) (t := 38) rfl rfl n (by simpa [DataW.weightsEach] using hn)))
  clear hA0 hsz
  simp only [List.append_nil] at hW'
  have hlt0 : ∀ x ∈ p0, x.block < W.heap.size := fun x hx => by simpa using hW'.lt x (by simp [hx])
  refine (walk v0_0 x0_0 v0_1 x0_1 v0_2 x0_2 x0_3 W hr0_0 hw0_0 hlen0.1 hs0_0 hr0_1 hw0_1 hlen0.2.1 hs0_1 hr0_2 hw0_2 hlen0.2.2 hs0_2 (ready_of hL)).mono fun e W' ⟨he, hb⟩ => ?_
  subst he
  exact ⟨_, rfl, _, _, _, [], (p0 ++ []), [], hW', trodAll_cons_mk (shut_bool Tryz.underlying4 _) trodAll_mk0, trodAll_cons_mk (Below.trod laidOut (by kernel_rfl) (of_decide_eq_true (by kernel_rfl)) h0 hb hlt0) trodAll_mk0, rfl, hb.frame _, fun h => by cases h⟩

set_option maxRecDepth 100000 in
theorem lifted (os : Os) (started : os.Started) (H : Type) (enc : TypeId × Value → H) (F : Stop.Interp) :
    ReturnsInHanded {} Tryz.checked os 4 .any ((OpenSpec.ofChange Rows.statCostsSpec).preRow enc Tryz.prog Tryz.f4 Rows.statCostsRow.domain false Rows.statCostsRow.laid) (((OpenSpec.ofChange Rows.statCostsSpec).at F).post enc Tryz.prog Tryz.f4 false true false false) := by
  refine returnsInHanded_of_row (C := Tryz.checked) (s := OpenSpec.ofChange Rows.statCostsSpec) own started (by kernel_rfl) Tryz.func4
    (witness_row_at (enc := enc) (C := Tryz.checked) false
      (laidWorld os)
      #[.agg #[.slice none 0 0, .slice none 0 0, .slice none 0 0, .int .i64 0]] rfl (by kernel_rfl) (by kernel_rfl) (by kernel_rfl)
      (OpenSpec.preRow_of_cond 8 (x := ([.agg [.nil, .nil, .nil, .lit (.int .i64 0)]], [], [])) (by kernel_rfl) (by kernel_rfl) (fun k hk => by cases hk) (by kernel_rfl) (laidWorld_met os _))) ?_
  intro W base args ds gs before hval hW _ hcond hsz hL _ _
  exact contract H enc W base args ds gs before hval hW hsz hL

theorem said : Rows.StatCostsSaid :=
  OpenClaim.holds_of_cond 4 Tryz.f4 rfl rfl rfl rfl rfl rfl rfl ⟨rfl, rfl, rfl, rfl, rfl⟩ rfl rfl rfl rfl rfl (by kernel_rfl) Tryz.func4 (by kernel_rfl)
    (of_decide_eq_true (by kernel_rfl)) (by unfold Func.isWrapper; first | (rw [if_pos (by decide +kernel)]; kernel_rfl) | (rw [if_neg (by decide +kernel)]; exact ⟨rfl, rfl⟩))
    (fun os started H enc _ F => by rw [OpenClaim.pre_eq_preRow]; exact lifted os started H enc F)

theorem plain (f : FuncId) (fn : Func) (hf : Tryz.pinned.checked.prog.funcNamed Rows.statCostsRow.func = some f) (hfn : Tryz.pinned.checked.prog.funcs[f]? = some fn) :
    true = Tryz.pinned.checked.prog.looks [] ∧ ∀ (j : Nat) t, fn.params[j]? = some t → Tryz.pinned.checked.prog.wantsStandIn t = false := by
  obtain rfl : f = 4 := Option.some.inj ((show Tryz.prog.funcNamed Rows.statCostsRow.func = some 4 by kernel_rfl).symm.trans hf) |>.symm
  obtain rfl : fn = Tryz.f4 := (Option.some.inj (Tryz.func4.symm.trans hfn)).symm
  refine ⟨by kernel_rfl, fun j t ht => ?_⟩
  rw [Tryz.params4] at ht
  have hm : t = 38 := by simpa using Array.mem_of_getElem? ht
  rcases hm with rfl
  · exact (show Tryz.prog.wantsStandIn 38 = false by kernel_rfl)

theorem card : Rows.StatCostsCardSaid :=
  Claim7.holds_tied_plain_at .later [] _ _ _ _ said (fun _ h => by cases h) (by kernel_rfl) (fun _ h => by cases h) statCosts_row_tie rfl ⟨rfl, rfl⟩ (by kernel_rfl) rfl plain (by kernel_rfl)
end Go.Proofs.YthnibchlgcgalaaGreatDoor.statCosts
