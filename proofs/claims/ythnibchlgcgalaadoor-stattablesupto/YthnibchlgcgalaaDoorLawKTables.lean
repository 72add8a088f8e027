/-
  PROVED: the card of StatTables, up to the bulk: for every list of counts that reads less than the bulk and every integer StatTables returns true (the table and the last line, or the error, are what the document asks), and nothing else changes. (The card: the row lists four package-level variables, of which the proof uses errors.errorType and the table of powers of ten.)
-/
import Derived.Test.YthnibchlgcgalaaDoorBl
import Derived.Test.YthnibchlgcgalaaDoorBc
import Derived.Test.YthnibchlgcgalaaDoorBw
import Derived.Test.YthnibchlgcgalaaDoorHw
namespace Go.Proofs.YthnibchlgcgalaaDoor.statTables
open Go.ChangeShapes Go.WideShapes Go.ChangeAt Go.RowKit
open Go.ChangeMaps (open_string shut_string)
open Sx

theorem q_len (c : Ct) (h : c.nm.size ≤ 1048576) : (q c).length ≤ 4194306 := by
  have h1 := Pq.quote_len c.nm.data.toList
  rw [dsize] at h1
  unfold q
  omega
set_option maxHeartbeats 4000000 in
set_option maxRecDepth 100000 in
theorem walk (v : Value) (l : List Ct) (width : Int) (w : World) (hr : RdK w v l) (_hw : ∀ c ∈ l, WfK c) (hl : l.length ≤ 1048576) (hz : ∀ c ∈ l, c.nm.size ≤ 1048576) (_hsh : v = .slice none 0 0 ∨ ∃ ad n c, v = .slice (some ad) n c) (hi : -9223372036854775808 ≤ width ∧ width ≤ 9223372036854775807) (hg : RdyK w) :
    Calls Tryd.prog 4 #[v, .int .i64 width] w fun e w' => e = .returned (.bool true) ∧ Below w.heap.size w w' := by
  have hnW : nameW l ≤ 4194306 := nameW_bound fun x hx => q_len x (hz x hx)
  have hbig : okL l = true → l.length * (nameW l + 2100) + nameW l ≤ 70368744177664 := fun h => by
    have h1 := (okL_iff.1 h).1
    have h2 : l.length * (nameW l + 2100) ≤ 65536 * (4194306 + 2100) := Nat.mul_le_mul h1 (by omega)
    omega
  have hs : ∀ x ∈ l, x.nm.size ≤ 35184371999999 := fun x hx => Nat.le_trans (hz x hx) (by decide)
  have HG := hid hg
  have HM := hid (fun w' (h : Below w.heap.size w w') => mine_any (RdX.below hr h) (by omega))
  have HA := hid (fun w' (u : Value) (h : Below w.heap.size w w') (hu : RdK w' u l) => table_any width hu (by omega) (HG.out.1.later h) hs hbig hi)
  have HB := hid (fun w' (h : Below w.heap.size w w') => rTable_any width (RdX.below hr h) (by omega) hs hbig hi)
  have HC := hid (fun w' (u : Value) (h : Below w.heap.size w w') (hu : RdK w' u l) => total_any hu (by omega) (HG.out.1.later h))
  have HD := hid (fun w' (h : Below w.heap.size w w') => rTotal_any (RdX.below hr h) (by omega))
  have HW := hid (fun w' (h : Below w.heap.size w w') => Sx.works_any w' (HG.out.2.below h) (HG.out.1.later h))
  have HN1 : Hid (∀ w', Below w.heap.size w w' → Calls Tryd.prog 15 #[tabE l width] w' fun e w2 => e = .returned (.int .i64 (tabN l width)) ∧ Below w'.heap.size w' w2) := hid (fun w' h => by
    cases hh : tabOk l width with
    | false => rw [(tab_no hh).2, tabN_no hh]; exact num_errno 1 w' (HG.out.2.below h)
    | true => rw [(tab_yes hh).2, tabN_yes hh]; exact num_nil w')
  have HN2 : Hid (∀ w', Below w.heap.size w w' → Calls Tryd.prog 15 #[allE l] w' fun e w2 => e = .returned (.int .i64 (rtN l)) ∧ Below w'.heap.size w' w2) := hid (fun w' h => by
    cases hh : okL l with
    | false => rw [(all_no hh).2, show rtN l = 1 from by unfold rtN; rw [hh]; rfl]; exact num_errno 1 w' (HG.out.2.below h)
    | true => rw [(all_yes hh).2, show rtN l = 0 from by unfold rtN; rw [hh]; rfl]; exact num_nil w')
  obtain ⟨a, c, rfl⟩ := hr.shape
  obtain ⟨n, hnn⟩ : ∃ n, n = l.length := ⟨_, rfl⟩
  have HNN := hid hnn
  rw [← hnn] at HM HB HD ⊢
  clear hr _hw hl hz _hsh hi hg hnW hbig hs hnn
  generalize tabE l width = e1 at HA HN1
  generalize tabN l width = k1 at HB HN1
  generalize allE l = e2 at HC HN2
  generalize rtN l = k2 at HD HN2
  generalize tabS l width = S1 at HA HB
  generalize totS l = S2 at HC HD
  have z3 : (k1 == k1) = true := zeq rfl
  have z4 : (k2 == k2) = true := zeq rfl
  go_enter Tryd.func4, Tryd.ntmps4
  go_wp2_with fail
  refine (HM.out w (Below.refl _ _)).mono ?_
  rintro e w1 ⟨v1, rfl, hO1, hb1⟩
  obtain ⟨a1, c1, rfl⟩ := own_shape hO1
  have HB1 := hid hb1
  have HA1 := hid (HA.out w1 _ hb1 (own_rd hO1))
  rw [← HNN.out] at HA1 ⊢
  clear hO1 hb1 HA
  go_wp2_with fail
  refine HA1.out.mono ?_
  rintro e w2 ⟨rfl, hb2⟩
  have HB2 := hid (HB1.out.trans (hb2.mono HB1.out.size))
  clear hb2 HA1 HB1
  go_wp2_with fail
  refine (HB.out w2 HB2.out).mono ?_
  rintro e w3 ⟨rfl, hb3⟩
  have HB3 := hid (HB2.out.trans (hb3.mono HB2.out.size))
  clear hb3 HB HB2
  go_wp2_with fail
  refine (HM.out w3 HB3.out).mono ?_
  rintro e w4 ⟨v4, rfl, hO4, hb4⟩
  obtain ⟨a4, c4, rfl⟩ := own_shape hO4
  have HB4 := hid (HB3.out.trans (hb4.mono HB3.out.size))
  have HC4 := hid (HC.out w4 _ HB4.out (own_rd hO4))
  rw [← HNN.out] at HC4 ⊢
  clear hO4 hb4 HC HM HB3
  go_wp2_with fail
  refine HC4.out.mono ?_
  rintro e w5 ⟨rfl, hb5⟩
  have HB5 := hid (HB4.out.trans (hb5.mono HB4.out.size))
  clear hb5 HC4 HB4
  go_wp2_with fail
  refine (HD.out w5 HB5.out).mono ?_
  rintro e w6 ⟨rfl, hb6⟩
  have HB6 := hid (HB5.out.trans (hb6.mono HB5.out.size))
  clear hb6 HD HB5
  go_wp2_with fail
  refine (HN1.out w6 HB6.out).mono ?_
  rintro e w7 ⟨rfl, hb7⟩
  have HB7 := hid (HB6.out.trans (hb7.mono HB6.out.size))
  clear hb7 HN1 HB6
  go_wp2_with fail
  refine (HN2.out w7 HB7.out).mono ?_
  rintro e w8 ⟨rfl, hb8⟩
  have HB8 := hid (HB7.out.trans (hb8.mono HB7.out.size))
  clear hb8 HN2 HB7
  go_wp2_with fail
  refine (HW.out w8 HB8.out).mono ?_
  rintro e w9 ⟨rfl, hb9⟩
  have HB9 := hid (HB8.out.trans (hb9.mono HB8.out.size))
  clear hb9
  go_wp2_with fail
  go_ret
  exact ⟨rfl, HB9.out⟩

theorem own : ownKnob Tryd.prog.godebug = none := by kernel_rfl

set_option maxRecDepth 100000 in
theorem contract (H : Type) (enc : TypeId × Value → H) (W : World) (base : Nat) (args : Array Value) (ds gs : List (DataW H)) (before : List MemPlace)
    (hval : ∀ (j : Nat) t v, Tryd.f4.params[j]? = some t → args[j]? = some v → Value.okWide Tryd.prog W .any base t v)
    (hW : DataW.Whole enc Tryd.prog Tryd.f4.params.toList Rows.statTablesSpec.vars false W args.toList ds gs before)
    (hk : Rows.uptoSmall H (ds ++ gs) = true)
    (hL : laidMetH Tryd.prog Rows.statTablesUptoRow.laid W)
    : Calls Tryd.prog 4 args W fun e W' => ∃ v, e = .returned v ∧ Rows.statTablesSpec.post enc Tryd.prog Tryd.f4 false true false false W args v W' := by
  have hW' := hW
  obtain ⟨p, q, hA0, hV, rfl, hfz, hnd⟩ := hW
  have hA : DataW.TrodAll enc Tryd.prog W 0 (fun _ => true) true Tryd.f4.params.toList args.toList ds p := hA0
  rw [Tryd.params4] at hA hval
  obtain ⟨v0, vs0, d0, ds0, p0, q0, hargs0, rfl, rfl, h0, r0⟩ := trodAll_cons hA
  obtain ⟨v1, vs1, d1, ds1, p1, q1, hargs1, rfl, rfl, h1, r1⟩ := trodAll_cons r0
  obtain ⟨rfl, rfl, rfl⟩ := trodAll_nil r1
  obtain rfl : args = #[v0, v1] := by cases args; simp_all
  obtain ⟨rfl, rfl⟩ := trodVars_none hV
  obtain ⟨x0, hr0, hw0, hd0, hsh0⟩ := open_cts (okWide_slice Tryd.underlying28 (hval 0 28 v0 rfl rfl)) h0
  obtain ⟨x1, rfl, rfl, rfl, hmax1⟩ := open_int Tryd.underlying3 (hval 1 3 v1 rfl rfl) h1
  clear hA0
  simp only [List.append_nil] at hW' hk
  have hk' : Rows.uptoBulkAll (H := H) [d0, DataW.lit (.int .i64 x1)] ≤ 1048576 := of_decide_eq_true hk
  simp only [Rows.uptoBulkAll, Rows.uptoBulk] at hk'
  have hbk0 := cts_bulk hd0
  have hlt0 : ∀ x ∈ p0, x.block < W.heap.size := fun x hx => by simpa using hW'.lt x (by simp [hx])
  refine (walk v0 x0 x1 W hr0 hw0 (Nat.le_trans hbk0.1 (by omega)) (fun c hc => Nat.le_trans (hbk0.2 c hc) (by omega)) hsh0 (wf_range hmax1) (ready_of hL)).mono fun e W' ⟨he, hb⟩ => ?_
  subst he
  exact ⟨_, rfl, _, _, _, [], (p0 ++ ([] ++ [])), [], hW', trodAll_cons_mk (shut_bool Tryd.underlying4 _) trodAll_mk0, trodAll_cons_mk (Below.trod laidOut (by kernel_rfl) (of_decide_eq_true (by kernel_rfl)) h0 hb hlt0) (trodAll_cons_mk (shut_int Tryd.underlying3 hmax1) trodAll_mk0), rfl, hb.frame _, fun h => by cases h⟩

set_option maxRecDepth 100000 in
theorem lifted (os : Os) (started : os.Started) (H : Type) (enc : TypeId × Value → H) (F : Stop.Interp) :
    ReturnsInHanded {} Tryd.checked os 4 .any ((Rows.OpenSpec.upto Rows.statTablesSpec).preRow enc Tryd.prog Tryd.f4 Rows.statTablesUptoRow.domain false Rows.statTablesUptoRow.laid) (((Rows.OpenSpec.upto Rows.statTablesSpec).at F).post enc Tryd.prog Tryd.f4 false true false false) := by
  refine returnsInHanded_of_row (C := Tryd.checked) (s := Rows.OpenSpec.upto Rows.statTablesSpec) own started (by kernel_rfl) Tryd.func4
    (witness_row_at (enc := enc) (C := Tryd.checked) false
      (laidWorld os)
      #[.slice none 0 0, .int .i64 0] rfl (by kernel_rfl) (by kernel_rfl) (by kernel_rfl)
      (OpenSpec.preRow_of_cond 8 (x := ([.nil, .lit (.int .i64 0)], [], [])) (by kernel_rfl) (by kernel_rfl) (fun k hk => by cases hk; kernel_rfl) (by kernel_rfl) (laidWorld_met os _))) ?_
  intro W base args ds gs before hval hW _ hcond hsz hL _ _
  exact contract H enc W base args ds gs before hval hW (hcond _ rfl) hL

theorem said : Rows.StatTablesUptoSaid :=
  OpenClaim.holds_of_cond 4 Tryd.f4 rfl rfl rfl rfl rfl rfl rfl ⟨rfl, rfl, rfl, rfl, rfl⟩ rfl rfl rfl rfl rfl (by kernel_rfl) Tryd.func4 (by kernel_rfl)
    (of_decide_eq_true (by kernel_rfl)) (by unfold Func.isWrapper; first | (rw [if_pos (by decide +kernel)]; kernel_rfl) | (rw [if_neg (by decide +kernel)]; exact ⟨rfl, rfl⟩))
    (fun os started H enc _ F => by rw [OpenClaim.pre_eq_preRow]; exact lifted os started H enc F)

theorem plain (f : FuncId) (fn : Func) (hf : Tryd.pinned.checked.prog.funcNamed Rows.statTablesUptoRow.func = some f) (hfn : Tryd.pinned.checked.prog.funcs[f]? = some fn) :
    true = Tryd.pinned.checked.prog.looks [] ∧ ∀ (j : Nat) t, fn.params[j]? = some t → Tryd.pinned.checked.prog.wantsStandIn t = false := by
  obtain rfl : f = 4 := Option.some.inj ((show Tryd.prog.funcNamed Rows.statTablesUptoRow.func = some 4 by kernel_rfl).symm.trans hf) |>.symm
  obtain rfl : fn = Tryd.f4 := (Option.some.inj (Tryd.func4.symm.trans hfn)).symm
  refine ⟨by kernel_rfl, fun j t ht => ?_⟩
  rw [Tryd.params4] at ht
  have hm : t = 28 ∨ t = 3 := by simpa using Array.mem_of_getElem? ht
  rcases hm with rfl | rfl
  · exact (show Tryd.prog.wantsStandIn 28 = false by kernel_rfl)
  · exact (show Tryd.prog.wantsStandIn 3 = false by kernel_rfl)

theorem card : Rows.StatTablesUptoCardSaid :=
  Claim7.holds_tied_plain_at .later [] _ _ _ _ said (fun _ h => by cases h) (by kernel_rfl) (fun _ h => by cases h) statTablesUpto_row_tie rfl ⟨rfl, rfl⟩ (by kernel_rfl) rfl plain (by kernel_rfl)
end Go.Proofs.YthnibchlgcgalaaDoor.statTables
