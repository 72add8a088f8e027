/-
  PROVED: the card of GlobAny: for every list of strings and every string GlobAny returns true, and both read afterwards as they read before; the card ties what errors.errorType holds to the program's text (a pruned copy of the project: the packages that this law loads).
-/
import Derived.Test.YtialioefecpbpaaDoorGl
import Derived.Test.YtialioefecpbpaaDoorHandle
import Derived.Carry
namespace Go.Proofs.YtialioefecpbpaaDoor.globAny
open Go.ChangeShapes Go.WideShapes Go.ChangeAt Go.RowKit
open Go.ChangeMaps (open_string shut_string)

set_option maxHeartbeats 4000000 in
set_option maxRecDepth 100000 in
theorem walk (v : Value) (xs : List ByteArray) (n : ByteArray) (w : World) (hr : Rd w v xs) (hN : xs.length * 16 ≤ 140737488351232) (_hsh : v = .slice none 0 0 ∨ ∃ ad n c, v = .slice (some ad) n c) (hn : n.size ≤ 140737488351232) (hg : ErrVar w) :
    Calls Tryd.prog 5 #[v, .string n] w fun e w' => e = .returned (.bool true) ∧ Below w.heap.size w w' := by
  have HG := hid hg
  have HR := hid hr
  have hN' : xs.length ≤ 140737488355328 := by omega
  clear hg hr _hsh
  have hnum := anyF_num n.data.toList xs false
  have H1 := fun W (h : Rd W v xs) => hid (any_any n h hN' hn)
  have H2 := fun W (h : Rd W v xs) => hid (refAny_any n h hN' hn)
  generalize anyF n.data.toList false xs = R at hnum H1 H2
  obtain ⟨b, m⟩ := R
  obtain ⟨a, c, rfl⟩ := HR.out.shape
  have hnum : m = 0 ∨ m = 2 ∨ m = 40 := hnum
  rcases hnum with rfl | rfl | rfl
  · cases b
    all_goals
      go_enter Tryd.func5, Tryd.ntmps5
      go_wp2_with fail
      refine (H1 _ HR.out).out.mono ?_
      rintro e w1 ⟨rfl, hb1⟩
      rw [show erT 0 = .nilIface from rfl]
      have HR1 := hid (HR.out.below hb1)
      have HG1 := hid (HG.out.below hb1)
      clear HG HR
      go_wp2_with fail
      refine (H2 _ HR1.out).out.mono ?_
      rintro e w2 ⟨rfl, hb2⟩
      have HG2 := hid (HG1.out.below hb2)
      have hB2 := hb1.trans (hb2.mono hb1.size)
      clear hb1 hb2 HG1 HR1 H1 H2
      go_wp2_with fail
      refine (num_nil _).mono ?_
      rintro e w3 ⟨rfl, hb3⟩
      have HG3 := hid (HG2.out.below hb3)
      have hB3 := hB2.trans (hb3.mono hB2.size)
      clear hb3 HG2 hB2
      go_wp2_with fail
      refine (works_any _ HG3.out).mono ?_
      rintro e w4 ⟨rfl, hb4⟩
      go_wp2
      go_ret
      exact ⟨rfl, hB3.trans (hb4.mono hB3.size)⟩
  · cases b
    all_goals
      go_enter Tryd.func5, Tryd.ntmps5
      go_wp2_with fail
      refine (H1 _ HR.out).out.mono ?_
      rintro e w1 ⟨rfl, hb1⟩
      rw [show erT 2 = .iface 46 (.int .i64 2) from rfl]
      have HR1 := hid (HR.out.below hb1)
      have HG1 := hid (HG.out.below hb1)
      clear HG HR
      go_wp2_with fail
      refine (H2 _ HR1.out).out.mono ?_
      rintro e w2 ⟨rfl, hb2⟩
      have HG2 := hid (HG1.out.below hb2)
      have hB2 := hb1.trans (hb2.mono hb1.size)
      clear hb1 hb2 HG1 HR1 H1 H2
      go_wp2_with fail
      refine (num_errno _ _ HG2.out).mono ?_
      rintro e w3 ⟨rfl, hb3⟩
      have HG3 := hid (HG2.out.below hb3)
      have hB3 := hB2.trans (hb3.mono hB2.size)
      clear hb3 HG2 hB2
      go_wp2_with fail
      refine (works_any _ HG3.out).mono ?_
      rintro e w4 ⟨rfl, hb4⟩
      go_wp2
      go_ret
      exact ⟨rfl, hB3.trans (hb4.mono hB3.size)⟩
  · cases b
    all_goals
      go_enter Tryd.func5, Tryd.ntmps5
      go_wp2_with fail
      refine (H1 _ HR.out).out.mono ?_
      rintro e w1 ⟨rfl, hb1⟩
      rw [show erT 40 = .iface 46 (.int .i64 40) from rfl]
      have HR1 := hid (HR.out.below hb1)
      have HG1 := hid (HG.out.below hb1)
      clear HG HR
      go_wp2_with fail
      refine (H2 _ HR1.out).out.mono ?_
      rintro e w2 ⟨rfl, hb2⟩
      have HG2 := hid (HG1.out.below hb2)
      have hB2 := hb1.trans (hb2.mono hb1.size)
      clear hb1 hb2 HG1 HR1 H1 H2
      go_wp2_with fail
      refine (num_errno _ _ HG2.out).mono ?_
      rintro e w3 ⟨rfl, hb3⟩
      have HG3 := hid (HG2.out.below hb3)
      have hB3 := hB2.trans (hb3.mono hB2.size)
      clear hb3 HG2 hB2
      go_wp2_with fail
      refine (works_any _ HG3.out).mono ?_
      rintro e w4 ⟨rfl, hb4⟩
      go_wp2
      go_ret
      exact ⟨rfl, hB3.trans (hb4.mono hB3.size)⟩

theorem own : ownKnob Tryd.prog.godebug = none := by kernel_rfl

set_option maxRecDepth 100000 in
theorem contract (H : Type) (enc : TypeId × Value → H) (W : World) (base : Nat) (args : Array Value) (ds gs : List (DataW H)) (before : List MemPlace)
    (hval : ∀ (j : Nat) t v, Tryd.f5.params[j]? = some t → args[j]? = some v → Value.okWide Tryd.prog W .any base t v)
    (hW : DataW.Whole enc Tryd.prog Tryd.f5.params.toList Rows.globAnySpec.vars false W args.toList ds gs before)
    (hsz : (DataW.weightsEach Tryd.prog (Tryd.f5.params.toList ++ Rows.globAnySpec.plain.varTypes Tryd.prog) (ds ++ gs)).all (· ≤ reachBytes) = true)
    (hL : laidMetH Tryd.prog Rows.globAnyRow.laid W)
    : Calls Tryd.prog 5 args W fun e W' => ∃ v, e = .returned v ∧ Rows.globAnySpec.post enc Tryd.prog Tryd.f5 false true false false W args v W' := by
  have hW' := hW
  obtain ⟨p, q, hA0, hV, rfl, hfz, hnd⟩ := hW
  have hA : DataW.TrodAll enc Tryd.prog W 0 (fun _ => true) true Tryd.f5.params.toList args.toList ds p := hA0
  rw [Tryd.params5] at hA hval hsz
  obtain ⟨v0, vs0, d0, ds0, p0, q0, hargs0, rfl, rfl, h0, r0⟩ := trodAll_cons hA
  obtain ⟨v1, vs1, d1, ds1, p1, q1, hargs1, rfl, rfl, h1, r1⟩ := trodAll_cons r0
  obtain ⟨rfl, rfl, rfl⟩ := trodAll_nil r1
  obtain rfl : args = #[v0, v1] := by cases args; simp_all
  obtain ⟨rfl, rfl⟩ := trodVars_none hV
  obtain ⟨x0, hr0, hsz0, hd0, hsh0⟩ := open_rd (okWide_slice Tryd.underlying36 (hval 0 36 v0 rfl rfl)) h0
  obtain ⟨x1, rfl, rfl, rfl, hmax1⟩ := open_string Tryd.underlying9 (hval 1 9 v1 rfl rfl) h1
  have hlen0 := rd_sized hsz (j := 0) rfl rfl hd0
  have hlen1 : x1.size ≤ 140737488351232 := by
    have := sized_string hsz (j := 1) (t := 9) rfl rfl
    rwa [size_data] at this
  clear hA0 hsz
  simp only [List.append_nil] at hW'
  have hlt0 : ∀ x ∈ p0, x.block < W.heap.size := fun x hx => by simpa using hW'.lt x (by simp [hx])
  refine (walk v0 x0 x1 W hr0 hlen0 hsh0 hlen1 (handle_of hL)).mono fun e W' ⟨he, hb⟩ => ?_
  subst he
  exact ⟨_, rfl, _, _, _, [], (p0 ++ ([] ++ [])), [], hW', trodAll_cons_mk (shut_bool Tryd.underlying4 _) trodAll_mk0, trodAll_cons_mk (Below.trod laidOut (by kernel_rfl) (of_decide_eq_true (by kernel_rfl)) h0 hb hlt0) (trodAll_cons_mk (shut_string Tryd.underlying9 hmax1) trodAll_mk0), rfl, hb.frame _, fun h => by cases h⟩

set_option maxRecDepth 100000 in
theorem lifted (os : Os) (started : os.Started) (H : Type) (enc : TypeId × Value → H) (F : Stop.Interp) :
    ReturnsInHanded {} Tryd.checked os 5 .any ((OpenSpec.ofChange Rows.globAnySpec).preRow enc Tryd.prog Tryd.f5 Rows.globAnyRow.domain false Rows.globAnyRow.laid) (((OpenSpec.ofChange Rows.globAnySpec).at F).post enc Tryd.prog Tryd.f5 false true false false) := by
  refine returnsInHanded_of_row (C := Tryd.checked) (s := OpenSpec.ofChange Rows.globAnySpec) own started (by kernel_rfl) Tryd.func5
    (witness_row_at (enc := enc) (C := Tryd.checked) false
      { World.holding Tryd.prog os ⟨#[], #[], []⟩ with heap := (World.holding Tryd.prog os ⟨#[], #[], []⟩).heap.modify 0 fun
          | .cells _ t frozen => .cells #[.iface 107 (.agg #[.pointer (some ⟨2, 24, none⟩)])] t frozen
          | o => o }
      #[.slice none 0 0, .string .empty] rfl (by kernel_rfl) (by kernel_rfl) (by kernel_rfl)
      (OpenSpec.preRow_of_cond 8 (x := ([.nil, .lit (.string [])], [], [])) (by kernel_rfl) (by kernel_rfl) (fun k hk => by cases hk) (by kernel_rfl) (laidMetH_of_parts (laidMet_nil _ _) (by kernel_rfl)))) ?_
  intro W base args ds gs before hval hW _ hcond hsz hL _ _
  exact contract H enc W base args ds gs before hval hW hsz hL

theorem said : Rows.GlobAnySaid :=
  OpenClaim.holds_of_cond 5 Tryd.f5 rfl rfl rfl rfl rfl rfl rfl ⟨rfl, rfl, rfl, rfl, rfl⟩ rfl rfl rfl rfl rfl (by kernel_rfl) Tryd.func5 (by kernel_rfl)
    (of_decide_eq_true (by kernel_rfl)) (by unfold Func.isWrapper; first | (rw [if_pos (by decide +kernel)]; kernel_rfl) | (rw [if_neg (by decide +kernel)]; exact ⟨rfl, rfl⟩))
    (fun os started H enc _ F => by rw [OpenClaim.pre_eq_preRow]; exact lifted os started H enc F)

theorem plain (f : FuncId) (fn : Func) (hf : Tryd.pinned.checked.prog.funcNamed Rows.globAnyRow.func = some f) (hfn : Tryd.pinned.checked.prog.funcs[f]? = some fn) :
    true = Tryd.pinned.checked.prog.looks [] ∧ ∀ (j : Nat) t, fn.params[j]? = some t → Tryd.pinned.checked.prog.wantsStandIn t = false := by
  obtain rfl : f = 5 := Option.some.inj ((show Tryd.prog.funcNamed Rows.globAnyRow.func = some 5 by kernel_rfl).symm.trans hf) |>.symm
  obtain rfl : fn = Tryd.f5 := (Option.some.inj (Tryd.func5.symm.trans hfn)).symm
  refine ⟨by kernel_rfl, fun j t ht => ?_⟩
  rw [Tryd.params5] at ht
  have hm : t = 36 ∨ t = 9 := by simpa using Array.mem_of_getElem? ht
  rcases hm with rfl | rfl
  · exact (show Tryd.prog.wantsStandIn 36 = false by kernel_rfl)
  · exact (show Tryd.prog.wantsStandIn 9 = false by kernel_rfl)

theorem card : Rows.GlobAnyCardSaid :=
  Claim7.holds_tied_plain_at .later [] _ _ _ _ said (fun _ h => by cases h) (by kernel_rfl) (fun _ h => by cases h) globAny_row_tie rfl ⟨rfl, rfl⟩ (by kernel_rfl) rfl plain (by kernel_rfl)
end Go.Proofs.YtialioefecpbpaaDoor.globAny
