/-
  PROVED: the card of HunksMore: for every list of changes, every two lists of strings and every three integers HunksMore returns true, and all reads afterwards as it read before; the card ties what errors.errorType holds (and two tables of unicode/utf8, which the proof does not use) to the program's text (a pruned copy of the project: the packages that this law loads).
-/
import Derived.Test.YtddmfdjkkikapaaGreatDoorOp
import Derived.Test.YtddmfdjkkikapaaGreatDoorHx
namespace Go.Proofs.YtddmfdjkkikapaaGreatDoor.hunksMore
open Go.ChangeShapes Go.WideShapes Go.ChangeAt Go.RowKit
open Go.ChangeMaps (open_string shut_string)
open Hu (Rw Hk)
open Ed (Ch)

theorem walk (v0 : Value) (s : List Ch) (v1 : Value) (a : List ByteArray) (v2 : Value) (b : List ByteArray) (ctx more at' : Int) (w : World) (hr : RdC w v0 s) (hwf : ∀ c ∈ s, WfC c) (hl : s.length ≤ 4398046510976) (hsh : ArgS v0)
    (ha : RdT w v1 a) (hsa : ∀ c ∈ a, SzS c) (hla : a.length ≤ 8796093021952) (hsA : ArgS v1) (hb : RdT w v2 b) (hsb : ∀ c ∈ b, SzS c) (hlb : b.length ≤ 8796093021952) (hsB : ArgS v2) (_ : -9223372036854775808 ≤ more ∧ more ≤ 9223372036854775807) (_ : -9223372036854775808 ≤ at' ∧ at' ≤ 9223372036854775807) (hg : Rdy w) :
    Calls Tryz.prog 5 #[.agg #[v0, v1, v2, .int .i64 ctx], .int .i64 more, .int .i64 at'] w fun e w' => e = .returned (.bool true) ∧ Below w.heap.size w w' := hunksMore_walk v0 s v1 a v2 b ctx more at' w hr hwf hl hsh ha hsa hla hsA hb hsb hlb hsB hg.err

theorem own : ownKnob Tryz.prog.godebug = none := by kernel_rfl

set_option maxRecDepth 100000 in
theorem contract (H : Type) (enc : TypeId × Value → H) (W : World) (base : Nat) (args : Array Value) (ds gs : List (DataW H)) (before : List MemPlace)
    (hval : ∀ (j : Nat) t v, Tryz.f5.params[j]? = some t → args[j]? = some v → Value.okWide Tryz.prog W .any base t v)
    (hW : DataW.Whole enc Tryz.prog Tryz.f5.params.toList Rows.hunksMoreSpec.vars false W args.toList ds gs before)
    (hsz : (DataW.weightsEach Tryz.prog (Tryz.f5.params.toList ++ Rows.hunksMoreSpec.plain.varTypes Tryz.prog) (ds ++ gs)).all (· ≤ reachBytes) = true)
    (hL : laidMetH Tryz.prog Rows.hunksMoreRow.laid W)
    (hSh : W.ShapedOpen Tryz.prog)
    : Calls Tryz.prog 5 args W fun e W' => ∃ v, e = .returned v ∧ Rows.hunksMoreSpec.post enc Tryz.prog Tryz.f5 false true false false W args v W' := by
  have hW' := hW
  obtain ⟨p, q, hA0, hV, rfl, hfz, hnd⟩ := hW
  have hA : DataW.TrodAll enc Tryz.prog W 0 (fun _ => true) true Tryz.f5.params.toList args.toList ds p := hA0
  rw [Tryz.params5] at hA hval hsz
  obtain ⟨v0, vs0, d0, ds0, p0, q0, hargs0, rfl, rfl, h0, r0⟩ := trodAll_cons hA
  obtain ⟨v1, vs1, d1, ds1, p1, q1, hargs1, rfl, rfl, h1, r1⟩ := trodAll_cons r0
  obtain ⟨v2, vs2, d2, ds2, p2, q2, hargs2, rfl, rfl, h2, r2⟩ := trodAll_cons r1
  obtain ⟨rfl, rfl, rfl⟩ := trodAll_nil r2
  obtain rfl : args = #[v0, v1, v2] := by cases args; simp_all
  obtain ⟨rfl, rfl⟩ := trodVars_none hV
  obtain ⟨v0_0, x0_0, v0_1, x0_1, v0_2, x0_2, x0_3, rfl, hr0_0, hw0_0, hs0_0, hr0_1, hw0_1, hs0_1, hr0_2, hw0_2, hs0_2, hq0⟩ := open_job h0
  obtain ⟨x1, rfl, rfl, rfl, hmax1⟩ := open_int Tryz.underlying3 (hval 1 3 v1 rfl rfl) h1
  obtain ⟨x2, rfl, rfl, rfl, hmax2⟩ := open_int Tryz.underlying3 (hval 2 3 v2 rfl rfl) h2
  have hlen0 := hq0 (List.all_eq_true.2 fun n hn => List.all_eq_true.1 hsz n (DataW.weights_mem_each (j := 0) (t := 25) rfl rfl n (by simpa [DataW.weightsEach] using hn)))
  clear hA0 hsz
  simp only [List.append_nil] at hW'
  have hlt0 : ∀ x ∈ p0, x.block < W.heap.size := fun x hx => by simpa using hW'.lt x (by simp [hx])
  refine (walk v0_0 x0_0 v0_1 x0_1 v0_2 x0_2 x0_3 x1 x2 W hr0_0 hw0_0 hlen0.1 hs0_0 hr0_1 hw0_1 hlen0.2.1 hs0_1 hr0_2 hw0_2 hlen0.2.2 hs0_2 (wf_range hmax1) (wf_range hmax2) ⟨handle_of hL, max_of hSh⟩).mono fun e W' ⟨he, hb⟩ => ?_
  subst he
  exact ⟨_, rfl, _, _, _, [], (p0 ++ ([] ++ ([] ++ []))), [], hW', trodAll_cons_mk (shut_bool Tryz.underlying4 _) trodAll_mk0, trodAll_cons_mk (Below.trod laidOut (by kernel_rfl) (of_decide_eq_true (by kernel_rfl)) h0 hb hlt0) (trodAll_cons_mk (shut_int Tryz.underlying3 hmax1) (trodAll_cons_mk (shut_int Tryz.underlying3 hmax2) trodAll_mk0)), rfl, hb.frame _, fun h => by cases h⟩

set_option maxRecDepth 100000 in
theorem lifted (os : Os) (started : os.Started) (H : Type) (enc : TypeId × Value → H) (F : Stop.Interp) :
    ReturnsInHanded {} Tryz.checked os 5 .any ((OpenSpec.ofChange Rows.hunksMoreSpec).preRow enc Tryz.prog Tryz.f5 Rows.hunksMoreRow.domain false Rows.hunksMoreRow.laid) (((OpenSpec.ofChange Rows.hunksMoreSpec).at F).post enc Tryz.prog Tryz.f5 false true false false) := by
  refine returnsInHanded_of_row (C := Tryz.checked) (s := OpenSpec.ofChange Rows.hunksMoreSpec) own started (by kernel_rfl) Tryz.func5
    (witness_row_at (enc := enc) (C := Tryz.checked) false
      { World.holding Tryz.prog os ⟨#[], #[], []⟩ with heap := ((((World.holding Tryz.prog os ⟨#[], #[], []⟩).heap.modify 0 fun
          | .cells _ t frozen => .cells #[.iface 157 (.agg #[.pointer (some ⟨4, 28, none⟩)])] t frozen
          | o => o).modify 2 fun
          | .cells _ t frozen => .cells firstCells t frozen
          | o => o).modify 3 fun
          | .cells _ t frozen => .cells rangeCells t frozen
          | o => o) }
      #[.agg #[.slice none 0 0, .slice none 0 0, .slice none 0 0, .int .i64 0], .int .i64 0, .int .i64 0] rfl (by kernel_rfl) (by kernel_rfl) (by kernel_rfl)
      (OpenSpec.preRow_of_cond 8 (x := ([.agg [.nil, .nil, .nil, .lit (.int .i64 0)], .lit (.int .i64 0), .lit (.int .i64 0)], [], [])) (by kernel_rfl) (by kernel_rfl) (fun k hk => by cases hk) (by kernel_rfl) (laidMetH_of_parts (laidMet_of_run' 300 (by kernel_rfl) (by kernel_rfl)) (by kernel_rfl)))) ?_
  intro W base args ds gs before hval hW _ hcond hsz hL hSh _
  exact contract H enc W base args ds gs before hval hW hsz hL hSh

theorem said : Rows.HunksMoreSaid :=
  OpenClaim.holds_of_cond 5 Tryz.f5 rfl rfl rfl rfl rfl rfl rfl ⟨rfl, rfl, rfl, rfl, rfl⟩ rfl rfl rfl rfl rfl (by kernel_rfl) Tryz.func5 (by kernel_rfl)
    (of_decide_eq_true (by kernel_rfl)) (by unfold Func.isWrapper; first | (rw [if_pos (by decide +kernel)]; kernel_rfl) | (rw [if_neg (by decide +kernel)]; exact ⟨rfl, rfl⟩))
    (fun os started H enc _ F => by rw [OpenClaim.pre_eq_preRow]; exact lifted os started H enc F)

theorem plain (f : FuncId) (fn : Func) (hf : Tryz.pinned.checked.prog.funcNamed Rows.hunksMoreRow.func = some f) (hfn : Tryz.pinned.checked.prog.funcs[f]? = some fn) :
    true = Tryz.pinned.checked.prog.looks [] ∧ ∀ (j : Nat) t, fn.params[j]? = some t → Tryz.pinned.checked.prog.wantsStandIn t = false := by
  obtain rfl : f = 5 := Option.some.inj ((show Tryz.prog.funcNamed Rows.hunksMoreRow.func = some 5 by kernel_rfl).symm.trans hf) |>.symm
  obtain rfl : fn = Tryz.f5 := (Option.some.inj (Tryz.func5.symm.trans hfn)).symm
  refine ⟨by kernel_rfl, fun j t ht => ?_⟩
  rw [Tryz.params5] at ht
  have hm : t = 25 ∨ t = 3 := by simpa using Array.mem_of_getElem? ht
  rcases hm with rfl | rfl
  · exact (show Tryz.prog.wantsStandIn 25 = false by kernel_rfl)
  · exact (show Tryz.prog.wantsStandIn 3 = false by kernel_rfl)

theorem card : Rows.HunksMoreCardSaid :=
  Claim7.holds_tied_plain_at .later [] _ _ _ _ said (fun _ h => by cases h) (by kernel_rfl) (fun _ h => by cases h) hunksMore_row_tie rfl ⟨rfl, rfl⟩ (by kernel_rfl) rfl plain (by kernel_rfl)
end Go.Proofs.YtddmfdjkkikapaaGreatDoor.hunksMore
