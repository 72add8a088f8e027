/-
  PROVED: the card of GlobBytes: for every string GlobBytes returns true, and it reads afterwards as it read before; the card ties what errors.errorType holds to the program's text (a pruned copy of the project: the packages that this law loads).
-/
import Derived.Test.YtialioefecpbpaaDoorRv
import Derived.Test.YtialioefecpbpaaDoorHandle
namespace Go.Proofs.YtialioefecpbpaaDoor.globBytes
open Go.ChangeShapes Go.WideShapes Go.ChangeAt Go.RowKit
open Go.ChangeMaps (open_string shut_string)

/-- a string of one byte -/
def oneB (j : Nat) : ByteArray := ⟨#[UInt8.ofNat j]⟩
theorem size_one (j : Nat) : (oneB j).size = 1 := rfl
theorem conv_one (w : World) (j : Nat) (hj : j < 256) : (convert 35 9 (.slice (some ⟨w.heap.size, 0, none⟩) 1 1)).run Tryd.prog (w.alloc (.cells #[.int .u8 j] 5)) = .ok (.string (oneB j)) (w.alloc (.cells #[.int .u8 j] 5)) := by
  have e : (UInt8.ofNat j).toNat = j := by rw [UInt8.toNat_ofNat']; omega
  refine conv_own (base := w.heap.size) (l := [UInt8.ofNat j]) ⟨rfl, .inr ⟨w.heap.size, 1, #[.int .u8 j], rfl, Nat.le_refl _, heap_alloc_new _ _, Nat.le_refl _, by unfold maxLen; omega, rfl, ?_⟩⟩
  simp [Lib.byteCells, e]

set_option maxHeartbeats 4000000 in
set_option maxRecDepth 100000 in
theorem walk (s : ByteArray) (w : World) (_hs : s.size ≤ 140737488351232) (hg : ErrVar w) :
    Calls Tryd.prog 4 #[.string s] w fun e w' => e = .returned (.bool true) ∧ Below w.heap.size w w' := by
  have HG := hid hg
  clear hg
  cases hP : cmp s.data.toList with
  | none =>
    have h2 := cmpN_none hP
    have HC := fun W => hid (cno hP W)
    have HR := fun W => hid (rno hP W)
    generalize cmpN s.data.toList = N at h2 HC HR
    clear hP
    rcases h2 with rfl | rfl
    all_goals
      go_enter Tryd.func4, Tryd.ntmps4
      go_wp2_with fail
      refine (HC _).out.mono ?_
      rintro e w1 ⟨rfl, hb1⟩
      go_wp2_with fail
      refine (HR _).out.mono ?_
      rintro e w2 ⟨rfl, hb2⟩
      have hB2 := hb1.trans (hb2.mono hb1.size)
      have HG2 := hid ((HG.out.below hb1).below hb2)
      clear hb1 hb2 HG HC HR
      go_wp2_with fail
      refine (num_errno _ _ HG2.out).mono ?_
      rintro e w3 ⟨rfl, hb3⟩
      have HG3 := hid (HG2.out.below hb3)
      have hB3 := hB2.trans (hb3.mono hB2.size)
      clear hb3 HG2 hB2
      go_wp2
      refine wp_loop_rounds 1 ?_
      rw [rounds_succ]
      go_wp2_with fail
      refine (works_any _ HG3.out).mono ?_
      rintro e w4 ⟨rfl, hb4⟩
      go_wp2
      go_ret
      exact ⟨rfl, hB3.trans (hb4.mono hB3.size)⟩
  | some P =>
    have hPl := (cmp_some hP).2.2
    have HP := hid hP
    clear hP
    go_enter Tryd.func4, Tryd.ntmps4
    go_wp2_with fail
    refine (cyes HP.out _).mono ?_
    rintro e w1 ⟨bg, rfl, hA, hb1⟩
    have HA := hid hA
    clear hA
    go_wp2_with fail
    refine (ryes HP.out _).mono ?_
    rintro e w2 ⟨v, rfl, hO, hb2⟩
    have hB2 := hb1.trans (hb2.mono hb1.size)
    have HG2 := hid ((HG.out.below hb1).below hb2)
    have HA2 := hid (HA.out.later hb2)
    have HO2 := hid hO
    clear hb1 hb2 HG HA hO
    go_wp2_with fail
    refine (num_nil _).mono ?_
    rintro e w3 ⟨rfl, hb3⟩
    have HG3 := hid (HG2.out.below hb3)
    have HA3 := hid (HA2.out.later hb3)
    have HO3 := hid (HO2.out.stays hb3)
    have hB3 := hB2.trans (hb3.mono hB2.size)
    clear hb3 HG2 hB2 HA2 HO2
    go_wp2
    go_loopw [7] (fun t wr => ∃ j : Nat, j ≤ 256 ∧ t = .int .i64 j ∧ Below w.heap.size w wr ∧ GlobAt wr bg P ∧ OwnP wr w1.heap.size v P ∧ ErrVar wr) (fun t _ => 256 - (intOf t).toNat)
    case atStart => exact ⟨0, Nat.zero_le _, rfl, hB3, HA3.out, HO3.out, HG3.out⟩
    case round =>
      obtain ⟨j, hj, rfl, hb, hA, hO, hE⟩ := hrel
      have HA := hid hA
      have HO := hid hO
      have HE := hid hE
      have hz := hb.size
      clear hA hO hE HG3 HA3 HO3 hB3
      by_cases hjl : j < 256
      · have hcv := conv_one wr j hjl
        have hl1 := size_one j
        have hWd : Below wr.heap.size wr (wr.alloc (.cells #[.int .u8 j] 5)) := (Below.refl _ _).alloc (Nat.le_refl _) _
        have HA1 := hid (HA.out.later hWd)
        have HO1 := hid (HO.out.stays hWd)
        have HE1 := hid (HE.out.below hWd)
        have hb1 := hb.trans (hWd.mono hz)
        clear hWd HA HO HE
        go_wp2_with fail
        refine (match_any (oneB j) HA1.out (by omega) (by omega)).mono ?_
        rintro e w4 ⟨rfl, hb4⟩
        have HE4 := hid (HE1.out.below hb4)
        have HA4 := hid (HA1.out.later hb4)
        have HO4 := hid (HO1.out.stays hb4)
        have hB4 := hb1.trans (hb4.mono hb1.size)
        clear hb4 HE1 HA1 HO1 hb1
        go_wp2_with fail
        refine (refMatch_any (oneB j) HO4.out (by omega) hPl).mono ?_
        rintro e w5 ⟨rfl, hb5⟩
        have HE5 := hid (HE4.out.below hb5)
        have HA5 := hid (HA4.out.later hb5)
        have HO5 := hid (HO4.out.stays hb5)
        have hB5 := hB4.trans (hb5.mono hB4.size)
        clear hb5 HE4 HA4 HO4 hB4 hcv hl1
        generalize Pg.mt P (oneB j).data.toList = B
        cases B
        all_goals
          go_wp2
          go_roundw
          case rel => exact ⟨j + 1, by omega, by go_num, hB5, HA5.out, HO5.out, HE5.out⟩
          case measure => simp [intOf]; omega
      · go_wp2_with fail
        refine (works_any _ HE.out).mono ?_
        rintro e w6 ⟨rfl, hb6⟩
        go_wp2
        go_ret
        exact ⟨rfl, hb.trans (hb6.mono hb.size)⟩

theorem own : ownKnob Tryd.prog.godebug = none := by kernel_rfl

set_option maxRecDepth 100000 in
theorem contract (H : Type) (enc : TypeId × Value → H) (W : World) (base : Nat) (args : Array Value) (ds gs : List (DataW H)) (before : List MemPlace)
    (hval : ∀ (j : Nat) t v, Tryd.f4.params[j]? = some t → args[j]? = some v → Value.okWide Tryd.prog W .any base t v)
    (hW : DataW.Whole enc Tryd.prog Tryd.f4.params.toList Rows.globBytesSpec.vars false W args.toList ds gs before)
    (hsz : (DataW.weightsEach Tryd.prog (Tryd.f4.params.toList ++ Rows.globBytesSpec.plain.varTypes Tryd.prog) (ds ++ gs)).all (· ≤ reachBytes) = true)
    (hL : laidMetH Tryd.prog Rows.globBytesRow.laid W)
    : Calls Tryd.prog 4 args W fun e W' => ∃ v, e = .returned v ∧ Rows.globBytesSpec.post enc Tryd.prog Tryd.f4 false true false false W args v W' := by
  have hW' := hW
  obtain ⟨p, q, hA0, hV, rfl, hfz, hnd⟩ := hW
  have hA : DataW.TrodAll enc Tryd.prog W 0 (fun _ => true) true Tryd.f4.params.toList args.toList ds p := hA0
  rw [Tryd.params4] at hA hval hsz
  obtain ⟨v0, vs0, d0, ds0, p0, q0, hargs0, rfl, rfl, h0, r0⟩ := trodAll_cons hA
  obtain ⟨rfl, rfl, rfl⟩ := trodAll_nil r0
  obtain rfl : args = #[v0] := by cases args; simp_all
  obtain ⟨rfl, rfl⟩ := trodVars_none hV
  obtain ⟨x0, rfl, rfl, rfl, hmax0⟩ := open_string Tryd.underlying9 (hval 0 9 v0 rfl rfl) h0
  have hlen0 : x0.size ≤ 140737488351232 := by
    have := sized_string hsz (j := 0) (t := 9) rfl rfl
    rwa [size_data] at this
  clear hA0 hsz
  simp only [List.append_nil] at hW'
  refine (walk x0 W hlen0 (handle_of hL)).mono fun e W' ⟨he, hb⟩ => ?_
  subst he
  exact ⟨_, rfl, _, _, _, [], [], [], hW', trodAll_cons_mk (shut_bool Tryd.underlying4 _) trodAll_mk0, trodAll_cons_mk (shut_string Tryd.underlying9 hmax0) trodAll_mk0, rfl, hb.frame _, fun h => by cases h⟩

set_option maxRecDepth 100000 in
theorem lifted (os : Os) (started : os.Started) (H : Type) (enc : TypeId × Value → H) (F : Stop.Interp) :
    ReturnsInHanded {} Tryd.checked os 4 .any ((OpenSpec.ofChange Rows.globBytesSpec).preRow enc Tryd.prog Tryd.f4 Rows.globBytesRow.domain false Rows.globBytesRow.laid) (((OpenSpec.ofChange Rows.globBytesSpec).at F).post enc Tryd.prog Tryd.f4 false true false false) := by
  refine returnsInHanded_of_row (C := Tryd.checked) (s := OpenSpec.ofChange Rows.globBytesSpec) own started (by kernel_rfl) Tryd.func4
    (witness_row_at (enc := enc) (C := Tryd.checked) false
      { World.holding Tryd.prog os ⟨#[], #[], []⟩ with heap := (World.holding Tryd.prog os ⟨#[], #[], []⟩).heap.modify 0 fun
          | .cells _ t frozen => .cells #[.iface 107 (.agg #[.pointer (some ⟨2, 24, none⟩)])] t frozen
          | o => o }
      #[.string .empty] rfl (by kernel_rfl) (by kernel_rfl) (by kernel_rfl)
      (OpenSpec.preRow_of_cond 8 (x := ([.lit (.string [])], [], [])) (by kernel_rfl) (by kernel_rfl) (fun k hk => by cases hk) (by kernel_rfl) (laidMetH_of_parts (laidMet_nil _ _) (by kernel_rfl)))) ?_
  intro W base args ds gs before hval hW _ hcond hsz hL _ _
  exact contract H enc W base args ds gs before hval hW hsz hL

theorem said : Rows.GlobBytesSaid :=
  OpenClaim.holds_of_cond 4 Tryd.f4 rfl rfl rfl rfl rfl rfl rfl ⟨rfl, rfl, rfl, rfl, rfl⟩ rfl rfl rfl rfl rfl (by kernel_rfl) Tryd.func4 (by kernel_rfl)
    (of_decide_eq_true (by kernel_rfl)) (by unfold Func.isWrapper; first | (rw [if_pos (by decide +kernel)]; kernel_rfl) | (rw [if_neg (by decide +kernel)]; exact ⟨rfl, rfl⟩))
    (fun os started H enc _ F => by rw [OpenClaim.pre_eq_preRow]; exact lifted os started H enc F)

theorem plain (f : FuncId) (fn : Func) (hf : Tryd.pinned.checked.prog.funcNamed Rows.globBytesRow.func = some f) (hfn : Tryd.pinned.checked.prog.funcs[f]? = some fn) :
    true = Tryd.pinned.checked.prog.looks [] ∧ ∀ (j : Nat) t, fn.params[j]? = some t → Tryd.pinned.checked.prog.wantsStandIn t = false := by
  obtain rfl : f = 4 := Option.some.inj ((show Tryd.prog.funcNamed Rows.globBytesRow.func = some 4 by kernel_rfl).symm.trans hf) |>.symm
  obtain rfl : fn = Tryd.f4 := (Option.some.inj (Tryd.func4.symm.trans hfn)).symm
  refine ⟨by kernel_rfl, fun j t ht => ?_⟩
  rw [Tryd.params4] at ht
  have hm : t = 9 := by simpa using Array.mem_of_getElem? ht
  rcases hm with rfl
  · exact (show Tryd.prog.wantsStandIn 9 = false by kernel_rfl)

theorem card : Rows.GlobBytesCardSaid :=
  Claim7.holds_tied_plain_at .later [] _ _ _ _ said (fun _ h => by cases h) (by kernel_rfl) (fun _ h => by cases h) globBytes_row_tie rfl ⟨rfl, rfl⟩ (by kernel_rfl) rfl plain (by kernel_rfl)
end Go.Proofs.YtialioefecpbpaaDoor.globBytes
