/-
  PROVED: the card of GlobEscapes, for inputs of bulk up to 1048576: for every two such strings GlobEscapes returns true, and they read afterwards as they read before; the card ties what errors.errorType holds to the program's text (a pruned copy of the project: the packages that this law loads).
-/
import Derived.Test.YtialioefecpbpaaDoorRx
import Derived.Test.YtialioefecpbpaaDoorHandle
namespace Go.Proofs.YtialioefecpbpaaDoor.globEscapes
open Go.ChangeShapes Go.WideShapes Go.ChangeAt Go.RowKit
open Go.ChangeMaps (open_string shut_string)

set_option maxHeartbeats 4000000 in
set_option maxRecDepth 100000 in
theorem walk (s o : ByteArray) (w : World) (hs : s.size ≤ 1048576) (ho : o.size ≤ 1048576) (hg : ErrVar w) :
    Calls Tryd.prog 6 #[.string s, .string o] w fun e w' => e = .returned (.bool true) ∧ Below w.heap.size w w' := by
  have HG := hid hg
  clear hg
  obtain ⟨E, hE⟩ : ∃ E : ByteArray, E = ⟨(Pg.esc s.data.toList).toArray⟩ := ⟨_, rfl⟩
  have hEs : E.size = (Pg.esc s.data.toList).length := by rw [hE]; exact size_mk _
  have HE := hid hE
  clear hE
  have tE : (E.toList == E.toList) = true := beq_iff_eq.2 rfl
  by_cases hl : 1024 < E.size
  · clear hEs
    go_enter Tryd.func6, Tryd.ntmps6
    go_wp2_with fail
    refine (escape_any s _ (by omega)).mono ?_
    rintro e w1 ⟨rfl, hb1⟩
    rw [← HE.out]
    go_wp2_with fail
    refine (refEscape_any s _ (by omega)).mono ?_
    rintro e w2 ⟨rfl, hb2⟩
    rw [← HE.out]
    have hB2 := hb1.trans (hb2.mono hb1.size)
    have HG2 := hid ((HG.out.below hb1).below hb2)
    clear hb1 hb2 HG
    go_wp2_with fail
    refine (compile_long E _ hl).mono ?_
    rintro e w3 ⟨rfl, rfl⟩
    go_wp2_with fail
    refine (num_errno 2 _ HG2.out).mono ?_
    rintro e w4 ⟨rfl, hb4⟩
    have HG4 := hid (HG2.out.below hb4)
    have hB4 := hB2.trans (hb4.mono hB2.size)
    clear hb4 HG2 hB2
    go_wp2_with fail
    refine (works_any _ HG4.out).mono ?_
    rintro e w5 ⟨rfl, hb5⟩
    go_wp2
    go_ret
    exact ⟨rfl, hB4.trans (hb5.mono hB4.size)⟩
  · have HC := hid (Pg.comp_esc s.data.toList)
    have hPl : (s.data.toList.map Pg.lit).length ≤ 140737488355328 := by rw [List.length_map, size_data]; omega
    have M1 : Hid (Pg.mt (s.data.toList.map Pg.lit) s.data.toList = true) := hid (by rw [Pg.mt_lits]; exact decide_eq_true rfl)
    have M2 : Hid (Pg.mt (s.data.toList.map Pg.lit) o.data.toList = (s.toList == o.toList)) := hid (by
      rw [Pg.mt_lits, ByteArray.toList_eq, ByteArray.toList_eq, Bool.eq_iff_iff, decide_eq_true_eq, beq_iff_eq])
    have hEl : (Pg.esc s.data.toList).length ≤ 1024 := by omega
    clear hEs
    go_enter Tryd.func6, Tryd.ntmps6
    go_wp2_with fail
    refine (escape_any s _ (by omega)).mono ?_
    rintro e w1 ⟨rfl, hb1⟩
    rw [← HE.out]
    go_wp2_with fail
    refine (refEscape_any s _ (by omega)).mono ?_
    rintro e w2 ⟨rfl, hb2⟩
    rw [← HE.out]
    have hB2 := hb1.trans (hb2.mono hb1.size)
    have HG2 := hid ((HG.out.below hb1).below hb2)
    clear hb1 hb2 HG
    go_wp2_with fail
    rw [HE.out]
    refine (compile_lit HC.out hEl _).mono ?_
    rintro e w3 ⟨bg, rfl, hg3, hb3⟩
    rw [← HE.out]
    have HA3 := hid hg3
    have HG3 := hid (HG2.out.below hb3)
    have hB3 := hB2.trans (hb3.mono hB2.size)
    clear hg3 hb3 HG2 hB2
    go_wp2_with fail
    refine (match_any s HA3.out (by omega) hPl).mono ?_
    rintro e w4 ⟨rfl, hb4⟩
    rw [M1.out]
    have HA4 := hid (HA3.out.later hb4)
    have HG4 := hid (HG3.out.below hb4)
    have hB4 := hB3.trans (hb4.mono hB3.size)
    clear hb4 HG3 hB3 HA3
    go_wp2_with fail
    refine (match_any o HA4.out (by omega) hPl).mono ?_
    rintro e w5 ⟨rfl, hb5⟩
    rw [M2.out]
    have HG5 := hid (HG4.out.below hb5)
    have hB5 := hB4.trans (hb5.mono hB4.size)
    clear hb5 HG4 hB4 HA4
    cases hq : (s.toList == o.toList) with
    | true =>
      go_wp2_with fail
      refine (works_any _ HG5.out).mono ?_
      rintro e w6 ⟨rfl, hb6⟩
      go_wp2
      go_ret
      exact ⟨rfl, hB5.trans (hb6.mono hB5.size)⟩
    | false =>
      go_wp2_with fail
      refine (works_any _ HG5.out).mono ?_
      rintro e w6 ⟨rfl, hb6⟩
      go_wp2
      go_ret
      exact ⟨rfl, hB5.trans (hb6.mono hB5.size)⟩

theorem own : ownKnob Tryd.prog.godebug = none := by kernel_rfl

set_option maxRecDepth 100000 in
theorem contract (H : Type) (enc : TypeId × Value → H) (W : World) (base : Nat) (args : Array Value) (ds gs : List (DataW H)) (before : List MemPlace)
    (hval : ∀ (j : Nat) t v, Tryd.f6.params[j]? = some t → args[j]? = some v → Value.okWide Tryd.prog W .any base t v)
    (hW : DataW.Whole enc Tryd.prog Tryd.f6.params.toList Rows.globEscapesSpec.vars false W args.toList ds gs before)
    (hk : Rows.uptoSmall H (ds ++ gs) = true)
    (hL : laidMetH Tryd.prog Rows.globEscapesUptoRow.laid W)
    : Calls Tryd.prog 6 args W fun e W' => ∃ v, e = .returned v ∧ Rows.globEscapesSpec.post enc Tryd.prog Tryd.f6 false true false false W args v W' := by
  have hW' := hW
  obtain ⟨p, q, hA0, hV, rfl, hfz, hnd⟩ := hW
  have hA : DataW.TrodAll enc Tryd.prog W 0 (fun _ => true) true Tryd.f6.params.toList args.toList ds p := hA0
  rw [Tryd.params6] at hA hval
  obtain ⟨v0, vs0, d0, ds0, p0, q0, hargs0, rfl, rfl, h0, r0⟩ := trodAll_cons hA
  obtain ⟨v1, vs1, d1, ds1, p1, q1, hargs1, rfl, rfl, h1, r1⟩ := trodAll_cons r0
  obtain ⟨rfl, rfl, rfl⟩ := trodAll_nil r1
  obtain rfl : args = #[v0, v1] := by cases args; simp_all
  obtain ⟨rfl, rfl⟩ := trodVars_none hV
  obtain ⟨x0, rfl, rfl, rfl, hmax0⟩ := open_string Tryd.underlying9 (hval 0 9 v0 rfl rfl) h0
  obtain ⟨x1, rfl, rfl, rfl, hmax1⟩ := open_string Tryd.underlying9 (hval 1 9 v1 rfl rfl) h1
  clear hA0
  simp only [List.append_nil] at hW' hk
  have hk' : Rows.uptoBulkAll (H := H) [DataW.lit (.string x0.data.toList), DataW.lit (.string x1.data.toList)] ≤ 1048576 := of_decide_eq_true hk
  simp only [Rows.uptoBulkAll, Rows.uptoBulk] at hk'
  have hls0 : x0.data.toList.length = x0.size := size_data x0
  have hls1 : x1.data.toList.length = x1.size := size_data x1
  refine (walk x0 x1 W (by omega) (by omega) (handle_of hL)).mono fun e W' ⟨he, hb⟩ => ?_
  subst he
  exact ⟨_, rfl, _, _, _, [], [], [], hW', trodAll_cons_mk (shut_bool Tryd.underlying4 _) trodAll_mk0, trodAll_cons_mk (shut_string Tryd.underlying9 hmax0) (trodAll_cons_mk (shut_string Tryd.underlying9 hmax1) trodAll_mk0), rfl, hb.frame _, fun h => by cases h⟩

set_option maxRecDepth 100000 in
theorem lifted (os : Os) (started : os.Started) (H : Type) (enc : TypeId × Value → H) (F : Stop.Interp) :
    ReturnsInHanded {} Tryd.checked os 6 .any ((Rows.OpenSpec.upto Rows.globEscapesSpec).preRow enc Tryd.prog Tryd.f6 Rows.globEscapesUptoRow.domain false Rows.globEscapesUptoRow.laid) (((Rows.OpenSpec.upto Rows.globEscapesSpec).at F).post enc Tryd.prog Tryd.f6 false true false false) := by
  refine returnsInHanded_of_row (C := Tryd.checked) (s := Rows.OpenSpec.upto Rows.globEscapesSpec) own started (by kernel_rfl) Tryd.func6
    (witness_row_at (enc := enc) (C := Tryd.checked) false
      { World.holding Tryd.prog os ⟨#[], #[], []⟩ with heap := (World.holding Tryd.prog os ⟨#[], #[], []⟩).heap.modify 0 fun
          | .cells _ t frozen => .cells #[.iface 107 (.agg #[.pointer (some ⟨2, 24, none⟩)])] t frozen
          | o => o }
      #[.string .empty, .string .empty] rfl (by kernel_rfl) (by kernel_rfl) (by kernel_rfl)
      (OpenSpec.preRow_of_cond 8 (x := ([.lit (.string []), .lit (.string [])], [], [])) (by kernel_rfl) (by kernel_rfl) (fun k hk => by cases hk; kernel_rfl) (by kernel_rfl) (laidMetH_of_parts (laidMet_nil _ _) (by kernel_rfl)))) ?_
  intro W base args ds gs before hval hW _ hcond hsz hL _ _
  exact contract H enc W base args ds gs before hval hW (hcond _ rfl) hL

theorem said : Rows.GlobEscapesUptoSaid :=
  OpenClaim.holds_of_cond 6 Tryd.f6 rfl rfl rfl rfl rfl rfl rfl ⟨rfl, rfl, rfl, rfl, rfl⟩ rfl rfl rfl rfl rfl (by kernel_rfl) Tryd.func6 (by kernel_rfl)
    (of_decide_eq_true (by kernel_rfl)) (by unfold Func.isWrapper; first | (rw [if_pos (by decide +kernel)]; kernel_rfl) | (rw [if_neg (by decide +kernel)]; exact ⟨rfl, rfl⟩))
    (fun os started H enc _ F => by rw [OpenClaim.pre_eq_preRow]; exact lifted os started H enc F)

theorem plain (f : FuncId) (fn : Func) (hf : Tryd.pinned.checked.prog.funcNamed Rows.globEscapesUptoRow.func = some f) (hfn : Tryd.pinned.checked.prog.funcs[f]? = some fn) :
    true = Tryd.pinned.checked.prog.looks [] ∧ ∀ (j : Nat) t, fn.params[j]? = some t → Tryd.pinned.checked.prog.wantsStandIn t = false := by
  obtain rfl : f = 6 := Option.some.inj ((show Tryd.prog.funcNamed Rows.globEscapesUptoRow.func = some 6 by kernel_rfl).symm.trans hf) |>.symm
  obtain rfl : fn = Tryd.f6 := (Option.some.inj (Tryd.func6.symm.trans hfn)).symm
  refine ⟨by kernel_rfl, fun j t ht => ?_⟩
  rw [Tryd.params6] at ht
  have hm : t = 9 := by simpa using Array.mem_of_getElem? ht
  rcases hm with rfl
  · exact (show Tryd.prog.wantsStandIn 9 = false by kernel_rfl)

theorem card : Rows.GlobEscapesUptoCardSaid :=
  Claim7.holds_tied_plain_at .later [] _ _ _ _ said (fun _ h => by cases h) (by kernel_rfl) (fun _ h => by cases h) globEscapesUpto_row_tie rfl ⟨rfl, rfl⟩ (by kernel_rfl) rfl plain (by kernel_rfl)
end Go.Proofs.YtialioefecpbpaaDoor.globEscapes
