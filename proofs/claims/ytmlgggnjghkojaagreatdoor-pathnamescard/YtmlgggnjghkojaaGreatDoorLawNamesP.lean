/-
  PROVED: the card of PathNames: for every string PathNames returns true, and it reads afterwards as it read before; the card ties what errors.errorType and the two tables of unicode/utf8 hold to the program's text (a pruned copy of the project: the packages that this law loads).
-/
import Derived.Test.YtmlgggnjghkojaaGreatDoorSu
import Derived.Test.YtmlgggnjghkojaaGreatDoorR2
import Derived.Test.YtmlgggnjghkojaaGreatDoorR4
import Derived.Test.YtmlgggnjghkojaaGreatDoorHd
namespace Go.Proofs.YtmlgggnjghkojaaGreatDoor.pathNames
open Go.ChangeShapes Go.WideShapes Go.ChangeAt Go.RowKit
open Go.ChangeMaps (open_string shut_string)

set_option maxHeartbeats 1000000 in
set_option maxRecDepth 100000 in
theorem walk (s : ByteArray) (w : World) (hs : s.size ≤ 140737488351232) (hg : Rdy w) :
    Calls Tryz.prog 3 #[.string s] w fun e w' => e = .returned (.bool true) ∧ Below w.heap.size w w' := by
  have HG := hid hg
  clear hg
  obtain ⟨L, hL⟩ : ∃ L, L = (Pp.parts s.data.toList).1 := ⟨_, rfl⟩
  obtain ⟨E, hE⟩ : ∃ E : Nat, E = (Pp.parts s.data.toList).2 := ⟨_, rfl⟩
  obtain ⟨N, hN⟩ : ∃ N : Nat, N = Pp.nameN s.data.toList := ⟨_, rfl⟩
  obtain ⟨D, hD⟩ : ∃ D : ByteArray, D = ⟨(Pp.dir s.data.toList).toArray⟩ := ⟨_, rfl⟩
  obtain ⟨B, hB⟩ : ∃ B : ByteArray, B = ⟨(Pp.base s.data.toList).toArray⟩ := ⟨_, rfl⟩
  have hLl : L.length ≤ 4097 := by
    rw [hL]
    unfold Pp.parts
    have h1 := Pp.pieces_length s.data.toList
    split
    · simp
    · split
      · simp
      · split
        · simp
        · split
          · simp
          · show (Pp.pieces s.data.toList).length ≤ _; omega
  have HL := hid hL
  have HE := hid hE
  have HN := hid hN
  have HD := hid hD
  have HB := hid hB
  clear hL hE hN hD hB
  have hee : ((E : Int) == (E : Int)) = true := beq_iff_eq.2 rfl
  have hnn : ((N : Int) == (N : Int)) = true := beq_iff_eq.2 rfl
  have hdd : (D.toList == D.toList) = true := beq_iff_eq.2 rfl
  have hbb : (B.toList == B.toList) = true := beq_iff_eq.2 rfl
  have hbl : (BL L).length ≤ 140737488355328 := by rw [BL_length]; omega
  go_enter Tryz.func3, Tryz.ntmps3
  go_wp2_with fail
  refine (parts_any s _ HG.out.max).mono ?_
  rintro e w1 ⟨v1, rfl, hown1, hb1⟩
  rw [← HE.out]
  rw [← HL.out] at hown1
  have HR1 := hid (rd_own hown1)
  have HG1 := hid (HG.out.below hb1)
  clear hown1 HG
  go_wp2_with fail
  refine (refParts_any s _).mono ?_
  rintro e w2 ⟨v2, rfl, hown2, hb2⟩
  rw [← HE.out]
  rw [← HL.out] at hown2
  have HS2 := hid (rd_own hown2)
  have HR2 := hid (HR1.out.below hb2)
  have HG2 := hid (HG1.out.below hb2)
  have HB2 := hid (hb1.trans (hb2.mono hb1.size))
  clear HG1 hb1 hb2 HR1 hown2
  go_wp2_with fail
  refine (name_any s _).mono ?_
  rintro e w3 ⟨rfl, hb3⟩
  rw [← HN.out]
  have HG3 := hid (HG2.out.below hb3)
  have HB3 := hid (HB2.out.trans (hb3.mono HB2.out.size))
  have HR3 := hid (HR2.out.below hb3)
  have HS3 := hid (HS2.out.below hb3)
  clear HG2 HB2 HR2 HS2 hb3
  go_wp2_with fail
  refine (num_errV N _ HG3.out.err).mono ?_
  rintro e w4 ⟨rfl, hb4⟩
  have HG4 := hid (HG3.out.below hb4)
  have HB4 := hid (HB3.out.trans (hb4.mono HB3.out.size))
  have HR4 := hid (HR3.out.below hb4)
  have HS4 := hid (HS3.out.below hb4)
  clear HG3 HB3 HR3 HS3 hb4
  go_wp2_with fail
  refine (refName_any s _).mono ?_
  rintro e w5 ⟨rfl, rfl⟩
  rw [← HN.out]
  go_wp2_with fail
  refine (same_rd HR4.out HS4.out hbl).mono ?_
  rintro e w6 ⟨rfl, hb6⟩
  rw [decide_eq_true rfl]
  have HG6 := hid (HG4.out.below hb6)
  have HB6 := hid (HB4.out.trans (hb6.mono HB4.out.size))
  clear HG4 HB4 HR4 HS4 hb6
  go_wp2_with fail
  refine (num_errV E _ HG6.out.err).mono ?_
  rintro e w7 ⟨rfl, hb7⟩
  have HG7 := hid (HG6.out.below hb7)
  have HB7 := hid (HB6.out.trans (hb7.mono HB6.out.size))
  clear HG6 HB6 hb7
  go_wp2_with fail
  refine (dir_any s _ (by omega)).mono ?_
  rintro e w8 ⟨rfl, rfl⟩
  rw [← HD.out]
  go_wp2_with fail
  refine (refDir_any s _ (by omega)).mono ?_
  rintro e w8 ⟨rfl, rfl⟩
  rw [← HD.out]
  go_wp2_with fail
  refine (base_any s _ (by omega)).mono ?_
  rintro e w8 ⟨rfl, rfl⟩
  rw [← HB.out]
  go_wp2_with fail
  refine (refBase_any s _ (by omega)).mono ?_
  rintro e w8 ⟨rfl, rfl⟩
  rw [← HB.out]
  go_wp2_with fail
  refine (sure_any _ HG7.out).mono ?_
  rintro e w9 ⟨rfl, hb9⟩
  go_wp2
  go_ret
  exact ⟨rfl, HB7.out.trans (hb9.mono HB7.out.size)⟩

theorem own : ownKnob Tryz.prog.godebug = none := by kernel_rfl

set_option maxRecDepth 100000 in
theorem contract (H : Type) (enc : TypeId × Value → H) (W : World) (base : Nat) (args : Array Value) (ds gs : List (DataW H)) (before : List MemPlace)
    (hval : ∀ (j : Nat) t v, Tryz.f3.params[j]? = some t → args[j]? = some v → Value.okWide Tryz.prog W .any base t v)
    (hW : DataW.Whole enc Tryz.prog Tryz.f3.params.toList Rows.pathNamesSpec.vars false W args.toList ds gs before)
    (hsz : (DataW.weightsEach Tryz.prog (Tryz.f3.params.toList ++ Rows.pathNamesSpec.plain.varTypes Tryz.prog) (ds ++ gs)).all (· ≤ reachBytes) = true)
    (hL : laidMetH Tryz.prog Rows.pathNamesRow.laid W)
    (hSh : W.ShapedOpen Tryz.prog)
    : Calls Tryz.prog 3 args W fun e W' => ∃ v, e = .returned v ∧ Rows.pathNamesSpec.post enc Tryz.prog Tryz.f3 false true false false W args v W' := by
  have hW' := hW
  obtain ⟨p, q, hA0, hV, rfl, hfz, hnd⟩ := hW
  have hA : DataW.TrodAll enc Tryz.prog W 0 (fun _ => true) true Tryz.f3.params.toList args.toList ds p := hA0
  rw [Tryz.params3] at hA hval hsz
  obtain ⟨v0, vs0, d0, ds0, p0, q0, hargs0, rfl, rfl, h0, r0⟩ := trodAll_cons hA
  obtain ⟨rfl, rfl, rfl⟩ := trodAll_nil r0
  obtain rfl : args = #[v0] := by cases args; simp_all
  obtain ⟨rfl, rfl⟩ := trodVars_none hV
  obtain ⟨x0, rfl, rfl, rfl, hmax0⟩ := open_string Tryz.underlying9 (hval 0 9 v0 rfl rfl) h0
  have hlen0 : x0.size ≤ 140737488351232 := by
    have := sized_string hsz (j := 0) (t := 9) rfl rfl
    rwa [size_data] at this
  clear hA0 hsz
  simp only [List.append_nil] at hW'
  refine (walk x0 W hlen0 ⟨handle_of hL, max_of hSh⟩).mono fun e W' ⟨he, hb⟩ => ?_
  subst he
  exact ⟨_, rfl, _, _, _, [], [], [], hW', trodAll_cons_mk (shut_bool Tryz.underlying4 _) trodAll_mk0, trodAll_cons_mk (shut_string Tryz.underlying9 hmax0) trodAll_mk0, rfl, hb.frame _, fun h => by cases h⟩

set_option maxRecDepth 100000 in
theorem lifted (os : Os) (started : os.Started) (H : Type) (enc : TypeId × Value → H) (F : Stop.Interp) :
    ReturnsInHanded {} Tryz.checked os 3 .any ((OpenSpec.ofChange Rows.pathNamesSpec).preRow enc Tryz.prog Tryz.f3 Rows.pathNamesRow.domain false Rows.pathNamesRow.laid) (((OpenSpec.ofChange Rows.pathNamesSpec).at F).post enc Tryz.prog Tryz.f3 false true false false) := by
  refine returnsInHanded_of_row (C := Tryz.checked) (s := OpenSpec.ofChange Rows.pathNamesSpec) own started (by kernel_rfl) Tryz.func3
    (witness_row_at (enc := enc) (C := Tryz.checked) false
      { World.holding Tryz.prog os ⟨#[], #[], []⟩ with heap := ((((World.holding Tryz.prog os ⟨#[], #[], []⟩).heap.modify 0 fun
          | .cells _ t frozen => .cells #[.iface 76 (.agg #[.pointer (some ⟨4, 24, none⟩)])] t frozen
          | o => o).modify 2 fun
          | .cells _ t frozen => .cells firstCells t frozen
          | o => o).modify 3 fun
          | .cells _ t frozen => .cells rangeCells t frozen
          | o => o) }
      #[.string .empty] rfl (by kernel_rfl) (by kernel_rfl) (by kernel_rfl)
      (OpenSpec.preRow_of_cond 8 (x := ([.lit (.string [])], [], [])) (by kernel_rfl) (by kernel_rfl) (fun k hk => by cases hk) (by kernel_rfl) (laidMetH_of_parts (laidMet_of_run' 300 (by kernel_rfl) (by kernel_rfl)) (by kernel_rfl)))) ?_
  intro W base args ds gs before hval hW _ hcond hsz hL hSh _
  exact contract H enc W base args ds gs before hval hW hsz hL hSh

theorem said : Rows.PathNamesSaid :=
  OpenClaim.holds_of_cond 3 Tryz.f3 rfl rfl rfl rfl rfl rfl rfl ⟨rfl, rfl, rfl, rfl, rfl⟩ rfl rfl rfl rfl rfl (by kernel_rfl) Tryz.func3 (by kernel_rfl)
    (of_decide_eq_true (by kernel_rfl)) (by unfold Func.isWrapper; first | (rw [if_pos (by decide +kernel)]; kernel_rfl) | (rw [if_neg (by decide +kernel)]; exact ⟨rfl, rfl⟩))
    (fun os started H enc _ F => by rw [OpenClaim.pre_eq_preRow]; exact lifted os started H enc F)

theorem plain (f : FuncId) (fn : Func) (hf : Tryz.pinned.checked.prog.funcNamed Rows.pathNamesRow.func = some f) (hfn : Tryz.pinned.checked.prog.funcs[f]? = some fn) :
    true = Tryz.pinned.checked.prog.looks [] ∧ ∀ (j : Nat) t, fn.params[j]? = some t → Tryz.pinned.checked.prog.wantsStandIn t = false := by
  obtain rfl : f = 3 := Option.some.inj ((show Tryz.prog.funcNamed Rows.pathNamesRow.func = some 3 by kernel_rfl).symm.trans hf) |>.symm
  obtain rfl : fn = Tryz.f3 := (Option.some.inj (Tryz.func3.symm.trans hfn)).symm
  refine ⟨by kernel_rfl, fun j t ht => ?_⟩
  rw [Tryz.params3] at ht
  have hm : t = 9 := by simpa using Array.mem_of_getElem? ht
  rcases hm with rfl
  · exact (show Tryz.prog.wantsStandIn 9 = false by kernel_rfl)

theorem card : Rows.PathNamesCardSaid :=
  Claim7.holds_tied_plain_at .later [] _ _ _ _ said (fun _ h => by cases h) (by kernel_rfl) (fun _ h => by cases h) pathNames_row_tie rfl ⟨rfl, rfl⟩ (by kernel_rfl) rfl plain (by kernel_rfl)
end Go.Proofs.YtmlgggnjghkojaaGreatDoor.pathNames
