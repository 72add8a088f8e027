/-
  PROVED: the card of PathJoins: for every list of strings PathJoins returns true, and it reads afterwards as it read before; the card ties what errors.errorType and the two tables of unicode/utf8 hold to the program's text (a pruned copy of the project: the packages that this law loads).
-/
import Derived.Test.YtmlgggnjghkojaaDoorSu
import Derived.Test.YtmlgggnjghkojaaDoorR1
import Derived.Test.YtmlgggnjghkojaaDoorRl
import Derived.Test.YtmlgggnjghkojaaDoorHd
namespace Go.Proofs.YtmlgggnjghkojaaDoor.pathJoins
open Go.ChangeShapes Go.WideShapes Go.ChangeAt Go.RowKit
open Go.ChangeMaps (open_string shut_string)

theorem Tryd.infoString : (Tryd.prog.info? 9).map (fun i => (i.zero, i.size, i.bytes)) = some (some (.string ⟨#[]⟩), 1, 16) := by kernel_rfl

set_option maxHeartbeats 2000000 in
set_option maxRecDepth 100000 in
theorem walk (v : Value) (xs : List ByteArray) (w : World) (hr : Rd w v xs) (hn : xs.length * 16 ≤ 140737488351232) (hsh : v = .slice none 0 0 ∨ ∃ ad n c, v = .slice (some ad) n c) (hg : Rdy w) :
    Calls Tryd.prog 3 #[v] w fun e w' => e = .returned (.bool true) ∧ Below w.heap.size w w' := by
  obtain ⟨i0, hi, hz0, hz1, hz2⟩ := info_parts Tryd.infoString
  have HG := hid hg
  have HR := hid hr
  have hN : xs.length ≤ 140737488355328 := by omega
  clear hg
  obtain ⟨A, hA⟩ : ∃ A : ByteArray, A = ⟨(Pp.join (DL xs)).1.toArray⟩ := ⟨_, rfl⟩
  obtain ⟨E, hE⟩ : ∃ E : Nat, E = (Pp.join (DL xs)).2 := ⟨_, rfl⟩
  have HA := hid hA
  have HE := hid hE
  clear hA hE
  have hee : ((E : Int) == (E : Int)) = true := beq_iff_eq.2 rfl
  have haa : (A.toList == A.toList) = true := beq_iff_eq.2 rfl
  rcases hsh with rfl | ⟨ad, n, c, rfl⟩
  · clear hr
    have HM := HR
    go_enter Tryd.func3, Tryd.ntmps3
    go_wp2_with fail
    refine (join_rd HM.out hN).mono ?_
    rintro e w2 ⟨rfl, hb2⟩
    rw [← HA.out, ← HE.out]
    have HR2 := hid (HR.out.below hb2)
    have HM2 := hid (HM.out.below hb2)
    have HG2 := hid (HG.out.below hb2)
    have HB2 := hid hb2
    clear HM HR HG hb2
    go_wp2_with fail
    refine (refJoin_rd HR2.out hN).mono ?_
    rintro e w3 ⟨rfl, rfl⟩
    rw [← HA.out, ← HE.out]
    go_wp2_with fail
    refine (num_errV E _ HG2.out.err).mono ?_
    rintro e w4 ⟨rfl, hb4⟩
    have HB4 := hid (HB2.out.trans (hb4.mono HB2.out.size))
    have HG4 := hid (HG2.out.below hb4)
    have HR4 := hid (HR2.out.below hb4)
    have HM4 := hid (HM2.out.below hb4)
    clear HB2 HG2 HR2 HM2 hb4
    go_wp2_with fail
    refine (same_rd HM4.out HR4.out hN).mono ?_
    rintro e w6 ⟨rfl, hb6⟩
    rw [decide_eq_true rfl]
    have HB6 := hid (HB4.out.trans (hb6.mono HB4.out.size))
    have HG6 := hid (HG4.out.below hb6)
    clear HB4 HG4 HR4 HM4 hb6
    go_wp2_with fail
    refine (sure_any _ HG6.out).mono ?_
    rintro e w7 ⟨rfl, hb7⟩
    go_wp2
    go_ret
    exact ⟨rfl, HB6.out.trans (hb7.mono HB6.out.size)⟩
  · obtain ⟨rfl, hsrc⟩ := src_cells HR.out
    have HX := hid hsrc
    clear hsrc hr
    go_enter Tryd.func3, Tryd.ntmps3
    go_wp2_with (at_builtin; refine wpList_append_own _ rfl _ _ 22 rfl w.heap.size 9 i0 (.string ⟨#[]⟩) 1 16 Tryd.underlying22 hi hz0 hz1 hz2 rfl (by decide) _ _ _ rfl (World.ownsRow_nil _ _ _ _) ad xs.length c (SV (DL xs)) rfl ?c0 ?c1 ?c2 ?c3 ?c4 ?c5 ?_)
    case c0 => rw [SV_length, DL_length]; omega
    case c1 => exact HX.out
    case c2 => exact SV_one_cell _
    case c3 => unfold maxLen; omega
    case c4 => omega
    case c5 => exact Nat.le_refl _
    intro v1 w1 hown1 hgrow1 _
    have hb1 : Below w.heap.size w w1 := (Below.refl _ _).grown hgrow1 (Nat.le_refl _) (fun k hk => by cases hk)
    have hm1 : Rd w1 v1 xs := by
      have h1 : OwnS w1 w.heap.size v1 (DL xs) := by
        show w1.ownsRow w.heap.size 9 1 v1 (DL xs).length (SV (DL xs))
        rw [DL_length]
        simpa using hown1
      have := rd_own h1
      rwa [BL_DL] at this
    have HM := hid hm1
    clear hown1 hgrow1 hm1
    go_wp2_with fail
    refine (join_rd HM.out hN).mono ?_
    rintro e w2 ⟨rfl, hb2⟩
    rw [← HA.out, ← HE.out]
    have HR2 := hid ((HR.out.below hb1).below hb2)
    have HM2 := hid (HM.out.below hb2)
    have HG2 := hid ((HG.out.below hb1).below hb2)
    have HB2 := hid (hb1.trans (hb2.mono hb1.size))
    clear HM HR HG hb1 hb2
    go_wp2_with fail
    refine (refJoin_rd HR2.out hN).mono ?_
    rintro e w3 ⟨rfl, rfl⟩
    rw [← HA.out, ← HE.out]
    go_wp2_with fail
    refine (num_errV E _ HG2.out.err).mono ?_
    rintro e w4 ⟨rfl, hb4⟩
    have HB4 := hid (HB2.out.trans (hb4.mono HB2.out.size))
    have HG4 := hid (HG2.out.below hb4)
    have HR4 := hid (HR2.out.below hb4)
    have HM4 := hid (HM2.out.below hb4)
    clear HB2 HG2 HR2 HM2 hb4
    go_wp2_with fail
    refine (same_rd HM4.out HR4.out hN).mono ?_
    rintro e w6 ⟨rfl, hb6⟩
    rw [decide_eq_true rfl]
    have HB6 := hid (HB4.out.trans (hb6.mono HB4.out.size))
    have HG6 := hid (HG4.out.below hb6)
    clear HB4 HG4 HR4 HM4 hb6
    go_wp2_with fail
    refine (sure_any _ HG6.out).mono ?_
    rintro e w7 ⟨rfl, hb7⟩
    go_wp2
    go_ret
    exact ⟨rfl, HB6.out.trans (hb7.mono HB6.out.size)⟩

theorem own : ownKnob Tryd.prog.godebug = none := by kernel_rfl

set_option maxRecDepth 100000 in
theorem contract (H : Type) (enc : TypeId × Value → H) (W : World) (base : Nat) (args : Array Value) (ds gs : List (DataW H)) (before : List MemPlace)
    (hval : ∀ (j : Nat) t v, Tryd.f3.params[j]? = some t → args[j]? = some v → Value.okWide Tryd.prog W .any base t v)
    (hW : DataW.Whole enc Tryd.prog Tryd.f3.params.toList Rows.pathJoinsSpec.vars false W args.toList ds gs before)
    (hsz : (DataW.weightsEach Tryd.prog (Tryd.f3.params.toList ++ Rows.pathJoinsSpec.plain.varTypes Tryd.prog) (ds ++ gs)).all (· ≤ reachBytes) = true)
    (hL : laidMetH Tryd.prog Rows.pathJoinsRow.laid W)
    (hSh : W.ShapedOpen Tryd.prog)
    : Calls Tryd.prog 3 args W fun e W' => ∃ v, e = .returned v ∧ Rows.pathJoinsSpec.post enc Tryd.prog Tryd.f3 false true false false W args v W' := by
  have hW' := hW
  obtain ⟨p, q, hA0, hV, rfl, hfz, hnd⟩ := hW
  have hA : DataW.TrodAll enc Tryd.prog W 0 (fun _ => true) true Tryd.f3.params.toList args.toList ds p := hA0
  rw [Tryd.params3] at hA hval hsz
  obtain ⟨v0, vs0, d0, ds0, p0, q0, hargs0, rfl, rfl, h0, r0⟩ := trodAll_cons hA
  obtain ⟨rfl, rfl, rfl⟩ := trodAll_nil r0
  obtain rfl : args = #[v0] := by cases args; simp_all
  obtain ⟨rfl, rfl⟩ := trodVars_none hV
  obtain ⟨x0, hr0, hsz0, hd0, hsh0⟩ := open_rd (okWide_slice Tryd.underlying22 (hval 0 22 v0 rfl rfl)) h0
  have hlen0 := rd_sized hsz (j := 0) rfl rfl hd0
  clear hA0 hsz
  simp only [List.append_nil] at hW'
  have hlt0 : ∀ x ∈ p0, x.block < W.heap.size := fun x hx => by simpa using hW'.lt x (by simp [hx])
  refine (walk v0 x0 W hr0 hlen0 hsh0 ⟨handle_of hL, max_of hSh⟩).mono fun e W' ⟨he, hb⟩ => ?_
  subst he
  exact ⟨_, rfl, _, _, _, [], (p0 ++ []), [], hW', trodAll_cons_mk (shut_bool Tryd.underlying4 _) trodAll_mk0, trodAll_cons_mk (Below.trod laidOut (by kernel_rfl) (of_decide_eq_true (by kernel_rfl)) h0 hb hlt0) trodAll_mk0, rfl, hb.frame _, fun h => by cases h⟩

set_option maxRecDepth 100000 in
theorem lifted (os : Os) (started : os.Started) (H : Type) (enc : TypeId × Value → H) (F : Stop.Interp) :
    ReturnsInHanded {} Tryd.checked os 3 .any ((OpenSpec.ofChange Rows.pathJoinsSpec).preRow enc Tryd.prog Tryd.f3 Rows.pathJoinsRow.domain false Rows.pathJoinsRow.laid) (((OpenSpec.ofChange Rows.pathJoinsSpec).at F).post enc Tryd.prog Tryd.f3 false true false false) := by
  refine returnsInHanded_of_row (C := Tryd.checked) (s := OpenSpec.ofChange Rows.pathJoinsSpec) own started (by kernel_rfl) Tryd.func3
    (witness_row_at (enc := enc) (C := Tryd.checked) false
      { World.holding Tryd.prog os ⟨#[], #[], []⟩ with heap := ((((World.holding Tryd.prog os ⟨#[], #[], []⟩).heap.modify 0 fun
          | .cells _ t frozen => .cells #[.iface 92 (.agg #[.pointer (some ⟨4, 24, none⟩)])] t frozen
          | o => o).modify 2 fun
          | .cells _ t frozen => .cells firstCells t frozen
          | o => o).modify 3 fun
          | .cells _ t frozen => .cells rangeCells t frozen
          | o => o) }
      #[.slice none 0 0] rfl (by kernel_rfl) (by kernel_rfl) (by kernel_rfl)
      (OpenSpec.preRow_of_cond 8 (x := ([.nil], [], [])) (by kernel_rfl) (by kernel_rfl) (fun k hk => by cases hk) (by kernel_rfl) (laidMetH_of_parts (laidMet_of_run' 300 (by kernel_rfl) (by kernel_rfl)) (by kernel_rfl)))) ?_
  intro W base args ds gs before hval hW _ hcond hsz hL hSh _
  exact contract H enc W base args ds gs before hval hW hsz hL hSh

theorem said : Rows.PathJoinsSaid :=
  OpenClaim.holds_of_cond 3 Tryd.f3 rfl rfl rfl rfl rfl rfl rfl ⟨rfl, rfl, rfl, rfl, rfl⟩ rfl rfl rfl rfl rfl (by kernel_rfl) Tryd.func3 (by kernel_rfl)
    (of_decide_eq_true (by kernel_rfl)) (by unfold Func.isWrapper; first | (rw [if_pos (by decide +kernel)]; kernel_rfl) | (rw [if_neg (by decide +kernel)]; exact ⟨rfl, rfl⟩))
    (fun os started H enc _ F => by rw [OpenClaim.pre_eq_preRow]; exact lifted os started H enc F)

theorem plain (f : FuncId) (fn : Func) (hf : Tryd.pinned.checked.prog.funcNamed Rows.pathJoinsRow.func = some f) (hfn : Tryd.pinned.checked.prog.funcs[f]? = some fn) :
    true = Tryd.pinned.checked.prog.looks [] ∧ ∀ (j : Nat) t, fn.params[j]? = some t → Tryd.pinned.checked.prog.wantsStandIn t = false := by
  obtain rfl : f = 3 := Option.some.inj ((show Tryd.prog.funcNamed Rows.pathJoinsRow.func = some 3 by kernel_rfl).symm.trans hf) |>.symm
  obtain rfl : fn = Tryd.f3 := (Option.some.inj (Tryd.func3.symm.trans hfn)).symm
  refine ⟨by kernel_rfl, fun j t ht => ?_⟩
  rw [Tryd.params3] at ht
  have hm : t = 22 := by simpa using Array.mem_of_getElem? ht
  rcases hm with rfl
  · exact (show Tryd.prog.wantsStandIn 22 = false by kernel_rfl)

theorem card : Rows.PathJoinsCardSaid :=
  Claim7.holds_tied_plain_at .later [] _ _ _ _ said (fun _ h => by cases h) (by kernel_rfl) (fun _ h => by cases h) pathJoins_row_tie rfl ⟨rfl, rfl⟩ (by kernel_rfl) rfl plain (by kernel_rfl)
end Go.Proofs.YtmlgggnjghkojaaDoor.pathJoins
