/-
  PROVED: the card of PathGoes: for every two lists of strings PathGoes returns true, and both read afterwards as they read before; the card ties what errors.errorType and the two tables of unicode/utf8 hold to the program's text (a pruned copy of the project: the packages that this law loads).
-/
import Derived.Test.YtmlgggnjghkojabDoorWe
import Derived.Test.YtmlgggnjghkojabDoorRl
import Derived.Test.YtmlgggnjghkojabDoorHd
namespace Go.Proofs.YtmlgggnjghkojabDoor.pathGoes
open Go.ChangeShapes Go.WideShapes Go.ChangeAt Go.RowKit

theorem goes_data {xs ys : List ByteArray} {A B S : ByteArray} (ha : (Pp.join (DL xs)).2 = 0) (hb : (Pp.join (DL ys)).2 = 0) (hA : A = ⟨(Pp.join (DL xs)).1.toArray⟩) (hB : B = ⟨(Pp.join (DL ys)).1.toArray⟩) (hS : S = ⟨(Pp.rel A.data.toList B.data.toList).1.toArray⟩) :
    (Pp.rel A.data.toList B.data.toList).2 = 0 ∧ (4096 < S.size → (Pp.go A.data.toList S.data.toList).2 = 2) ∧ (¬ 4096 < S.size → Pp.go A.data.toList S.data.toList = (B.data.toList, 0)) := by
  have h := Pp.goes (DL xs) (DL ys) ha hb
  have eA : A.data.toList = (Pp.join (DL xs)).1 := by rw [hA]
  have eB : B.data.toList = (Pp.join (DL ys)).1 := by rw [hB]
  have eS : S.data.toList = (Pp.rel A.data.toList B.data.toList).1 := by rw [hS]
  rw [← size_data S, eS, eA, eB]
  exact h

set_option maxHeartbeats 4000000 in
set_option maxRecDepth 100000 in
theorem walk (v : Value) (xs : List ByteArray) (u : Value) (ys : List ByteArray) (w : World) (hr : Rd w v xs) (hn : xs.length * 16 ≤ 140737488351232) (_hsh : v = .slice none 0 0 ∨ ∃ ad n c, v = .slice (some ad) n c) (hr2 : Rd w u ys) (hn2 : ys.length * 16 ≤ 140737488351232) (_hsh2 : u = .slice none 0 0 ∨ ∃ ad n c, u = .slice (some ad) n c) (hg : Rdy w) :
    Calls Tryd.prog 4 #[v, u] w fun e w' => e = .returned (.bool true) ∧ Below w.heap.size w w' := by
  have HG := hid hg
  have HR := hid hr
  have HU := hid hr2
  have hN : xs.length ≤ 140737488355328 := by omega
  have hN2 : ys.length ≤ 140737488355328 := by omega
  obtain ⟨a1, c1, rfl⟩ := hr.shape
  obtain ⟨a2, c2, rfl⟩ := hr2.shape
  clear hg hr hr2 _hsh _hsh2
  obtain ⟨A, hA⟩ : ∃ A : ByteArray, A = ⟨(Pp.join (DL xs)).1.toArray⟩ := ⟨_, rfl⟩
  obtain ⟨E, hE⟩ : ∃ E : Nat, E = (Pp.join (DL xs)).2 := ⟨_, rfl⟩
  obtain ⟨B, hB⟩ : ∃ B : ByteArray, B = ⟨(Pp.join (DL ys)).1.toArray⟩ := ⟨_, rfl⟩
  obtain ⟨F, hF⟩ : ∃ F : Nat, F = (Pp.join (DL ys)).2 := ⟨_, rfl⟩
  obtain ⟨S, hS⟩ : ∃ S : ByteArray, S = ⟨(Pp.rel A.data.toList B.data.toList).1.toArray⟩ := ⟨_, rfl⟩
  have HA := hid hA
  have HE := hid hE
  have HB := hid hB
  have HF := hid hF
  have HS := hid hS
  clear hA hE hB hF hS
  go_enter Tryd.func4, Tryd.ntmps4
  go_wp2_with fail
  refine (join_rd HR.out hN).mono ?_
  rintro e w1 ⟨rfl, hb1⟩
  rw [← HA.out, ← HE.out]
  have HG1 := hid (HG.out.below hb1)
  have HU1 := hid (HU.out.below hb1)
  have HB1 := hid hb1
  clear HG HU hb1 HR
  go_wp2_with fail
  refine (join_rd HU1.out hN2).mono ?_
  rintro e w2 ⟨rfl, hb2⟩
  rw [← HB.out, ← HF.out]
  have HG2 := hid (HG1.out.below hb2)
  have HB2 := hid (HB1.out.trans (hb2.mono HB1.out.size))
  clear HG1 HB1 hb2 HU1
  by_cases he : E = 0
  · by_cases hf : F = 0
    · obtain ⟨k1, k2, k3⟩ := goes_data (HE.out.symm.trans he) (HF.out.symm.trans hf) HA.out HB.out HS.out
      have K1 := hid k1
      have K2 := hid k2
      have K3 := hid k3
      rw [he, hf, errV_zero]
      clear he hf k1 k2 k3
      go_wp2_with fail
      refine (rel_any A B _ HG2.out.max).mono ?_
      rintro e w3 ⟨rfl, hb3⟩
      rw [← HS.out, K1.out, errV_zero]
      have HG3 := hid (HG2.out.below hb3)
      have HB3 := hid (HB2.out.trans (hb3.mono HB2.out.size))
      clear HG2 HB2 hb3
      by_cases hl : 4096 < S.size
      · have HK := hid (K2.out hl)
        go_wp2_with fail
        refine (go_any A S _ HG3.out.max).mono ?_
        rintro e w4 ⟨rfl, hb4⟩
        rw [HK.out]
        have HG4 := hid (HG3.out.below hb4)
        have HB4 := hid (HB3.out.trans (hb4.mono HB3.out.size))
        clear HG3 HB3 hb4
        go_wp2_with fail
        refine (num_errV 2 _ HG4.out.err).mono ?_
        rintro e w5 ⟨rfl, hb5⟩
        have HG5 := hid (HG4.out.below hb5)
        have HB5 := hid (HB4.out.trans (hb5.mono HB4.out.size))
        clear HG4 HB4 hb5
        go_wp2_with fail
        refine (went_any _ HG5.out).mono ?_
        rintro e w6 ⟨rfl, hb6⟩
        go_wp2
        go_ret
        exact ⟨rfl, HB5.out.trans (hb6.mono HB5.out.size)⟩
      · have HK := hid (K3.out hl)
        have hbb : (B.toList == B.toList) = true := beq_iff_eq.2 rfl
        go_wp2_with fail
        refine (go_any A S _ HG3.out.max).mono ?_
        rintro e w4 ⟨rfl, hb4⟩
        rw [HK.out, bytes_eta, errV_zero]
        have HG4 := hid (HG3.out.below hb4)
        have HB4 := hid (HB3.out.trans (hb4.mono HB3.out.size))
        clear HG3 HB3 hb4
        go_wp2_with fail
        refine (went_any _ HG4.out).mono ?_
        rintro e w6 ⟨rfl, hb6⟩
        go_wp2
        go_ret
        exact ⟨rfl, HB4.out.trans (hb6.mono HB4.out.size)⟩
    · have HV := hid (errV_pos hf)
      rw [he, errV_zero, HV.out]
      clear he hf
      go_wp2_with fail
      refine (went_any _ HG2.out).mono ?_
      rintro e w6 ⟨rfl, hb6⟩
      go_wp2
      go_ret
      exact ⟨rfl, HB2.out.trans (hb6.mono HB2.out.size)⟩
  · have HV := hid (errV_pos he)
    rw [HV.out]
    clear he
    go_wp2_with fail
    refine (went_any _ HG2.out).mono ?_
    rintro e w6 ⟨rfl, hb6⟩
    go_wp2
    go_ret
    exact ⟨rfl, HB2.out.trans (hb6.mono HB2.out.size)⟩

theorem own : ownKnob Tryd.prog.godebug = none := by kernel_rfl

set_option maxRecDepth 100000 in
theorem contract (H : Type) (enc : TypeId × Value → H) (W : World) (base : Nat) (args : Array Value) (ds gs : List (DataW H)) (before : List MemPlace)
    (hval : ∀ (j : Nat) t v, Tryd.f4.params[j]? = some t → args[j]? = some v → Value.okWide Tryd.prog W .any base t v)
    (hW : DataW.Whole enc Tryd.prog Tryd.f4.params.toList Rows.pathGoesSpec.vars false W args.toList ds gs before)
    (hsz : (DataW.weightsEach Tryd.prog (Tryd.f4.params.toList ++ Rows.pathGoesSpec.plain.varTypes Tryd.prog) (ds ++ gs)).all (· ≤ reachBytes) = true)
    (hL : laidMetH Tryd.prog Rows.pathGoesRow.laid W)
    (hSh : W.ShapedOpen Tryd.prog)
    : Calls Tryd.prog 4 args W fun e W' => ∃ v, e = .returned v ∧ Rows.pathGoesSpec.post enc Tryd.prog Tryd.f4 false true false false W args v W' := by
  have hW' := hW
  obtain ⟨p, q, hA0, hV, rfl, hfz, hnd⟩ := hW
  have hA : DataW.TrodAll enc Tryd.prog W 0 (fun _ => true) true Tryd.f4.params.toList args.toList ds p := hA0
  rw [Tryd.params4] at hA hval hsz
  obtain ⟨v0, vs0, d0, ds0, p0, q0, hargs0, rfl, rfl, h0, r0⟩ := trodAll_cons hA
  obtain ⟨v1, vs1, d1, ds1, p1, q1, hargs1, rfl, rfl, h1, r1⟩ := trodAll_cons r0
  obtain ⟨rfl, rfl, rfl⟩ := trodAll_nil r1
  obtain rfl : args = #[v0, v1] := by cases args; simp_all
  obtain ⟨rfl, rfl⟩ := trodVars_none hV
  obtain ⟨x0, hr0, hsz0, hd0, hsh0⟩ := open_rd (okWide_slice Tryd.underlying31 (hval 0 31 v0 rfl rfl)) h0
  obtain ⟨x1, hr1, hsz1, hd1, hsh1⟩ := open_rd (okWide_slice Tryd.underlying31 (hval 1 31 v1 rfl rfl)) h1
  have hlen0 := rd_sized hsz (j := 0) rfl rfl hd0
  have hlen1 := rd_sized hsz (j := 1) rfl rfl hd1
  clear hA0 hsz
  simp only [List.append_nil] at hW'
  have hlt0 : ∀ x ∈ p0, x.block < W.heap.size := fun x hx => by simpa using hW'.lt x (by simp [hx])
  have hlt1 : ∀ x ∈ p1, x.block < W.heap.size := fun x hx => by simpa using hW'.lt x (by simp [hx])
  refine (walk v0 x0 v1 x1 W hr0 hlen0 hsh0 hr1 hlen1 hsh1 ⟨handle_of hL, max_of hSh⟩).mono fun e W' ⟨he, hb⟩ => ?_
  subst he
  exact ⟨_, rfl, _, _, _, [], (p0 ++ (p1 ++ [])), [], hW', trodAll_cons_mk (shut_bool Tryd.underlying4 _) trodAll_mk0, trodAll_cons_mk (Below.trod laidOut (by kernel_rfl) (of_decide_eq_true (by kernel_rfl)) h0 hb hlt0) (trodAll_cons_mk (Below.trod laidOut (by kernel_rfl) (of_decide_eq_true (by kernel_rfl)) h1 hb hlt1) trodAll_mk0), rfl, hb.frame _, fun h => by cases h⟩

set_option maxRecDepth 100000 in
theorem lifted (os : Os) (started : os.Started) (H : Type) (enc : TypeId × Value → H) (F : Stop.Interp) :
    ReturnsInHanded {} Tryd.checked os 4 .any ((OpenSpec.ofChange Rows.pathGoesSpec).preRow enc Tryd.prog Tryd.f4 Rows.pathGoesRow.domain false Rows.pathGoesRow.laid) (((OpenSpec.ofChange Rows.pathGoesSpec).at F).post enc Tryd.prog Tryd.f4 false true false false) := by
  refine returnsInHanded_of_row (C := Tryd.checked) (s := OpenSpec.ofChange Rows.pathGoesSpec) own started (by kernel_rfl) Tryd.func4
    (witness_row_at (enc := enc) (C := Tryd.checked) false
      { World.holding Tryd.prog os ⟨#[], #[], []⟩ with heap := ((((World.holding Tryd.prog os ⟨#[], #[], []⟩).heap.modify 0 fun
          | .cells _ t frozen => .cells #[.iface 86 (.agg #[.pointer (some ⟨4, 23, none⟩)])] t frozen
          | o => o).modify 2 fun
          | .cells _ t frozen => .cells firstCells t frozen
          | o => o).modify 3 fun
          | .cells _ t frozen => .cells rangeCells t frozen
          | o => o) }
      #[.slice none 0 0, .slice none 0 0] rfl (by kernel_rfl) (by kernel_rfl) (by kernel_rfl)
      (OpenSpec.preRow_of_cond 8 (x := ([.nil, .nil], [], [])) (by kernel_rfl) (by kernel_rfl) (fun k hk => by cases hk) (by kernel_rfl) (laidMetH_of_parts (laidMet_of_run' 300 (by kernel_rfl) (by kernel_rfl)) (by kernel_rfl)))) ?_
  intro W base args ds gs before hval hW _ hcond hsz hL hSh _
  exact contract H enc W base args ds gs before hval hW hsz hL hSh

theorem said : Rows.PathGoesSaid :=
  OpenClaim.holds_of_cond 4 Tryd.f4 rfl rfl rfl rfl rfl rfl rfl ⟨rfl, rfl, rfl, rfl, rfl⟩ rfl rfl rfl rfl rfl (by kernel_rfl) Tryd.func4 (by kernel_rfl)
    (of_decide_eq_true (by kernel_rfl)) (by unfold Func.isWrapper; first | (rw [if_pos (by decide +kernel)]; kernel_rfl) | (rw [if_neg (by decide +kernel)]; exact ⟨rfl, rfl⟩))
    (fun os started H enc _ F => by rw [OpenClaim.pre_eq_preRow]; exact lifted os started H enc F)

theorem plain (f : FuncId) (fn : Func) (hf : Tryd.pinned.checked.prog.funcNamed Rows.pathGoesRow.func = some f) (hfn : Tryd.pinned.checked.prog.funcs[f]? = some fn) :
    true = Tryd.pinned.checked.prog.looks [] ∧ ∀ (j : Nat) t, fn.params[j]? = some t → Tryd.pinned.checked.prog.wantsStandIn t = false := by
  obtain rfl : f = 4 := Option.some.inj ((show Tryd.prog.funcNamed Rows.pathGoesRow.func = some 4 by kernel_rfl).symm.trans hf) |>.symm
  obtain rfl : fn = Tryd.f4 := (Option.some.inj (Tryd.func4.symm.trans hfn)).symm
  refine ⟨by kernel_rfl, fun j t ht => ?_⟩
  rw [Tryd.params4] at ht
  have hm : t = 31 := by simpa using Array.mem_of_getElem? ht
  rcases hm with rfl
  · exact (show Tryd.prog.wantsStandIn 31 = false by kernel_rfl)

theorem card : Rows.PathGoesCardSaid :=
  Claim7.holds_tied_plain_at .later [] _ _ _ _ said (fun _ h => by cases h) (by kernel_rfl) (fun _ h => by cases h) pathGoes_row_tie rfl ⟨rfl, rfl⟩ (by kernel_rfl) rfl plain (by kernel_rfl)
end Go.Proofs.YtmlgggnjghkojabDoor.pathGoes
