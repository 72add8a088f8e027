/-
  PROVED: the card of LinesExpands: for every string and every integer LinesExpands returns true, and both read afterwards as they read before; the card ties what errors.errorType holds to the program's text (a pruned copy of the project: the packages that this law loads).
-/
import Derived.Test.YtghdlfpjbmohbabDoorExpandRef
import Derived.Test.YtghdlfpjbmohbabDoorNum
import Derived.Test.YtghdlfpjbmohbabDoorCards
import Derived.Test.YtghdlfpjbmohbabDoorTie
import Derived.ProofKit
import Derived.OpenShut
import Derived.LaidLaws
import Derived.LaidHandle
import Derived.SevenTiedAt
namespace Go.Proofs.YtghdlfpjbmohbabDoor.linesExpands
open Go.ChangeShapes Go.WideShapes Go.ChangeAt Go.RowKit
open Go.ChangeMaps (open_string shut_string)

theorem own : ownKnob Tryd.prog.godebug = none := by kernel_rfl
theorem et : Tryd.prog.globalNamed "errors.errorType" = some 0 := by kernel_rfl
theorem oneRow : ((List.range 125).filter fun t => Tryd.prog.rowNamed t [101, 114, 114, 111, 114]) = [23] := by kernel_rfl
theorem size : Tryd.prog.types.size = 125 := by kernel_rfl

theorem handle_of_laid {W : World} (h : laidMetH Tryd.prog Rows.linesExpandsRow.laid W) : ErrVar W := by
  have h' : laidMet Tryd.prog [] W ∧ handlesMet Tryd.prog Rows.linesExpandsRow.laid W := h
  obtain ⟨name, u, ty, e1, e2, e3, e4, e5⟩ := h'.2 _ (List.mem_singleton.2 rfl)
  have en : name = [101, 114, 114, 111, 114] := (Option.some.inj e1).symm
  subst en
  obtain rfl : u = 78 := Option.some.inj (e2.symm.trans (by kernel_rfl))
  have hm : ty ∈ (List.range 125).filter fun t => Tryd.prog.rowNamed t [101, 114, 114, 111, 114] := List.mem_filter.2 ⟨List.mem_range.2 (by rw [← size]; exact e3), e4⟩
  rw [oneRow] at hm
  obtain rfl := List.mem_singleton.1 hm
  have hh : typeHandle Tryd.prog 23 = .pointer (some ⟨2, 23, none⟩) := by kernel_rfl
  rw [hh] at e5
  unfold ErrVar
  simpa using World.var?_cell et e5 0

theorem expand_ab (w : World) : Calls Tryd.prog 4 #[.string ⟨#[97, 9, 98, 10, 9]⟩, .int .i64 4] w fun e w' =>
    e = .returned (.tuple #[.string ⟨#[97, 32, 32, 32, 98, 10, 32, 32, 32, 32]⟩, .nilIface]) ∧ Below w.heap.size w w' := by
  refine (expand_in ⟨#[97, 9, 98, 10, 9]⟩ 4 w (by omega) (by omega) (by decide)).mono ?_
  rintro e w' ⟨t, u, rfl, _, h, hb⟩
  obtain ⟨rfl, rfl⟩ := h (by decide)
  exact ⟨rfl, hb⟩

/-- what both Expands answer, and the number of the error -/
theorem both (s : ByteArray) (wd : Int) (hs : s.size ≤ maxLen) : ∃ (T : ByteArray) (u : Value) (n : Int),
    (∀ w, Calls Tryd.prog 4 #[.string s, .int .i64 wd] w fun e w' => e = .returned (.tuple #[.string T, u]) ∧ Below w.heap.size w w') ∧
    (∀ w, Calls Tryd.prog 5 #[.string s, .int .i64 wd] w fun e w' => e = .returned (.tuple #[.string T, .int .i64 n]) ∧ Below w.heap.size w w') ∧
    (∀ w, ErrVar w → Calls Tryd.prog 6 #[u] w fun e w' => e = .returned (.int .i64 n) ∧ Below w.heap.size w w') := by
  by_cases h : wd < 1 ∨ 255 < wd
  · exact ⟨⟨#[]⟩, .iface 31 (.int .i64 1), 1, fun w => (expand_arg s wd w h).mono fun e w' ⟨he, hw⟩ => ⟨he, hw ▸ Below.refl _ _⟩, fun w => (refExpand_arg s wd w h).mono fun e w' ⟨he, hw⟩ => ⟨he, hw ▸ Below.refl _ _⟩, fun w hg => num_errno 1 w hg⟩
  · obtain ⟨k, rfl⟩ := Int.eq_ofNat_of_zero_le (show 0 ≤ wd by omega)
    by_cases hz : 4194304 < s.size
    · exact ⟨⟨#[]⟩, .iface 31 (.int .i64 2), 2, fun w => (expand_long s k w (by omega) (by omega) hz hs).mono fun e w' ⟨he, hw⟩ => ⟨he, hw ▸ Below.refl _ _⟩, fun w => (refExpand_long s k w (by omega) (by omega) hz).mono fun e w' ⟨he, hw⟩ => ⟨he, hw ▸ Below.refl _ _⟩, fun w hg => num_errno 2 w hg⟩
    · by_cases hl : 4194304 < (Pl.ex k s.data.toList).1.length
      · refine ⟨⟨#[]⟩, .iface 31 (.int .i64 2), 2, fun w => (expand_in s k w (by omega) (by omega) (by omega)).mono ?_, fun w => (refExpand_in s k w (by omega) (by omega) (by omega)).mono ?_, fun w hg => num_errno 2 w hg⟩
        · rintro e w' ⟨t, u, rfl, h', _, hb⟩
          obtain ⟨rfl, rfl⟩ := h' hl
          exact ⟨rfl, hb⟩
        · rintro e w' ⟨t, u, rfl, h', _, hb⟩
          obtain ⟨rfl, rfl⟩ := h' hl
          exact ⟨rfl, hb⟩
      · refine ⟨⟨(Pl.ex k s.data.toList).1.toArray⟩, .nilIface, 0, fun w => (expand_in s k w (by omega) (by omega) (by omega)).mono ?_, fun w => (refExpand_in s k w (by omega) (by omega) (by omega)).mono ?_, fun w _ => num_nil w⟩
        · rintro e w' ⟨t, u, rfl, _, h', hb⟩
          obtain ⟨rfl, rfl⟩ := h' hl
          exact ⟨rfl, hb⟩
        · rintro e w' ⟨t, u, rfl, _, h', hb⟩
          obtain ⟨rfl, rfl⟩ := h' hl
          exact ⟨rfl, hb⟩

set_option maxHeartbeats 2000000 in
theorem walk (s : ByteArray) (wd : Int) (w : World) (hs : s.size ≤ maxLen) (hg : ErrVar w) :
    Calls Tryd.prog 3 #[.string s, .int .i64 wd] w fun e w' => e = .returned (.bool true) ∧ Below w.heap.size w w' := by
  obtain ⟨T, u, n, h1, h2, h3⟩ := both s wd hs
  have H1 := hid h1
  have H2 := hid h2
  have H3 := hid h3
  have HG := hid hg
  clear h1 h2 h3 hg
  go_enter Tryd.func3, Tryd.ntmps3
  go_wp2_with fail
  refine (H1.out _).mono ?_
  rintro e w1 ⟨rfl, hb1⟩
  go_wp2_with fail
  refine (H2.out _).mono ?_
  rintro e w2 ⟨rfl, hb2⟩
  go_wp2_with fail
  refine (expand_ab _).mono ?_
  rintro e w3 ⟨rfl, hb3⟩
  have HG3 := hid (((HG.out.below hb1).below hb2).below hb3)
  go_wp2_with fail
  refine (H3.out _ HG3.out).mono ?_
  rintro e w4 ⟨rfl, hb4⟩
  go_wp2_with fail
  refine (sure_any _).mono ?_
  rintro e w5 ⟨rfl, hb5⟩
  go_wp2
  go_ret
  have z1 := hb1.size
  have z2 := hb2.size
  have z3 := hb3.size
  have z4 := hb4.size
  exact ⟨rfl, hb1.trans ((hb2.mono z1).trans ((hb3.mono (by omega)).trans ((hb4.mono (by omega)).trans (hb5.mono (by omega)))))⟩

set_option maxRecDepth 100000 in
theorem contract (H : Type) (enc : TypeId × Value → H) (W : World) (base : Nat) (args : Array Value) (ds gs : List (DataW H)) (before : List MemPlace)
    (hval : ∀ (j : Nat) t v, Tryd.f3.params[j]? = some t → args[j]? = some v → Value.okWide Tryd.prog W .any base t v)
    (hW : DataW.Whole enc Tryd.prog Tryd.f3.params.toList Rows.linesExpandsSpec.vars false W args.toList ds gs before) (hL : laidMetH Tryd.prog Rows.linesExpandsRow.laid W) :
    Calls Tryd.prog 3 args W fun e W' => ∃ v, e = .returned v ∧ Rows.linesExpandsSpec.post enc Tryd.prog Tryd.f3 false true false false W args v W' := by
  have hW' := hW
  obtain ⟨p, q, hA0, hV, rfl, hfz, hnd⟩ := hW
  have hA : DataW.TrodAll enc Tryd.prog W 0 (fun _ => true) true Tryd.f3.params.toList args.toList ds p := hA0
  rw [Tryd.params3] at hA hval
  obtain ⟨v0, v1, d0, d1, p0, p1, hargs, rfl, rfl, h0, h1⟩ := trodAll_two hA
  obtain rfl : args = #[v0, v1] := by cases args; simp_all
  obtain ⟨rfl, rfl⟩ := trodVars_none hV
  obtain ⟨s, rfl, rfl, rfl, hmax⟩ := open_string Tryd.underlying9 (hval 0 9 v0 rfl rfl) h0
  obtain ⟨o, rfl, rfl, rfl, wo⟩ := open_int Tryd.underlying3 (hval 1 3 v1 rfl rfl) h1
  clear hA0
  simp only [List.append_nil] at hW'
  refine (walk s o W hmax (handle_of_laid hL)).mono fun e W' ⟨he, hb⟩ => ?_
  subst he
  exact ⟨_, rfl, _, _, _, [], [], [], hW', trodAll_cons_mk (shut_bool Tryd.underlying4 _) trodAll_mk0, trodAll_mk2 (shut_string Tryd.underlying9 hmax) (shut_int Tryd.underlying3 wo), rfl, hb.frame _, fun h => by cases h⟩

set_option maxRecDepth 100000 in
theorem lifted (os : Os) (started : os.Started) (H : Type) (enc : TypeId × Value → H) :
    ReturnsInHanded {} Tryd.checked os 3 .any (fun w args => (Rows.linesExpandsSpec.pre enc Tryd.prog Tryd.f3 [] false w args ∧ laidMetH Tryd.prog Rows.linesExpandsRow.laid w) ∧ sizedMet enc Tryd.prog Tryd.f3 (OpenSpec.ofChange Rows.linesExpandsSpec) false w args)
      (Rows.linesExpandsSpec.post enc Tryd.prog Tryd.f3 false true false false) := by
  refine returnsInHanded_of_change_and (C := Tryd.checked) (X := fun w _ => laidMetH Tryd.prog Rows.linesExpandsRow.laid w) (fun _ _ _ hh h => h.of_heap hh) own started (by kernel_rfl) Tryd.func3
    (ChangeSpec.witness_at (enc := enc) (C := Tryd.checked) (os := os) (X := fun w _ => laidMetH Tryd.prog Rows.linesExpandsRow.laid w) false
      { World.holding Tryd.prog os ⟨#[], #[], []⟩ with heap := (World.holding Tryd.prog os ⟨#[], #[], []⟩).heap.modify 0 fun
          | .cells _ t frozen => .cells #[.iface 78 (.agg #[.pointer (some ⟨2, 23, none⟩)])] t frozen
          | o => o }
      #[.string .empty, .int .i64 0] 8 rfl (by kernel_rfl) (by kernel_rfl) (by kernel_rfl) (by kernel_rfl) (by kernel_rfl) (laidMetH_of_parts (laidMet_nil _ _) (by kernel_rfl))) ?_
  intro W base args ds gs before hval hW _ _ hL _
  exact contract H enc W base args ds gs before hval hW hL

theorem said : Rows.LinesExpandsSaid :=
  OpenClaim.holds_of_wide 3 Tryd.f3 rfl rfl rfl rfl rfl rfl rfl ⟨rfl, rfl, rfl, rfl, rfl⟩ rfl rfl rfl rfl rfl (by kernel_rfl) Tryd.func3 (by kernel_rfl)
    (of_decide_eq_true (by kernel_rfl)) (by unfold Func.isWrapper; first | (rw [if_pos (by decide +kernel)]; kernel_rfl) | (rw [if_neg (by decide +kernel)]; exact ⟨rfl, rfl⟩))
    (fun os started H enc _ => lifted os started H enc)

theorem plain (f : FuncId) (fn : Func) (hf : Tryd.pinned.checked.prog.funcNamed Rows.linesExpandsRow.func = some f) (hfn : Tryd.pinned.checked.prog.funcs[f]? = some fn) :
    true = Tryd.pinned.checked.prog.looks [] ∧ ∀ (j : Nat) t, fn.params[j]? = some t → Tryd.pinned.checked.prog.wantsStandIn t = false := by
  obtain rfl : f = 3 := Option.some.inj ((show Tryd.prog.funcNamed Rows.linesExpandsRow.func = some 3 by kernel_rfl).symm.trans hf) |>.symm
  obtain rfl : fn = Tryd.f3 := (Option.some.inj (Tryd.func3.symm.trans hfn)).symm
  refine ⟨by kernel_rfl, fun j t ht => ?_⟩
  rw [Tryd.params3] at ht
  have hm : t = 9 ∨ t = 3 := by simpa using Array.mem_of_getElem? ht
  rcases hm with rfl | rfl
  · exact (show Tryd.prog.wantsStandIn 9 = false by kernel_rfl)
  · exact (show Tryd.prog.wantsStandIn 3 = false by kernel_rfl)

theorem card : Rows.LinesExpandsCardSaid :=
  Claim7.holds_tied_plain_at .later [] _ _ _ _ said (fun _ h => by cases h) (by kernel_rfl) (fun _ h => by cases h) linesExpands_row_tie rfl ⟨rfl, rfl⟩ (by kernel_rfl) rfl plain (by kernel_rfl)
end Go.Proofs.YtghdlfpjbmohbabDoor.linesExpands
