/-
  PROVED: for every string and every integer LinesPlain returns true, and both read afterwards as they read before. No condition.
-/
import Derived.Test.YtghdlfpjbmohbabExpand
import Derived.ProofKit
import Derived.OpenShut
import Derived.SizedLaws
namespace Go.Proofs.Ytghdlfpjbmohbab.linesPlain
open Go.ChangeShapes Go.WideShapes Go.ChangeAt Go.RowKit
open Go.ChangeMaps (open_string shut_string)

theorem own : ownKnob Try.prog.godebug = none := by kernel_rfl

theorem expand_x (w : World) : Calls Try.prog 4 #[.string ⟨#[9, 120]⟩, .int .i64 8] w fun e w' =>
    e = .returned (.tuple #[.string ⟨#[32, 32, 32, 32, 32, 32, 32, 32, 120]⟩, .nilIface]) ∧ Below w.heap.size w w' := by
  refine (expand_in ⟨#[9, 120]⟩ 8 w (by omega) (by omega) (by decide)).mono ?_
  rintro e w' ⟨t, u, rfl, _, h, hb⟩
  obtain ⟨rfl, rfl⟩ := h (by decide)
  exact ⟨rfl, hb⟩

theorem ret_true {a : Bool} (h : a = true) : Ending.returned (.bool a) = .returned (.bool true) := by rw [h]

set_option maxHeartbeats 2000000 in
/-- an Expand that fails, with a reason that the law lets -/
theorem walk_err (s : ByteArray) (wd : Int) (n : Int) (w : World) (hs : s.size ≤ 140737488351232)
    (hE : ∀ w, Calls Try.prog 4 #[.string s, .int .i64 wd] w fun e w' => e = .returned (.tuple #[.string ⟨#[]⟩, .iface 29 (.int .i64 n)]) ∧ Below w.heap.size w w')
    (hr : wd < 1 ∨ 255 < wd ∨ 16448 < s.size) :
    Calls Try.prog 3 #[.string s, .int .i64 wd] w fun e w' => e = .returned (.bool true) ∧ Below w.heap.size w w' := by
  have HE := hid hE
  clear hE
  go_enter Try.func3, Try.ntmps3
  go_wp2_with fail
  refine (HE.out _).mono ?_
  rintro e w1 ⟨rfl, hb1⟩
  go_wp2_with fail
  refine (expand_x _).mono ?_
  rintro e w2 ⟨rfl, hb2⟩
  go_wp2_with fail
  all_goals
    refine (sure_any _).mono ?_
    rintro e w3 ⟨rfl, hb3⟩
    go_wp2
    go_ret
    have z1 := hb1.size
    have z2 := hb2.size
    refine ⟨?_, hb1.trans ((hb2.mono z1).trans (hb3.mono (by omega)))⟩
    first | rfl | exact ret_true (by simp; omega)

set_option maxRecDepth 100000 in
set_option maxHeartbeats 2000000 in
/-- an Expand that answers -/
theorem walk_ok (s : ByteArray) (wd : Nat) (w : World) (h1 : 1 ≤ wd) (h2 : wd ≤ 255) (hs : s.size ≤ 4194304) (hl : ¬ 4194304 < (Pl.ex wd s.data.toList).1.length) :
    Calls Try.prog 3 #[.string s, .int .i64 wd] w fun e w' => e = .returned (.bool true) ∧ Below w.heap.size w w' := by
  obtain ⟨a1, _, _, a4, _, _⟩ := Pl.ex_all wd h1 h2 s.data.toList
  have hnum := Pl.num_ex wd h1 h2 s.data.toList
  have hself := Pl.ex_plain wd _ a4
  have hE : ∀ w, Calls Try.prog 4 #[.string s, .int .i64 wd] w fun e w' => e = .returned (.tuple #[.string ⟨(Pl.ex wd s.data.toList).1.toArray⟩, .nilIface]) ∧ Below w.heap.size w w' := by
    intro w
    refine (expand_in s wd w h1 h2 hs).mono ?_
    rintro e w' ⟨t, u, rfl, _, h, hb⟩
    obtain ⟨rfl, rfl⟩ := h hl
    exact ⟨rfl, hb⟩
  obtain ⟨T, hT⟩ : ∃ T : ByteArray, T = ⟨(Pl.ex wd s.data.toList).1.toArray⟩ := ⟨_, rfl⟩
  have hTd : T.data.toList = (Pl.ex wd s.data.toList).1 := by rw [hT]
  rw [← hT] at hE
  rw [← hTd] at a1 a4 hnum hself hl
  rw [size_data, size_data] at a1
  rw [size_data] at hl
  have hE2 : ∀ w, Calls Try.prog 4 #[.string T, .int .i64 wd] w fun e w' => e = .returned (.tuple #[.string T, .nilIface]) ∧ Below w.heap.size w w' := by
    intro w
    refine (expand_in T wd w h1 h2 (by omega)).mono ?_
    rintro e w' ⟨t, u, rfl, _, h, hb⟩
    obtain ⟨rfl, rfl⟩ := h (by rw [hself, size_data]; exact hl)
    exact ⟨by rw [hself, bytes_eta], hb⟩
  have HE := hid hE
  have HE2 := hid hE2
  have H9 := hid a4
  have HNUM := hid hnum
  clear hE hE2 a4 hnum hself hT hTd
  have hTs : T.size ≤ 4194304 := by omega
  clear hl
  go_enter Try.func3, Try.ntmps3
  go_wp2_with fail
  refine (HE.out _).mono ?_
  rintro e w1 ⟨rfl, hb1⟩
  go_wp2_with fail
  refine (expand_x _).mono ?_
  rintro e w2 ⟨rfl, hb2⟩
  go_wp2
  go_loop [9] (fun i => ∃ k : Nat, k ≤ T.size ∧ i = .int .i64 k) (fun i => T.size - (intOf i).toNat)
  case atStart => exact ⟨0, Nat.zero_le _, rfl⟩
  case round =>
    obtain ⟨k, hk, rfl⟩ := hrel
    by_cases hlt : k < T.size
    · have hne : ((T[k].toNat : Int) == 9) = false := by
        rw [show (9 : Int) = ((9 : Nat) : Int) from rfl, byte_num T[k] 9 (by omega)]
        refine decide_eq_false fun e => H9.out ?_
        have := List.mem_of_getElem? (byte_at T k hlt)
        rw [e] at this
        exact this
      go_wp2
      go_round
      case rel => exact ⟨k + 1, by omega, by go_num⟩
      case measure => simp [intOf]; omega
    · go_wp2_with fail
      refine (HE2.out _).mono ?_
      rintro e w3 ⟨rfl, hb3⟩
      go_wp2_with fail
      refine (count_any T _ (by unfold maxLen; omega)).mono ?_
      rintro e w4 ⟨rfl, rfl⟩
      go_wp2_with fail
      refine (count_any s _ (by unfold maxLen; omega)).mono ?_
      rintro e w5 ⟨rfl, rfl⟩
      rw [HNUM.out]
      go_wp2_with fail
      refine (sure_any _).mono ?_
      rintro e w6 ⟨rfl, hb6⟩
      go_wp2
      go_ret
      have z1 := hb1.size
      have z2 := hb2.size
      have z3 := hb3.size
      exact ⟨rfl, hb1.trans ((hb2.mono z1).trans ((hb3.mono (by omega)).trans (hb6.mono (by omega))))⟩

theorem walk (s : ByteArray) (wd : Int) (w : World) (hs : s.size ≤ 140737488351232) :
    Calls Try.prog 3 #[.string s, .int .i64 wd] w fun e w' => e = .returned (.bool true) ∧ Below w.heap.size w w' := by
  by_cases h : wd < 1 ∨ 255 < wd
  · exact walk_err s wd 1 w hs (fun w => (expand_arg s wd w h).mono fun e w' ⟨he, hw⟩ => ⟨he, hw ▸ Below.refl _ _⟩) (by omega)
  · obtain ⟨k, rfl⟩ := Int.eq_ofNat_of_zero_le (show 0 ≤ wd by omega)
    by_cases hz : 4194304 < s.size
    · exact walk_err s k 2 w hs (fun w => (expand_long s k w (by omega) (by omega) hz (by unfold maxLen; omega)).mono fun e w' ⟨he, hw⟩ => ⟨he, hw ▸ Below.refl _ _⟩) (by omega)
    · by_cases hl : 4194304 < (Pl.ex k s.data.toList).1.length
      · have hb := (Pl.ex_all k (by omega) (by omega) s.data.toList).2.1
        rw [size_data] at hb
        refine walk_err s k 2 w hs (fun w => (expand_in s k w (by omega) (by omega) (by omega)).mono ?_) (by omega)
        rintro e w' ⟨t, u, rfl, h', _, hb⟩
        obtain ⟨rfl, rfl⟩ := h' hl
        exact ⟨rfl, hb⟩
      · exact walk_ok s k w (by omega) (by omega) (by omega) hl

theorem contract (H : Type) (enc : TypeId × Value → H) (W : World) (base : Nat) (args : Array Value) (ds gs : List (DataW H)) (before : List MemPlace)
    (hval : ∀ (j : Nat) t v, Try.f3.params[j]? = some t → args[j]? = some v → Value.okWide Try.prog W .any base t v)
    (hW : DataW.Whole enc Try.prog Try.f3.params.toList Rows.linesPlainSpec.vars false W args.toList ds gs before)
    (hsz : (DataW.weightsEach Try.prog (Try.f3.params.toList ++ Rows.linesPlainSpec.plain.varTypes Try.prog) (ds ++ gs)).all (· ≤ reachBytes) = true) :
    Calls Try.prog 3 args W fun e W' => ∃ v, e = .returned v ∧ Rows.linesPlainSpec.post enc Try.prog Try.f3 false true false false W args v W' := by
  have hW' := hW
  obtain ⟨p, q, hA0, hV, rfl, hfz, hnd⟩ := hW
  have hA : DataW.TrodAll enc Try.prog W 0 (fun _ => true) true Try.f3.params.toList args.toList ds p := hA0
  rw [Try.params3] at hA hval hsz
  obtain ⟨v0, v1, d0, d1, p0, p1, hargs, rfl, rfl, h0, h1⟩ := trodAll_two hA
  obtain rfl : args = #[v0, v1] := by cases args; simp_all
  obtain ⟨rfl, rfl⟩ := trodVars_none hV
  obtain ⟨s, rfl, rfl, rfl, hmax⟩ := open_string Try.underlying9 (hval 0 9 v0 rfl rfl) h0
  obtain ⟨o, rfl, rfl, rfl, wo⟩ := open_int Try.underlying3 (hval 1 3 v1 rfl rfl) h1
  have hlen := sized_string hsz (j := 0) (t := 9) rfl rfl
  rw [size_data] at hlen
  clear hA0 hsz
  simp only [List.append_nil] at hW'
  refine (walk s o W hlen).mono fun e W' ⟨he, hb⟩ => ?_
  subst he
  exact ⟨_, rfl, _, _, _, [], [], [], hW', trodAll_cons_mk (shut_bool Try.underlying4 _) trodAll_mk0, trodAll_mk2 (shut_string Try.underlying9 hmax) (shut_int Try.underlying3 wo), rfl, hb.frame _, fun h => by cases h⟩

set_option maxRecDepth 100000 in
theorem lifted (os : Os) (started : os.Started) (H : Type) (enc : TypeId × Value → H) :
    ReturnsInHanded {} Try.checked os 3 .any (Rows.linesPlainSpec.pre6 enc Try.prog Try.f3 Rows.linesPlainRow.domain false) (Rows.linesPlainSpec.post enc Try.prog Try.f3 false true false false) := by
  refine returnsInHanded_of_change_sized (C := Try.checked) own started (by kernel_rfl) Try.func3
    (ChangeSpec.witness6 (enc := enc) (C := Try.checked) (s := Rows.linesPlainSpec) false ⟨#[], #[.string .empty, .int .i64 0], []⟩ 8 (by kernel_rfl) (by kernel_rfl) (by kernel_rfl) (by kernel_rfl)) ?_
  intro W base args ds gs before hval hW _ hsz _
  exact contract H enc W base args ds gs before hval hW hsz

theorem proved : Rows.LinesPlainSaid :=
  OpenClaim.holds_of_wide 3 Try.f3 rfl rfl rfl rfl rfl rfl rfl ⟨rfl, rfl, rfl, rfl, rfl⟩ rfl rfl rfl rfl rfl (by kernel_rfl) Try.func3 (by kernel_rfl)
    (of_decide_eq_true (by kernel_rfl)) (by unfold Func.isWrapper; first | (rw [if_pos (by decide +kernel)]; kernel_rfl) | (rw [if_neg (by decide +kernel)]; exact ⟨rfl, rfl⟩))
    (fun os started H enc _ => lifted os started H enc)
end Go.Proofs.Ytghdlfpjbmohbab.linesPlain
