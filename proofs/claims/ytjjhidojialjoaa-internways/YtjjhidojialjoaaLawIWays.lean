/-
  PROVED: for every two strings and every integer InternWays returns true, and all read afterwards as they read before. No condition.
-/
import Derived.Test.YtjjhidojialjoaaNa
import Derived.ProofKit
import Derived.OpenShut
import Derived.LaidLaws
import Derived.LaidHandle
import Derived.SizedLaws
import Derived.Deep.DeepHandedRow
namespace Go.Proofs.Ytjjhidojialjoaa.internWays
open Go.ChangeShapes Go.WideShapes Go.ChangeAt Go.RowKit
open Go.ChangeMaps (open_string shut_string)

set_option maxHeartbeats 4000000 in
theorem walk (s t : ByteArray) (e : Int) (w : World) (hs : s.size ≤ 140737488351232) (ht : t.size ≤ 140737488351232) :
    Calls Try.prog 5 #[.string s, .string t, .int .i64 e] w fun r w' => r = .returned (.bool true) ∧ Below w.heap.size w w' := by
  obtain ⟨n, hn, hbits⟩ := bits_15 e
  have HA1 := hid (fun (m : Nat) (hm : m ≤ 15) (h : (bits .and .i64 (m : Int) (n : Int) == (n : Int)) = true) => alk_more s t m n hm hn (ways_in m n hm hn h).1 (ways_in m n hm hn h).2)
  have HA2 : Hid (alk s t 8 = true → alk s t 4 = true) := hid (alk_more s t 4 8 (by omega) (by omega) (by decide) (by decide))
  have HA3 : Hid (alk s t 4 = true → alk s t 2 = true) := hid (alk_more s t 2 4 (by omega) (by omega) (by decide) (by decide))
  have HA4 := hid (alk_same s t (n : Int))
  have HC := hid (fun (m : Int) (w' : World) (h1 : w'.cell? ⟨w.heap.size, 0, none⟩ = some (.string s)) (h2 : w'.cell? ⟨w.heap.size + 1, 0, none⟩ = some (.string t)) => alike_any s t m _ _ w' hs ht h1 h2)
  generalize alk s t = A at HA1 HA2 HA3 HA4 HC
  go_enter Try.func5, Try.ntmps5
  have hz0 : w.heap.size ≤ w.heap.size := Nat.le_refl _
  have c1 : ((w.alloc (.cells #[.string s] 9)).alloc (.cells #[.string t] 9)).cell? ⟨w.heap.size, 0, none⟩ = some (.string s) := by
    rw [((Below.refl (w.heap.size + 1) (w.alloc (.cells #[.string s] 9))).alloc (by simp) _).cell (p := ⟨w.heap.size, 0, none⟩) (by simp)]
    exact cell_one_new w (.string s) 9 0 _ rfl
  have c2 : ((w.alloc (.cells #[.string s] 9)).alloc (.cells #[.string t] 9)).cell? ⟨w.heap.size + 1, 0, none⟩ = some (.string t) := by
    simp
  have hb0 : Below w.heap.size w ((w.alloc (.cells #[.string s] 9)).alloc (.cells #[.string t] 9)) := ((Below.refl _ _).alloc (Nat.le_refl _) _).alloc (by simp) _
  go_wp2
  go_loopw [8] (fun i wr => ∃ m : Nat, m ≤ 16 ∧ i = .int .i64 m ∧ Below w.heap.size w wr ∧ wr.cell? ⟨w.heap.size, 0, none⟩ = some (.string s) ∧ wr.cell? ⟨w.heap.size + 1, 0, none⟩ = some (.string t)) (fun i _ => 16 - (intOf i).toNat)
  case atStart => exact ⟨0, by omega, rfl, hb0, c1, c2⟩
  case round =>
    obtain ⟨m, hm, rfl, hB, c3, c4⟩ := hrel
    clear c1 c2 hb0
    by_cases hlt : m < 16
    · cases hAn : A (n : Int) with
      | false =>
        go_wp2_with (go_at_call 13; refine (HC.out _ _ (by assumption) (by assumption)).mono ?_; rintro r wn ⟨rfl, hbn⟩; have hBn := two_b hbn hz0 (by assumption); have hc1 := cell_later (b := w.heap.size) (v := .string s) (by assumption) hbn; have hc2 := cell_later (b := w.heap.size + 1) (v := .string t) (by assumption) hbn)
        go_roundw
        case rel => exact ⟨m + 1, by omega, by go_num, by assumption, by assumption, by assumption⟩
        case measure => simp [intOf]; omega
      | true =>
        cases hc : (bits .and .i64 (m : Int) (n : Int) == (n : Int)) with
        | false =>
          go_wp2_with (go_at_call 13; refine (HC.out _ _ (by assumption) (by assumption)).mono ?_; rintro r wn ⟨rfl, hbn⟩; have hBn := two_b hbn hz0 (by assumption); have hc1 := cell_later (b := w.heap.size) (v := .string s) (by assumption) hbn; have hc2 := cell_later (b := w.heap.size + 1) (v := .string t) (by assumption) hbn)
          go_roundw
          case rel => exact ⟨m + 1, by omega, by go_num, by assumption, by assumption, by assumption⟩
          case measure => simp [intOf]; omega
        | true =>
          have hAm := HA1.out m (by omega) hc hAn
          go_wp2_with (go_at_call 13; refine (HC.out _ _ (by assumption) (by assumption)).mono ?_; rintro r wn ⟨rfl, hbn⟩; have hBn := two_b hbn hz0 (by assumption); have hc1 := cell_later (b := w.heap.size) (v := .string s) (by assumption) hbn; have hc2 := cell_later (b := w.heap.size + 1) (v := .string t) (by assumption) hbn)
          go_roundw
          case rel => exact ⟨m + 1, by omega, by go_num, by assumption, by assumption, by assumption⟩
          case measure => simp [intOf]; omega
    · have hend : decide ((m : Int) < 16) = false := decide_eq_false (by omega)
      clear hbits
      cases hst : (s.toList == t.toList) with
      | false =>
        cases h8 : A 8 with
        | false =>
          cases h4 : A 4 with
          | false =>
            go_wp2_with (first | (go_at_call 13; refine (HC.out _ _ (by assumption) (by assumption)).mono ?_; rintro r wn ⟨rfl, hbn⟩; have hBn := two_b hbn hz0 (by assumption); have hc1 := cell_later (b := w.heap.size) (v := .string s) (by assumption) hbn; have hc2 := cell_later (b := w.heap.size + 1) (v := .string t) (by assumption) hbn) | (go_at_call 11; refine (sure_any _).mono ?_; rintro r wn ⟨rfl, hbn⟩; have hBn := two_b hbn hz0 (by assumption)))
            go_ret
            exact ⟨rfl, by assumption⟩
          | true =>
            have h2 := HA3.out h4
            go_wp2_with (first | (go_at_call 13; refine (HC.out _ _ (by assumption) (by assumption)).mono ?_; rintro r wn ⟨rfl, hbn⟩; have hBn := two_b hbn hz0 (by assumption); have hc1 := cell_later (b := w.heap.size) (v := .string s) (by assumption) hbn; have hc2 := cell_later (b := w.heap.size + 1) (v := .string t) (by assumption) hbn) | (go_at_call 11; refine (sure_any _).mono ?_; rintro r wn ⟨rfl, hbn⟩; have hBn := two_b hbn hz0 (by assumption)))
            go_ret
            exact ⟨rfl, by assumption⟩
        | true =>
          have h4 := HA2.out h8
          have h2 := HA3.out h4
          go_wp2_with (first | (go_at_call 13; refine (HC.out _ _ (by assumption) (by assumption)).mono ?_; rintro r wn ⟨rfl, hbn⟩; have hBn := two_b hbn hz0 (by assumption); have hc1 := cell_later (b := w.heap.size) (v := .string s) (by assumption) hbn; have hc2 := cell_later (b := w.heap.size + 1) (v := .string t) (by assumption) hbn) | (go_at_call 11; refine (sure_any _).mono ?_; rintro r wn ⟨rfl, hbn⟩; have hBn := two_b hbn hz0 (by assumption)))
          go_ret
          exact ⟨rfl, by assumption⟩
      | true =>
        have hAn := HA4.out hst
        cases h8 : A 8 with
        | false =>
          cases h4 : A 4 with
          | false =>
            go_wp2_with (first | (go_at_call 13; refine (HC.out _ _ (by assumption) (by assumption)).mono ?_; rintro r wn ⟨rfl, hbn⟩; have hBn := two_b hbn hz0 (by assumption); have hc1 := cell_later (b := w.heap.size) (v := .string s) (by assumption) hbn; have hc2 := cell_later (b := w.heap.size + 1) (v := .string t) (by assumption) hbn) | (go_at_call 11; refine (sure_any _).mono ?_; rintro r wn ⟨rfl, hbn⟩; have hBn := two_b hbn hz0 (by assumption)))
            go_ret
            exact ⟨rfl, by assumption⟩
          | true =>
            have h2 := HA3.out h4
            go_wp2_with (first | (go_at_call 13; refine (HC.out _ _ (by assumption) (by assumption)).mono ?_; rintro r wn ⟨rfl, hbn⟩; have hBn := two_b hbn hz0 (by assumption); have hc1 := cell_later (b := w.heap.size) (v := .string s) (by assumption) hbn; have hc2 := cell_later (b := w.heap.size + 1) (v := .string t) (by assumption) hbn) | (go_at_call 11; refine (sure_any _).mono ?_; rintro r wn ⟨rfl, hbn⟩; have hBn := two_b hbn hz0 (by assumption)))
            go_ret
            exact ⟨rfl, by assumption⟩
        | true =>
          have h4 := HA2.out h8
          have h2 := HA3.out h4
          go_wp2_with (first | (go_at_call 13; refine (HC.out _ _ (by assumption) (by assumption)).mono ?_; rintro r wn ⟨rfl, hbn⟩; have hBn := two_b hbn hz0 (by assumption); have hc1 := cell_later (b := w.heap.size) (v := .string s) (by assumption) hbn; have hc2 := cell_later (b := w.heap.size + 1) (v := .string t) (by assumption) hbn) | (go_at_call 11; refine (sure_any _).mono ?_; rintro r wn ⟨rfl, hbn⟩; have hBn := two_b hbn hz0 (by assumption)))
          go_ret
          exact ⟨rfl, by assumption⟩

theorem own : ownKnob Try.prog.godebug = none := by kernel_rfl

set_option maxRecDepth 100000 in
theorem contract (H : Type) (enc : TypeId × Value → H) (W : World) (base : Nat) (args : Array Value) (ds gs : List (DataW H)) (before : List MemPlace)
    (hval : ∀ (j : Nat) t v, Try.f5.params[j]? = some t → args[j]? = some v → Value.okWide Try.prog W .any base t v)
    (hW : DataW.Whole enc Try.prog Try.f5.params.toList Rows.internWaysSpec.vars false W args.toList ds gs before)
    (hsz : (DataW.weightsEach Try.prog (Try.f5.params.toList ++ Rows.internWaysSpec.plain.varTypes Try.prog) (ds ++ gs)).all (· ≤ reachBytes) = true)
    : Calls Try.prog 5 args W fun e W' => ∃ v, e = .returned v ∧ Rows.internWaysSpec.post enc Try.prog Try.f5 false true false false W args v W' := by
  have hW' := hW
  obtain ⟨p, q, hA0, hV, rfl, hfz, hnd⟩ := hW
  have hA : DataW.TrodAll enc Try.prog W 0 (fun _ => true) true Try.f5.params.toList args.toList ds p := hA0
  rw [Try.params5] at hA hval hsz
  obtain ⟨v0, vs0, d0, ds0, p0, q0, hargs0, rfl, rfl, h0, r0⟩ := trodAll_cons hA
  obtain ⟨v1, vs1, d1, ds1, p1, q1, hargs1, rfl, rfl, h1, r1⟩ := trodAll_cons r0
  obtain ⟨v2, vs2, d2, ds2, p2, q2, hargs2, rfl, rfl, h2, r2⟩ := trodAll_cons r1
  obtain ⟨rfl, rfl, rfl⟩ := trodAll_nil r2
  obtain rfl : args = #[v0, v1, v2] := by cases args; simp_all
  obtain ⟨rfl, rfl⟩ := trodVars_none hV
  obtain ⟨x0, rfl, rfl, rfl, hmax0⟩ := open_string Try.underlying9 (hval 0 9 v0 rfl rfl) h0
  obtain ⟨x1, rfl, rfl, rfl, hmax1⟩ := open_string Try.underlying9 (hval 1 9 v1 rfl rfl) h1
  obtain ⟨x2, rfl, rfl, rfl, hmax2⟩ := open_int Try.underlying3 (hval 2 3 v2 rfl rfl) h2
  have hlen0 : x0.size ≤ 140737488351232 := by
    have := sized_string hsz (j := 0) (t := 9) rfl rfl
    rwa [size_data] at this
  have hlen1 : x1.size ≤ 140737488351232 := by
    have := sized_string hsz (j := 1) (t := 9) rfl rfl
    rwa [size_data] at this
  clear hA0 hsz
  simp only [List.append_nil] at hW'
  refine (walk x0 x1 x2 W hlen0 hlen1).mono fun e W' ⟨he, hb⟩ => ?_
  subst he
  exact ⟨_, rfl, _, _, _, [], [], [], hW', trodAll_cons_mk (shut_bool Try.underlying4 _) trodAll_mk0, trodAll_cons_mk (shut_string Try.underlying9 hmax0) (trodAll_cons_mk (shut_string Try.underlying9 hmax1) (trodAll_cons_mk (shut_int Try.underlying3 hmax2) trodAll_mk0)), rfl, hb.frame _, fun h => by cases h⟩

set_option maxRecDepth 100000 in
theorem lifted (os : Os) (started : os.Started) (H : Type) (enc : TypeId × Value → H) (F : Stop.Interp) :
    ReturnsInHanded {} Try.checked os 5 .any ((OpenSpec.ofChange Rows.internWaysSpec).preRow enc Try.prog Try.f5 Rows.internWaysRow.domain false Rows.internWaysRow.laid) (((OpenSpec.ofChange Rows.internWaysSpec).at F).post enc Try.prog Try.f5 false true false false) := by
  refine returnsInHanded_of_row (C := Try.checked) (s := OpenSpec.ofChange Rows.internWaysSpec) own started (by kernel_rfl) Try.func5
    (witness_row_at (enc := enc) (C := Try.checked) false
      (World.holding Try.prog os ⟨#[], #[], []⟩)
      #[.string .empty, .string .empty, .int .i64 0] rfl (by kernel_rfl) (by kernel_rfl) (by kernel_rfl)
      (OpenSpec.preRow_of_cond 8 (x := ([.lit (.string []), .lit (.string []), .lit (.int .i64 0)], [], [])) (by kernel_rfl) (by kernel_rfl) (fun k hk => by cases hk) (by kernel_rfl) (laidMetH_of_parts (laidMet_nil _ _) (by kernel_rfl)))) ?_
  intro W base args ds gs before hval hW _ hcond hsz hL _ _
  exact contract H enc W base args ds gs before hval hW hsz

theorem proved : Rows.InternWaysSaid :=
  OpenClaim.holds_of_cond 5 Try.f5 rfl rfl rfl rfl rfl rfl rfl ⟨rfl, rfl, rfl, rfl, rfl⟩ rfl rfl rfl rfl rfl (by kernel_rfl) Try.func5 (by kernel_rfl)
    (of_decide_eq_true (by kernel_rfl)) (by unfold Func.isWrapper; first | (rw [if_pos (by decide +kernel)]; kernel_rfl) | (rw [if_neg (by decide +kernel)]; exact ⟨rfl, rfl⟩))
    (fun os started H enc _ F => by rw [OpenClaim.pre_eq_preRow]; exact lifted os started H enc F)

end Go.Proofs.Ytjjhidojialjoaa.internWays
