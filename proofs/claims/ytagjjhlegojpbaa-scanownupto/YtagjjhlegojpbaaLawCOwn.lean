/-
  PROVED: for every two texts ScanOwn returns true, and what was handed in reads afterwards as it read before; the condition: what the arguments hold is at most 1048576 in bulk.
-/
import Derived.Deep.AppendLies
import Derived.Test.YtagjjhlegojpbaaYj
import Derived.Test.YtagjjhlegojpbaaYk
import Derived.ProofKit
import Derived.OpenShut
import Derived.LaidLaws
import Derived.LaidHandle
import Derived.SizedLaws
import Derived.Deep.DeepHandedRow
namespace Go.Proofs.Ytagjjhlegojpbaa.scanOwn
open Go.ChangeShapes Go.WideShapes Go.ChangeAt Go.RowKit
open Go.ChangeMaps (open_string shut_string)
open Ed (Ch Pr)

theorem size_data (s : ByteArray) : s.data.toList.length = s.size := by rw [Array.length_toList]; rfl
set_option maxHeartbeats 4000000 in
set_option maxRecDepth 100000 in
theorem walk (x0 x1 : ByteArray) (w : World) (h0 : x0.size ≤ 1048576) (h1 : x1.size ≤ 1048576) :
    Calls Try.prog 7 #[.string x0, .string x1] w fun e w' => e = .returned (.bool true) ∧ Below w.heap.size w w' := by
  have HA : Hid (∀ w', Calls Try.prog 13 #[.string x0, .string x1, .int .i64 (-1)] w' fun e w'' => ∃ v, e = .returned v ∧ OwnU w'' w'.heap.size v (plc x0 x1) ∧ Below w'.heap.size w' w'') := hid fun w' => all_any x0 x1 (-1) w' (by omega) (by omega)
  have HR : Hid (∀ w', Calls Try.prog 14 #[.string x0, .string x1, .int .i64 (-1)] w' fun e w'' => ∃ v, e = .returned v ∧ OwnU2 w'' w'.heap.size v (plc x0 x1) ∧ Below w'.heap.size w' w'') := hid fun w' => refAll_any x0 x1 (-1) w' (by omega) (by omega)
  have HL : Hid ((plc x0 x1).length ≤ 1048576) := hid (by
    have h3 := plc_len x0 x1
    omega)
  generalize plc x0 x1 = L at HA HR HL
  obtain ⟨i0, hi, hz0, hz1, hz2⟩ := info_parts Try.infoUn
  go_enter Try.func7, Try.ntmps7
  go_wp2_with fail
  refine (HA.out w).mono ?_
  rintro e w1 ⟨v1, rfl, hO1, hb1⟩
  obtain ⟨a1, c1, e1⟩ := own_shape hO1
  subst e1
  obtain ⟨n, hn⟩ : ∃ n, n = L.length := ⟨_, rfl⟩
  have HN := hid hn
  have hnl : n ≤ 1048576 := by have := HL.out; omega
  unfold OwnU at hO1
  rw [← hn] at hO1 ⊢
  have HO1 := hid hO1
  have HB1 := hid hb1
  clear hO1 hb1 hn
  go_wp2_with fail
  go_loopw [6] (fun i wr => ∃ k : Nat, k ≤ n ∧ i = .int .i64 k ∧ Hid (∃ xs, wr.ownsRow w.heap.size 23 4 (.slice a1 n c1) n xs) ∧ Hid (Below w.heap.size w wr)) (fun i _ => n - (intOf i).toNat)
  case atStart => exact ⟨0, Nat.zero_le _, rfl, hid ⟨_, HO1.out⟩, HB1⟩
  case round =>
    obtain ⟨k, hk, rfl, HO, HB⟩ := hrel
    clear HO1 HB1
    by_cases hlt : k < n
    · obtain ⟨xs, hO⟩ := HO.out
      obtain ⟨g, hg, ha⟩ : ∃ g, w.heap.size ≤ g ∧ a1 = some ⟨g, 0, none⟩ := by
        rcases hO.2 with ⟨hv, h0'⟩ | ⟨g, cap, cur, hv, hg, _⟩
        · omega
        · cases hv; exact ⟨g, hg, rfl⟩
      subst ha
      have f0 := hO.frozenAt (k * 4 + 1)
      have hlen := hO.1
      obtain ⟨u, hu⟩ : ∃ u, xs[k * 4 + 1]? = some u := ⟨_, List.getElem?_eq_getElem (by omega)⟩
      have c0 : wr.cell? ⟨g, k * 4 + 1, none⟩ = some u := by rw [hO.cellAt (k * 4 + 1) (by omega)]; exact hu
      have HO2 : Hid (∃ xs, (wr.setCell ⟨g, k * 4 + 1, none⟩ (.int .i64 (-7))).ownsRow w.heap.size 23 4 (.slice (some ⟨g, 0, none⟩) n c1) n xs) := hid ⟨_, (hO.stored _ _).1⟩
      have HB2 : Hid (Below w.heap.size w (wr.setCell ⟨g, k * 4 + 1, none⟩ (.int .i64 (-7)))) := hid (HB.out.setCell (p := ⟨g, k * 4 + 1, none⟩) hg _)
      have i1 : (0 : Int) ≤ (k : Int) := by omega
      have i2 : (k : Int) < (n : Int) := by omega
      clear hO hlen hu
      go_wp2
      go_roundw
      case rel => exact ⟨k + 1, by omega, by go_num, HO2, HB2⟩
      case measure => simp [intOf]; omega
    · obtain ⟨xs, hO⟩ := HO.out
      have HOX := hid hO
      clear hO
      have hBw := HB.out.size
      go_wp2_with (at_builtin; refine wpList_append_lies _ rfl _ _ 32 rfl w.heap.size 23 i0 (.agg #[.int .i64 0, .int .i64 0, .int .i64 0, .int .i64 0]) 4 32 Try.underlying32 hi hz0 hz1 hz2 rfl (by decide) _ n xs rfl (HOX.out.alloc _) ⟨wr.heap.size, 0, none⟩ 2 2 [.int .i64 0, .int .i64 (-8), .int .i64 0, .int .i64 0, .int .i64 0, .int .i64 (-8), .int .i64 0, .int .i64 0] rfl rfl (World.news_of_block (heap_alloc_new wr _)) (by simp [Value.oneCell']) (by decide) (by unfold maxLen; omega) (by omega) (by simp; omega) _ rfl ?_; intro g' cap w5 hO5 hg5 hl5 _; have HO5 := hid hO5; have HB5 := hid (HB.out.trans (((Below.refl w.heap.size wr).alloc hBw _).grown hg5 (by simp; omega) (own_ge HOX.out))); clear hO5 hg5 hl5)
      have hxs := HOX.out.1
      have HC : Hid (w5.cell? ⟨g', (n + 1) * 4 + 1, none⟩ = some (.int .i64 (-8)) ∧ g' < w5.heap.size) := hid (by
        constructor
        · rw [HO5.out.cellAt ((n + 1) * 4 + 1) (by omega), show (n + 1) * 4 + 1 = xs.length + 5 by omega, List.getElem?_append_right (by omega), Nat.add_sub_cancel_left]
          rfl
        · rcases HO5.out.2 with ⟨hv, _⟩ | ⟨g, cap', cur, hv, hg, hh, _⟩
          · cases hv
          · cases hv; exact lt_of_heap hh)
      clear HO5 hxs
      refine (HA.out w5).mono ?_
      rintro e w6 ⟨v6, rfl, hO6, hb6⟩
      have HO6 := hid hO6
      have HB6 := hid (HB5.out.trans (hb6.mono HB5.out.size))
      have HC6 : Hid (w6.cell? ⟨g', (n + 1) * 4 + 1, none⟩ = some (.int .i64 (-8)) ∧ g' < w6.heap.size) := hid ⟨(hb6.cell (p := ⟨g', (n + 1) * 4 + 1, none⟩) HC.out.2).trans HC.out.1, Nat.lt_of_lt_of_le HC.out.2 hb6.size⟩
      clear hO6 hb6 HC HB5 HB
      go_wp2_with fail
      refine (HR.out w6).mono ?_
      rintro e w7 ⟨v7, rfl, hO7, hb7⟩
      have HS := hid (same19_yes (own_rd (own_stays HO6.out hb7)) (own_rd hO7) (by have := HL.out; omega))
      have HB7 := hid (HB6.out.trans (hb7.mono HB6.out.size))
      have HC7 : Hid (w7.cell? ⟨g', (n + 1) * 4 + 1, none⟩ = some (.int .i64 (-8)) ∧ g' < w7.heap.size) := hid ⟨(hb7.cell (p := ⟨g', (n + 1) * 4 + 1, none⟩) HC6.out.2).trans HC6.out.1, Nat.lt_of_lt_of_le HC6.out.2 hb7.size⟩
      clear hO7 hb7 HC6 HB6
      go_wp2_with fail
      refine HS.out.mono ?_
      rintro e w8 ⟨rfl, hb8⟩
      have HB8 := hid (HB7.out.trans (hb8.mono HB7.out.size))
      have c8 : w8.cell? ⟨g', (n + 1) * 4 + 1, none⟩ = some (.int .i64 (-8)) := (hb8.cell (p := ⟨g', (n + 1) * 4 + 1, none⟩) HC7.out.2).trans HC7.out.1
      clear hb8 HC7 HB7 HS
      have j1 : IntKind.i64.wrap (((n + 2 : Nat) : Int) - 1) = ((n + 1 : Nat) : Int) := by rw [IntKind.wrap_i64]; omega
      have j2 : IntKind.i64.wrap ((n : Int) + 2 - 1) = ((n + 1 : Nat) : Int) := by rw [IntKind.wrap_i64]; omega
      go_wp2_with fail
      refine (sure19_any w8).mono ?_
      rintro e w9 ⟨rfl, hb9⟩
      have HB9 := hid (HB8.out.trans (hb9.mono HB8.out.size))
      clear hb9
      go_wp2_with fail
      go_ret
      exact ⟨rfl, HB9.out⟩

theorem own : ownKnob Try.prog.godebug = none := by kernel_rfl

set_option maxRecDepth 100000 in
theorem contract (H : Type) (enc : TypeId × Value → H) (W : World) (base : Nat) (args : Array Value) (ds gs : List (DataW H)) (before : List MemPlace)
    (hval : ∀ (j : Nat) t v, Try.f7.params[j]? = some t → args[j]? = some v → Value.okWide Try.prog W .any base t v)
    (hW : DataW.Whole enc Try.prog Try.f7.params.toList Rows.scanOwnSpec.vars false W args.toList ds gs before)
    (hk : Rows.uptoSmall H (ds ++ gs) = true)
    : Calls Try.prog 7 args W fun e W' => ∃ v, e = .returned v ∧ Rows.scanOwnSpec.post enc Try.prog Try.f7 false true false false W args v W' := by
  have hW' := hW
  obtain ⟨p, q, hA0, hV, rfl, hfz, hnd⟩ := hW
  have hA : DataW.TrodAll enc Try.prog W 0 (fun _ => true) true Try.f7.params.toList args.toList ds p := hA0
  rw [Try.params7] at hA hval
  obtain ⟨v0, vs0, d0, ds0, p0, q0, hargs0, rfl, rfl, h0, r0⟩ := trodAll_cons hA
  obtain ⟨v1, vs1, d1, ds1, p1, q1, hargs1, rfl, rfl, h1, r1⟩ := trodAll_cons r0
  obtain ⟨rfl, rfl, rfl⟩ := trodAll_nil r1
  obtain rfl : args = #[v0, v1] := by cases args; simp_all
  obtain ⟨rfl, rfl⟩ := trodVars_none hV
  obtain ⟨x0, rfl, rfl, rfl, hmax0⟩ := open_string Try.underlying9 (hval 0 9 v0 rfl rfl) h0
  obtain ⟨x1, rfl, rfl, rfl, hmax1⟩ := open_string Try.underlying9 (hval 1 9 v1 rfl rfl) h1
  clear hA0
  simp only [List.append_nil] at hW' hk
  have hk' : Rows.uptoBulkAll (H := H) [DataW.lit (.string x0.data.toList), DataW.lit (.string x1.data.toList)] ≤ 1048576 := of_decide_eq_true hk
  simp only [Rows.uptoBulkAll, Rows.uptoBulk] at hk'
  have hls0 : x0.data.toList.length = x0.size := size_data x0
  have hls1 : x1.data.toList.length = x1.size := size_data x1
  refine (walk x0 x1 W (by omega) (by omega)).mono fun e W' ⟨he, hb⟩ => ?_
  subst he
  exact ⟨_, rfl, _, _, _, [], [], [], hW', trodAll_cons_mk (shut_bool Try.underlying4 _) trodAll_mk0, trodAll_cons_mk (shut_string Try.underlying9 hmax0) (trodAll_cons_mk (shut_string Try.underlying9 hmax1) trodAll_mk0), rfl, hb.frame _, fun h => by cases h⟩

set_option maxRecDepth 100000 in
theorem lifted (os : Os) (started : os.Started) (H : Type) (enc : TypeId × Value → H) (F : Stop.Interp) :
    ReturnsInHanded {} Try.checked os 7 .any ((Rows.OpenSpec.upto Rows.scanOwnSpec).preRow enc Try.prog Try.f7 Rows.scanOwnUptoRow.domain false Rows.scanOwnUptoRow.laid) (((Rows.OpenSpec.upto Rows.scanOwnSpec).at F).post enc Try.prog Try.f7 false true false false) := by
  refine returnsInHanded_of_row (C := Try.checked) (s := Rows.OpenSpec.upto Rows.scanOwnSpec) own started (by kernel_rfl) Try.func7
    (witness_row_at (enc := enc) (C := Try.checked) false
      (World.holding Try.prog os ⟨#[], #[], []⟩)
      #[.string .empty, .string .empty] rfl (by kernel_rfl) (by kernel_rfl) (by kernel_rfl)
      (OpenSpec.preRow_of_cond 8 (x := ([.lit (.string []), .lit (.string [])], [], [])) (by kernel_rfl) (by kernel_rfl) (fun k hk => by cases hk; kernel_rfl) (by kernel_rfl) (laidMetH_of_parts (laidMet_nil _ _) (by kernel_rfl)))) ?_
  intro W base args ds gs before hval hW _ hcond hsz hL _ _
  exact contract H enc W base args ds gs before hval hW (hcond _ rfl)

theorem proved : Rows.ScanOwnUptoSaid :=
  OpenClaim.holds_of_cond 7 Try.f7 rfl rfl rfl rfl rfl rfl rfl ⟨rfl, rfl, rfl, rfl, rfl⟩ rfl rfl rfl rfl rfl (by kernel_rfl) Try.func7 (by kernel_rfl)
    (of_decide_eq_true (by kernel_rfl)) (by unfold Func.isWrapper; first | (rw [if_pos (by decide +kernel)]; kernel_rfl) | (rw [if_neg (by decide +kernel)]; exact ⟨rfl, rfl⟩))
    (fun os started H enc _ F => by rw [OpenClaim.pre_eq_preRow]; exact lifted os started H enc F)

end Go.Proofs.Ytagjjhlegojpbaa.scanOwn
