/-
  PROVED: for every two texts ScanFirsts returns true, and the texts read afterwards as they read before; the condition: what they hold is at most 1048576 in bulk.
-/
import Derived.Test.YtagjjhlegojpbaaYj
import Derived.ProofKit
import Derived.OpenShut
import Derived.LaidLaws
import Derived.LaidHandle
import Derived.SizedLaws
import Derived.Deep.DeepHandedRow
namespace Go.Proofs.Ytagjjhlegojpbaa.scanFirsts
open Go.ChangeShapes Go.WideShapes Go.ChangeAt Go.RowKit
open Go.ChangeMaps (open_string shut_string)

theorem size_data (s : ByteArray) : s.data.toList.length = s.size := by rw [Array.length_toList]; rfl
set_option maxHeartbeats 4000000 in
set_option maxRecDepth 100000 in
theorem walk (x0 x1 : ByteArray) (w : World) (h0 : x0.size ≤ 1048576) (h1 : x1.size ≤ 1048576) :
    Calls Try.prog 3 #[.string x0, .string x1] w fun e w' => e = .returned (.bool true) ∧ Below w.heap.size w w' := by
  obtain ⟨c, b, n, hV⟩ : ∃ (c : Ed.Ch) (b : Bool) (n : Int), fstV x0 x1 = .tuple #[.agg #[.int .i64 c.a, .int .i64 c.n, .int .i64 c.b, .int .i64 c.m], .bool b, .int .i64 n] := ⟨_, _, _, rfl⟩
  have HF : Hid (∀ w', Calls Try.prog 9 #[.string x0, .string x1] w' fun e w'' => e = .returned (.tuple #[.agg #[.int .i64 c.a, .int .i64 c.n, .int .i64 c.b, .int .i64 c.m], .bool b, .int .i64 n]) ∧ Below w'.heap.size w' w'') := hid fun w' => by
    have h := first_any x0 x1 w' (by omega) (by omega)
    rw [hV] at h
    exact h
  have HR : Hid (∀ w', Calls Try.prog 10 #[.string x0, .string x1] w' fun e w'' => e = .returned (.tuple #[.agg #[.int .i64 c.a, .int .i64 c.n, .int .i64 c.b, .int .i64 c.m], .bool b, .int .i64 n]) ∧ Below w'.heap.size w' w'') := hid fun w' => by
    have h := refFirst_any x0 x1 w' (by omega) (by omega)
    rw [hV] at h
    exact h
  clear hV
  obtain ⟨ca, cn, cb, cm⟩ := c
  go_enter Try.func3, Try.ntmps3
  go_wp2_with fail
  refine (HF.out w).mono ?_
  rintro e w1 ⟨rfl, hb1⟩
  have HB1 := hid hb1
  clear hb1 HF
  go_wp2_with fail
  have HQ : Hid ((w1.alloc (.cells #[.int .i64 ca, .int .i64 cn, .int .i64 cb, .int .i64 cm] 23)).heap[w1.heap.size]? = some (.cells #[.int .i64 ca, .int .i64 cn, .int .i64 cb, .int .i64 cm] 23)) := hid (heap_alloc_new w1 _)
  have HB2 : Hid (Below w.heap.size w (w1.alloc (.cells #[.int .i64 ca, .int .i64 cn, .int .i64 cb, .int .i64 cm] 23))) := hid (HB1.out.trans ((Below.refl _ w1).alloc HB1.out.size _))
  obtain ⟨E, hE⟩ : ∃ E, E = w1.heap.size := ⟨_, rfl⟩
  rw [← hE] at HQ
  rw [← hE]
  generalize w1.alloc (.cells #[.int .i64 ca, .int .i64 cn, .int .i64 cb, .int .i64 cm] 23) = w2 at HQ HB2 ⊢
  clear hE
  refine (HR.out w2).mono ?_
  rintro e w3 ⟨rfl, hb3⟩
  have HQ3 : Hid (w3.heap[E]? = _) := hid ((hb3.block E (lt_of_heap HQ.out)).trans HQ.out)
  have HB3 := hid (HB2.out.trans (hb3.mono HB2.out.size))
  clear hb3 HR
  have hlt3 := lt_of_heap HQ3.out
  have HQ4 : Hid ((w3.alloc (.cells #[.int .i64 ca, .int .i64 cn, .int .i64 cb, .int .i64 cm] 26)).heap[E]? = _) := hid ((((Below.refl _ w3).alloc (Nat.le_refl _) _).block E hlt3).trans HQ3.out)
  have HQ5 : Hid ((w3.alloc (.cells #[.int .i64 ca, .int .i64 cn, .int .i64 cb, .int .i64 cm] 26)).heap[w3.heap.size]? = some (.cells #[.int .i64 ca, .int .i64 cn, .int .i64 cb, .int .i64 cm] 26)) := hid (heap_alloc_new w3 _)
  have HB4 : Hid (Below w.heap.size w (w3.alloc (.cells #[.int .i64 ca, .int .i64 cn, .int .i64 cb, .int .i64 cm] 26))) := hid (HB3.out.trans ((Below.refl _ w3).alloc HB3.out.size _))
  have c0 := cell_of_blk HQ4.out 0
  have c1 := cell_of_blk HQ4.out 1
  have c2 := cell_of_blk HQ4.out 2
  have c3 := cell_of_blk HQ4.out 3
  have d0 := cell_of_blk HQ5.out 0
  have d1 := cell_of_blk HQ5.out 1
  have d2 := cell_of_blk HQ5.out 2
  have d3 := cell_of_blk HQ5.out 3
  simp only [List.getElem?_toArray, List.getElem?_cons_zero, List.getElem?_cons_succ] at c0 c1 c2 c3 d0 d1 d2 d3
  go_wp2_with fail
  generalize w3.alloc (.cells #[.int .i64 ca, .int .i64 cn, .int .i64 cb, .int .i64 cm] 26) = w4 at HB4 ⊢
  refine (sure19_any w4).mono ?_
  rintro e w5 ⟨rfl, hb5⟩
  have HB5 := hid (HB4.out.trans (hb5.mono HB4.out.size))
  clear hb5
  go_wp2_with fail
  go_ret
  exact ⟨rfl, HB5.out⟩

theorem own : ownKnob Try.prog.godebug = none := by kernel_rfl

set_option maxRecDepth 100000 in
theorem contract (H : Type) (enc : TypeId × Value → H) (W : World) (base : Nat) (args : Array Value) (ds gs : List (DataW H)) (before : List MemPlace)
    (hval : ∀ (j : Nat) t v, Try.f3.params[j]? = some t → args[j]? = some v → Value.okWide Try.prog W .any base t v)
    (hW : DataW.Whole enc Try.prog Try.f3.params.toList Rows.scanFirstsSpec.vars false W args.toList ds gs before)
    (hk : Rows.uptoSmall H (ds ++ gs) = true)
    : Calls Try.prog 3 args W fun e W' => ∃ v, e = .returned v ∧ Rows.scanFirstsSpec.post enc Try.prog Try.f3 false true false false W args v W' := by
  have hW' := hW
  obtain ⟨p, q, hA0, hV, rfl, hfz, hnd⟩ := hW
  have hA : DataW.TrodAll enc Try.prog W 0 (fun _ => true) true Try.f3.params.toList args.toList ds p := hA0
  rw [Try.params3] at hA hval
  obtain ⟨v0, vs0, d0, ds0, p0, q0, hargs0, rfl, rfl, h0, r0⟩ := trodAll_cons hA
  obtain ⟨v1, vs1, d1, ds1, p1, q1, hargs1, rfl, rfl, h1, r1⟩ := trodAll_cons r0
  obtain ⟨rfl, rfl, rfl⟩ := trodAll_nil r1
  obtain rfl : args = #[v0, v1] := by cases args; simp_all
  obtain ⟨rfl, rfl⟩ := trodVars_none hV
  obtain ⟨x0, rfl, rfl, rfl, hmax0⟩ := open_string Try.underlying9 (hval 0 9 v0 rfl rfl) h0
  obtain ⟨x1, rfl, rfl, rfl, hmax1⟩ := open_string Try.underlying9 (hval 1 9 v1 rfl rfl) h1
  clear hA0
  simp only [List.append_nil] at hW' hk
  have hk' : Rows.uptoBulkAll (H := H) [DataW.lit (.string x0.data.toList), DataW.lit (.string x1.data.toList)] ≤ 1048576 := of_decide_eq_true hk
  simp only [Rows.uptoBulkAll, Rows.uptoBulk] at hk'
  have hls0 : x0.data.toList.length = x0.size := size_data x0
  have hls1 : x1.data.toList.length = x1.size := size_data x1
  refine (walk x0 x1 W (by omega) (by omega)).mono fun e W' ⟨he, hb⟩ => ?_
  subst he
  exact ⟨_, rfl, _, _, _, [], [], [], hW', trodAll_cons_mk (shut_bool Try.underlying4 _) trodAll_mk0, trodAll_cons_mk (shut_string Try.underlying9 hmax0) (trodAll_cons_mk (shut_string Try.underlying9 hmax1) trodAll_mk0), rfl, hb.frame _, fun h => by cases h⟩

set_option maxRecDepth 100000 in
theorem lifted (os : Os) (started : os.Started) (H : Type) (enc : TypeId × Value → H) (F : Stop.Interp) :
    ReturnsInHanded {} Try.checked os 3 .any ((Rows.OpenSpec.upto Rows.scanFirstsSpec).preRow enc Try.prog Try.f3 Rows.scanFirstsUptoRow.domain false Rows.scanFirstsUptoRow.laid) (((Rows.OpenSpec.upto Rows.scanFirstsSpec).at F).post enc Try.prog Try.f3 false true false false) := by
  refine returnsInHanded_of_row (C := Try.checked) (s := Rows.OpenSpec.upto Rows.scanFirstsSpec) own started (by kernel_rfl) Try.func3
    (witness_row_at (enc := enc) (C := Try.checked) false
      (World.holding Try.prog os ⟨#[], #[], []⟩)
      #[.string .empty, .string .empty] rfl (by kernel_rfl) (by kernel_rfl) (by kernel_rfl)
      (OpenSpec.preRow_of_cond 8 (x := ([.lit (.string []), .lit (.string [])], [], [])) (by kernel_rfl) (by kernel_rfl) (fun k hk => by cases hk; kernel_rfl) (by kernel_rfl) (laidMetH_of_parts (laidMet_nil _ _) (by kernel_rfl)))) ?_
  intro W base args ds gs before hval hW _ hcond hsz hL _ _
  exact contract H enc W base args ds gs before hval hW (hcond _ rfl)

theorem proved : Rows.ScanFirstsUptoSaid :=
  OpenClaim.holds_of_cond 3 Try.f3 rfl rfl rfl rfl rfl rfl rfl ⟨rfl, rfl, rfl, rfl, rfl⟩ rfl rfl rfl rfl rfl (by kernel_rfl) Try.func3 (by kernel_rfl)
    (of_decide_eq_true (by kernel_rfl)) (by unfold Func.isWrapper; first | (rw [if_pos (by decide +kernel)]; kernel_rfl) | (rw [if_neg (by decide +kernel)]; exact ⟨rfl, rfl⟩))
    (fun os started H enc _ F => by rw [OpenClaim.pre_eq_preRow]; exact lifted os started H enc F)

end Go.Proofs.Ytagjjhlegojpbaa.scanFirsts
