/-
  PROVED: the card of GlobLong: for every two numbers and every bool GlobLong returns true; the card ties what errors.errorType holds to the program's text (a pruned copy of the project: the packages that this law loads).
-/
import Derived.Test.YtialioefecpbpabDoorRx
import Derived.Test.YtialioefecpbpabDoorHandle
import Derived.Lib.AppendStr
namespace Go.Proofs.YtialioefecpbpabDoor.globLong
open Go.ChangeShapes Go.WideShapes Go.ChangeAt Go.RowKit
open Go.ChangeMaps (open_string shut_string)

theorem rep_snoc (k : Nat) : List.replicate (k + 1) (97 : UInt8) = List.replicate k 97 ++ [97] := List.replicate_succ'
/-- append of a string of two bytes to a row of bytes of the call's own -/
theorem wpList_append_two {w : World} {ops : Array Oper} {rest : List Oper} {o : Oper} {a : Act} {Q : Exit → Act → World → Prop} (hgd : o.guard = none) (s x : Operand)
    (ho : o.op = .call { callee := .builtin .append, args := #[s, x], argTypes := #[22, 9] }) (B : Nat) (v : Value) (l : List UInt8) (hs : a.eval s = v) (hown : OwnB w B v l)
    (c d : UInt8) (hx : a.eval x = .string ⟨#[c, d]⟩) (hfit : l.length + 2 ≤ 140737488355328) (hB : B ≤ w.heap.size)
    (h : ∀ v' w', OwnB w' B v' (l ++ [c, d]) → Below B w w' → wpList Tryd.prog ops Q rest (a.put o.dst v') w') : wpList Tryd.prog ops Q (o :: rest) a w := by
  obtain ⟨i0, hi, hz0, hz1, hz2⟩ := info_parts Tryd.infoByteX
  have h2 : (ByteArray.mk #[c, d]).size = 2 := rfl
  refine Lib.wpList_append_own_string _ hgd s x 22 9 ho B 5 i0 Tryd.underlying22 Tryd.underlying9 hi hz0 hz1 hz2 v l.length (Lib.byteCells l) hs hown ⟨#[c, d]⟩ hx ?_ ?_ hB ?_
  · rw [h2]; unfold maxLen; omega
  · rw [h2]; exact hfit
  · intro v' w' h3 h4 _
    refine h v' w' ?_ ((Below.refl _ _).grown h4 hB (own_ge hown))
    unfold OwnB
    rw [Lib.byteCells_append, List.length_append]
    exact h3
/-- what Match answers is what is wanted -/
theorem want_eq (k a : Nat) : Pg.mt (Pg.sap k) (List.replicate a 97) = (decide (k ≤ a) && (decide (a = 0) || decide (0 < k))) := Pg.mt_sap k a

set_option maxHeartbeats 4000000 in
set_option maxRecDepth 100000 in
theorem walk (n m : Int) (last : Bool) (w : World) (hg : ErrVar w) :
    Calls Tryd.prog 3 #[.int .i64 n, .int .i64 m, .bool last] w fun e w' => e = .returned (.bool true) ∧ Below w.heap.size w w' := by
  have HG := hid hg
  clear hg
  obtain ⟨a, ha, hal⟩ : ∃ a : Nat, max 0 (min n 16384) = (a : Int) ∧ a ≤ 16384 := ⟨(max 0 (min n 16384)).toNat, by omega, by omega⟩
  obtain ⟨b, hb, hbl⟩ : ∃ b : Nat, max 0 (min m 500) = (b : Int) ∧ b ≤ 500 := ⟨(max 0 (min m 500)).toNat, by omega, by omega⟩
  go_enter Tryd.func3, Tryd.ntmps3
  go_wp2
  clear ha hb
  go_loopw [7, 9] (fun v i wr => ∃ k : Nat, k ≤ a ∧ i = .int .i64 k ∧ OwnB wr w.heap.size v (List.replicate k 97) ∧ Below w.heap.size w wr) (fun _ i _ => a - (intOf i).toNat)
  case atStart => exact ⟨0, Nat.zero_le _, rfl, OwnB.nil _ _, Below.refl _ _⟩
  case round =>
    obtain ⟨k, hk, rfl, hown, hb⟩ := hrel
    have hz := hb.size
    by_cases hlt : k < a
    · obtain ⟨L, hL⟩ : ∃ L, L = List.replicate k (97 : UInt8) := ⟨_, rfl⟩
      have hLl : L.length = k := by rw [hL, List.length_replicate]
      have HL : Hid (L ++ [97] = List.replicate (k + 1) 97) := hid (by rw [hL, rep_snoc])
      rw [← hL] at hown
      have hLl' : L.length ≤ k := by omega
      clear hL hLl
      go_wp2_with (at_builtin; refine wpList_append_byte rfl _ _ rfl w.heap.size _ L rfl (hown.alloc _) ⟨wr.heap.size, 0, none⟩ 1 97 97 rfl rfl ?c1 ?c2 ?c3 ?_)
      case c1 => simp [Addr.add]
      case c2 => omega
      case c3 => simp; omega
      intro v2 w2 hown2 hb2
      have HO2 : Hid (OwnB w2 w.heap.size v2 (List.replicate (k + 1) 97)) := hid (by rw [← HL.out]; exact hown2)
      have hB2 : Below w.heap.size w w2 := (hb.alloc hz _).trans hb2
      clear hown hb2 hown2
      go_wp2
      go_roundw
      case rel => exact ⟨k + 1, by omega, by go_num, HO2.out, hB2⟩
      case measure => simp [intOf]; omega
    · obtain rfl : k = a := by omega
      have HO := hid hown
      obtain ⟨ad, cp, hv, hcp⟩ := own_shape hown
      rw [List.length_replicate] at hv
      subst hv
      obtain ⟨w1, rfl⟩ : ∃ w1, w1 = wr := ⟨_, rfl⟩
      clear hown
      have HG1 := hid (HG.out.below hb)
      go_wp2
      go_loopw [8, 10] (fun v i ws => ∃ j : Nat, j ≤ b ∧ i = .int .i64 j ∧ OwnB ws w1.heap.size v (Pg.sa j) ∧ Below w1.heap.size w1 ws) (fun _ i _ => b - (intOf i).toNat)
      case atStart => exact ⟨0, Nat.zero_le _, rfl, OwnB.nil _ _, Below.refl _ _⟩
      case round =>
        obtain ⟨j, hj, rfl, hown, hb2⟩ := hrel
        have hz2 := hb2.size
        have hlen := Pg.sa_len j
        by_cases hlt2 : j < b
        · obtain ⟨L, hL⟩ : ∃ L, L = Pg.sa j := ⟨_, rfl⟩
          rw [← hL] at hown hlen
          have HL : Hid (L ++ [42, 97] = Pg.sa (j + 1)) := hid (by rw [hL]; rfl)
          have hlen' : L.length ≤ 2 * j := by omega
          clear hlen hL
          go_wp2_with (at_builtin; refine wpList_append_two rfl _ _ rfl w1.heap.size _ L rfl hown 42 97 rfl ?e1 ?e2 ?_)
          case e1 => omega
          case e2 => exact hz2
          intro v3 w3 hown3 hb3
          have HO3 : Hid (OwnB w3 w1.heap.size v3 (Pg.sa (j + 1))) := hid (by rw [← HL.out]; exact hown3)
          have hB3 : Below w1.heap.size w1 w3 := hb2.trans hb3
          clear hown hb3 hown3
          go_wp2
          go_roundw
          case rel => exact ⟨j + 1, by omega, by go_num, HO3.out, hB3⟩
          case measure => simp [intOf]; omega
        · obtain rfl : j = b := by omega
          cases last with
          | true =>
            obtain ⟨L, hL⟩ : ∃ L, L = Pg.sa j := ⟨_, rfl⟩
            rw [← hL] at hown hlen
            have HC : Hid (Pg.comp (L ++ [42, 98]) = some (Pg.sap j ++ [Pg.star, Pg.lit 98])) := hid (by rw [hL]; exact Pg.comp_joined (Pg.comp_sa j) (Pg.comp_pair 98 (by decide)))
            have hlen' : L.length ≤ 2 * j := by omega
            have HM := hid (Pg.mt_last (Pg.sap j) k)
            clear hlen hL
            go_wp2_with (at_builtin; refine wpList_append_two rfl _ _ rfl w1.heap.size _ L rfl hown 42 98 rfl ?g1 ?g2 ?_)
            case g1 => omega
            case g2 => exact hz2
            intro v3 w3 hown3 hb3
            have hB3 : Below w1.heap.size w1 w3 := hb2.trans hb3
            have hcv := conv_own hown3
            have HLl : Hid ((L ++ [42, 98]).length ≤ 1024) := hid (by rw [List.length_append]; simp; omega)
            clear hown hb3 hown3 hb2
            go_wp2_with fail
            refine (compile_lit HC.out HLl.out _).mono ?_
            rintro e w4 ⟨bg, rfl, hg4, hb4⟩
            have hB4 := hB3.trans (hb4.mono hB3.size)
            have HA4 := hid hg4
            have HO4 : OwnB w4 w.heap.size (.slice ad k cp) (List.replicate k 97) := own_stays HO.out hB4
            have hcv2 := conv_own HO4
            have HG4 := hid (HG1.out.below hB4)
            have hBw := hb.trans (hB4.mono hb.size)
            have HPl : Hid ((Pg.sap j ++ [Pg.star, Pg.lit 98]).length ≤ 140737488355328) := hid (by
              have := comp_len _ _ _ (Nat.le_refl _) HC.out
              have := HLl.out
              omega)
            clear hg4 hb4 hB3 hcv HO4 HO hB4
            by_cases hkj : j ≤ k
            · have hk1 : (j : Int) ≤ (k : Int) := by omega
              go_wp2_with fail
              refine (match_any ⟨(List.replicate k 97).toArray⟩ HA4.out (by rw [size_mk, List.length_replicate]; omega) HPl.out).mono ?_
              rintro e w5 ⟨rfl, hb5⟩
              rw [bs, HM.out]
              have HG5 := hid (HG4.out.below hb5)
              have hB5 := hBw.trans (hb5.mono hBw.size)
              clear hb5 hBw HA4 hcv2
              go_wp2_with fail
              refine (works_any _ HG5.out).mono ?_
              rintro e w6 ⟨rfl, hb6⟩
              go_wp2
              go_ret
              exact ⟨rfl, hB5.trans (hb6.mono hB5.size)⟩
            · have hk1 : ¬ (j : Int) ≤ (k : Int) := by omega
              go_wp2_with fail
              refine (match_any ⟨(List.replicate k 97).toArray⟩ HA4.out (by rw [size_mk, List.length_replicate]; omega) HPl.out).mono ?_
              rintro e w5 ⟨rfl, hb5⟩
              rw [bs, HM.out]
              have HG5 := hid (HG4.out.below hb5)
              have hB5 := hBw.trans (hb5.mono hBw.size)
              clear hb5 hBw HA4 hcv2
              go_wp2_with fail
              refine (works_any _ HG5.out).mono ?_
              rintro e w6 ⟨rfl, hb6⟩
              go_wp2
              go_ret
              exact ⟨rfl, hB5.trans (hb6.mono hB5.size)⟩
          | false =>
            have HC := hid (Pg.comp_sa j)
            have hB3 := hb2
            have hcv := conv_own hown
            have HLl : Hid ((Pg.sa j).length ≤ 1024) := hid (by omega)
            have HM := hid (Pg.mt_sap j k)
            clear hown hb2 hlen
            go_wp2_with fail
            refine (compile_lit HC.out HLl.out _).mono ?_
            rintro e w4 ⟨bg, rfl, hg4, hb4⟩
            have hB4 := hB3.trans (hb4.mono hB3.size)
            have HA4 := hid hg4
            have HO4 : OwnB w4 w.heap.size (.slice ad k cp) (List.replicate k 97) := own_stays HO.out hB4
            have hcv2 := conv_own HO4
            have HG4 := hid (HG1.out.below hB4)
            have hBw := hb.trans (hB4.mono hb.size)
            have HPl : Hid ((Pg.sap j).length ≤ 140737488355328) := hid (by
              have := comp_len _ _ _ (Nat.le_refl _) HC.out
              have := HLl.out
              omega)
            clear hg4 hb4 hB3 hcv HO4 HO hB4
            have hcase : (k < j) ∨ (j ≤ k ∧ k = 0) ∨ (j ≤ k ∧ k ≠ 0 ∧ 0 < j) ∨ (j ≤ k ∧ k ≠ 0 ∧ j = 0) := by omega
            rcases hcase with h1 | ⟨h1, h2⟩ | ⟨h1, h2, h3⟩ | ⟨h1, h2, h3⟩
            · have HW : Hid ((decide (j ≤ k) && (decide (k = 0) || decide (0 < j))) = false) := hid (by rw [decide_eq_false (by omega)]; rfl)
              rw [HW.out] at HM
              have hk1 : ¬ (j : Int) ≤ (k : Int) := by omega
              go_wp2_with fail
              refine (match_any ⟨(List.replicate k 97).toArray⟩ HA4.out (by rw [size_mk, List.length_replicate]; omega) HPl.out).mono ?_
              rintro e w5 ⟨rfl, hb5⟩
              rw [bs, HM.out]
              have HG5 := hid (HG4.out.below hb5)
              have hB5 := hBw.trans (hb5.mono hBw.size)
              clear hb5 hBw HA4 hcv2
              go_wp2_with fail
              refine (works_any _ HG5.out).mono ?_
              rintro e w6 ⟨rfl, hb6⟩
              go_wp2
              go_ret
              exact ⟨rfl, hB5.trans (hb6.mono hB5.size)⟩
            · have HW : Hid ((decide (j ≤ k) && (decide (k = 0) || decide (0 < j))) = true) := hid (by rw [decide_eq_true h1, decide_eq_true h2]; rfl)
              rw [HW.out] at HM
              have hk1 : (j : Int) ≤ (k : Int) := by omega
              have hk2 := ieq (m := 0) (by omega : (k : Int) = 0)
              clear h2
              go_wp2_with fail
              refine (match_any ⟨(List.replicate k 97).toArray⟩ HA4.out (by rw [size_mk, List.length_replicate]; omega) HPl.out).mono ?_
              rintro e w5 ⟨rfl, hb5⟩
              rw [bs, HM.out]
              have HG5 := hid (HG4.out.below hb5)
              have hB5 := hBw.trans (hb5.mono hBw.size)
              clear hb5 hBw HA4 hcv2
              go_wp2_with fail
              refine (works_any _ HG5.out).mono ?_
              rintro e w6 ⟨rfl, hb6⟩
              go_wp2
              go_ret
              exact ⟨rfl, hB5.trans (hb6.mono hB5.size)⟩
            · have HW : Hid ((decide (j ≤ k) && (decide (k = 0) || decide (0 < j))) = true) := hid (by rw [decide_eq_true h1, decide_eq_false h2, decide_eq_true h3]; rfl)
              rw [HW.out] at HM
              have hk1 : (j : Int) ≤ (k : Int) := by omega
              have hk2 := ine (m := 0) (by omega : (k : Int) ≠ 0)
              have hk3 : (0 : Int) < (j : Int) := by omega
              clear h2
              go_wp2_with fail
              refine (match_any ⟨(List.replicate k 97).toArray⟩ HA4.out (by rw [size_mk, List.length_replicate]; omega) HPl.out).mono ?_
              rintro e w5 ⟨rfl, hb5⟩
              rw [bs, HM.out]
              have HG5 := hid (HG4.out.below hb5)
              have hB5 := hBw.trans (hb5.mono hBw.size)
              clear hb5 hBw HA4 hcv2
              go_wp2_with fail
              refine (works_any _ HG5.out).mono ?_
              rintro e w6 ⟨rfl, hb6⟩
              go_wp2
              go_ret
              exact ⟨rfl, hB5.trans (hb6.mono hB5.size)⟩
            · have HW : Hid ((decide (j ≤ k) && (decide (k = 0) || decide (0 < j))) = false) := hid (by rw [decide_eq_true h1, decide_eq_false h2, decide_eq_false (by omega)]; rfl)
              rw [HW.out] at HM
              have hk1 : (j : Int) ≤ (k : Int) := by omega
              have hk2 := ine (m := 0) (by omega : (k : Int) ≠ 0)
              have hk3 : ¬ (0 : Int) < (j : Int) := by omega
              clear h2
              go_wp2_with fail
              refine (match_any ⟨(List.replicate k 97).toArray⟩ HA4.out (by rw [size_mk, List.length_replicate]; omega) HPl.out).mono ?_
              rintro e w5 ⟨rfl, hb5⟩
              rw [bs, HM.out]
              have HG5 := hid (HG4.out.below hb5)
              have hB5 := hBw.trans (hb5.mono hBw.size)
              clear hb5 hBw HA4 hcv2
              go_wp2_with fail
              refine (works_any _ HG5.out).mono ?_
              rintro e w6 ⟨rfl, hb6⟩
              go_wp2
              go_ret
              exact ⟨rfl, hB5.trans (hb6.mono hB5.size)⟩

theorem own : ownKnob Tryd.prog.godebug = none := by kernel_rfl

set_option maxRecDepth 100000 in
theorem contract (H : Type) (enc : TypeId × Value → H) (W : World) (base : Nat) (args : Array Value) (ds gs : List (DataW H)) (before : List MemPlace)
    (hval : ∀ (j : Nat) t v, Tryd.f3.params[j]? = some t → args[j]? = some v → Value.okWide Tryd.prog W .any base t v)
    (hW : DataW.Whole enc Tryd.prog Tryd.f3.params.toList Rows.globLongSpec.vars false W args.toList ds gs before)
    (hsz : (DataW.weightsEach Tryd.prog (Tryd.f3.params.toList ++ Rows.globLongSpec.plain.varTypes Tryd.prog) (ds ++ gs)).all (· ≤ reachBytes) = true)
    (hL : laidMetH Tryd.prog Rows.globLongRow.laid W)
    : Calls Tryd.prog 3 args W fun e W' => ∃ v, e = .returned v ∧ Rows.globLongSpec.post enc Tryd.prog Tryd.f3 false true false false W args v W' := by
  have hW' := hW
  obtain ⟨p, q, hA0, hV, rfl, hfz, hnd⟩ := hW
  have hA : DataW.TrodAll enc Tryd.prog W 0 (fun _ => true) true Tryd.f3.params.toList args.toList ds p := hA0
  rw [Tryd.params3] at hA hval hsz
  obtain ⟨v0, vs0, d0, ds0, p0, q0, hargs0, rfl, rfl, h0, r0⟩ := trodAll_cons hA
  obtain ⟨v1, vs1, d1, ds1, p1, q1, hargs1, rfl, rfl, h1, r1⟩ := trodAll_cons r0
  obtain ⟨v2, vs2, d2, ds2, p2, q2, hargs2, rfl, rfl, h2, r2⟩ := trodAll_cons r1
  obtain ⟨rfl, rfl, rfl⟩ := trodAll_nil r2
  obtain rfl : args = #[v0, v1, v2] := by cases args; simp_all
  obtain ⟨rfl, rfl⟩ := trodVars_none hV
  obtain ⟨x0, rfl, rfl, rfl, hmax0⟩ := open_int Tryd.underlying3 (hval 0 3 v0 rfl rfl) h0
  obtain ⟨x1, rfl, rfl, rfl, hmax1⟩ := open_int Tryd.underlying3 (hval 1 3 v1 rfl rfl) h1
  obtain ⟨x2, rfl, rfl, rfl⟩ := open_bool Tryd.underlying4 (hval 2 4 v2 rfl rfl) h2
  clear hA0 hsz
  simp only [List.append_nil] at hW'
  refine (walk x0 x1 x2 W  (handle_of hL)).mono fun e W' ⟨he, hb⟩ => ?_
  subst he
  exact ⟨_, rfl, _, _, _, [], [], [], hW', trodAll_cons_mk (shut_bool Tryd.underlying4 _) trodAll_mk0, trodAll_cons_mk (shut_int Tryd.underlying3 hmax0) (trodAll_cons_mk (shut_int Tryd.underlying3 hmax1) (trodAll_cons_mk (shut_bool Tryd.underlying4 _) trodAll_mk0)), rfl, hb.frame _, fun h => by cases h⟩

set_option maxRecDepth 100000 in
theorem lifted (os : Os) (started : os.Started) (H : Type) (enc : TypeId × Value → H) (F : Stop.Interp) :
    ReturnsInHanded {} Tryd.checked os 3 .any ((OpenSpec.ofChange Rows.globLongSpec).preRow enc Tryd.prog Tryd.f3 Rows.globLongRow.domain false Rows.globLongRow.laid) (((OpenSpec.ofChange Rows.globLongSpec).at F).post enc Tryd.prog Tryd.f3 false true false false) := by
  refine returnsInHanded_of_row (C := Tryd.checked) (s := OpenSpec.ofChange Rows.globLongSpec) own started (by kernel_rfl) Tryd.func3
    (witness_row_at (enc := enc) (C := Tryd.checked) false
      { World.holding Tryd.prog os ⟨#[], #[], []⟩ with heap := (World.holding Tryd.prog os ⟨#[], #[], []⟩).heap.modify 0 fun
          | .cells _ t frozen => .cells #[.iface 81 (.agg #[.pointer (some ⟨2, 25, none⟩)])] t frozen
          | o => o }
      #[.int .i64 0, .int .i64 0, .bool false] rfl (by kernel_rfl) (by kernel_rfl) (by kernel_rfl)
      (OpenSpec.preRow_of_cond 8 (x := ([.lit (.int .i64 0), .lit (.int .i64 0), .lit (.bool false)], [], [])) (by kernel_rfl) (by kernel_rfl) (fun k hk => by cases hk) (by kernel_rfl) (laidMetH_of_parts (laidMet_nil _ _) (by kernel_rfl)))) ?_
  intro W base args ds gs before hval hW _ hcond hsz hL _ _
  exact contract H enc W base args ds gs before hval hW hsz hL

theorem said : Rows.GlobLongSaid :=
  OpenClaim.holds_of_cond 3 Tryd.f3 rfl rfl rfl rfl rfl rfl rfl ⟨rfl, rfl, rfl, rfl, rfl⟩ rfl rfl rfl rfl rfl (by kernel_rfl) Tryd.func3 (by kernel_rfl)
    (of_decide_eq_true (by kernel_rfl)) (by unfold Func.isWrapper; first | (rw [if_pos (by decide +kernel)]; kernel_rfl) | (rw [if_neg (by decide +kernel)]; exact ⟨rfl, rfl⟩))
    (fun os started H enc _ F => by rw [OpenClaim.pre_eq_preRow]; exact lifted os started H enc F)

theorem plain (f : FuncId) (fn : Func) (hf : Tryd.pinned.checked.prog.funcNamed Rows.globLongRow.func = some f) (hfn : Tryd.pinned.checked.prog.funcs[f]? = some fn) :
    true = Tryd.pinned.checked.prog.looks [] ∧ ∀ (j : Nat) t, fn.params[j]? = some t → Tryd.pinned.checked.prog.wantsStandIn t = false := by
  obtain rfl : f = 3 := Option.some.inj ((show Tryd.prog.funcNamed Rows.globLongRow.func = some 3 by kernel_rfl).symm.trans hf) |>.symm
  obtain rfl : fn = Tryd.f3 := (Option.some.inj (Tryd.func3.symm.trans hfn)).symm
  refine ⟨by kernel_rfl, fun j t ht => ?_⟩
  rw [Tryd.params3] at ht
  have hm : t = 3 ∨ t = 4 := by simpa using Array.mem_of_getElem? ht
  rcases hm with rfl | rfl
  · exact (show Tryd.prog.wantsStandIn 3 = false by kernel_rfl)
  · exact (show Tryd.prog.wantsStandIn 4 = false by kernel_rfl)

theorem card : Rows.GlobLongCardSaid :=
  Claim7.holds_tied_plain_at .later [] _ _ _ _ said (fun _ h => by cases h) (by kernel_rfl) (fun _ h => by cases h) globLong_row_tie rfl ⟨rfl, rfl⟩ (by kernel_rfl) rfl plain (by kernel_rfl)
end Go.Proofs.YtialioefecpbpabDoor.globLong
