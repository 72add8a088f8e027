/-
  PROVED: for every list of strings LinesJoins returns true, and the list reads afterwards as it read before; the condition: its strings, its spare places and all their bytes are at most 1048576 in number.
-/
import Derived.Test.YtghdlfpjbmohbaaRd2
import Derived.Laws.AppendOwnNone
import Derived.ProofKit
import Derived.OpenShut
import Derived.JoinedCond
namespace Go.Proofs.Ytghdlfpjbmohbaa.linesJoins
open Go.ChangeShapes Go.WideShapes Go.ChangeAt Go.RowKit
open Go.ChangeMaps (open_string shut_string)

theorem own : ownKnob Try.prog.godebug = none := by kernel_rfl

theorem laidOut : laidOutB Try.prog = true := by kernel_rfl

/-- the walk behind the copy -/
theorem SV_one_cell (l : List (List UInt8)) : ∀ u ∈ SV l, u.oneCell' = true := by
  intro u hu
  simp only [SV, List.mem_map] at hu
  obtain ⟨x, _, rfl⟩ := hu
  rfl

set_option maxHeartbeats 2000000 in
theorem walk (v : Value) (xs : List ByteArray) (w : World) (hr : Rd w v xs) (hsh : v = .slice none 0 0 ∨ ∃ ad n c, v = .slice (some ad) n c) (hsz : ∀ x ∈ xs, x.size ≤ maxLen) (hn : (DL xs).flatten.length + xs.length ≤ 1048576) :
    Calls Try.prog 4 #[v] w fun e w' => e = .returned (.bool true) ∧ Below w.heap.size w w' := by
  obtain ⟨i0, hi, hz0, hz1, hz2⟩ := info_parts Try.info9
  have hN : xs.length ≤ 140737488355328 := by omega
  have hL : (DL xs).flatten.length ≤ 140737488355328 := by omega
  have hn1 : xs.length ≤ 1048576 := by omega
  have HL := hid hL
  have HS := hid hsz
  have HR := hid hr
  clear hn hL hsz hr
  rcases hsh with rfl | ⟨ad, n, c, rfl⟩
  · have hnil : Rd w (.slice none 0 0) xs := HR.out
    have HNIL := hid hnil
    clear hnil
    go_enter Try.func4, Try.ntmps4
    go_wp2_with (at_builtin; refine wpList_append_own_none rfl _ _ 23 rfl w.heap.size 9 i0 1 Try.underlying23 hi _ _ _ rfl (World.ownsRow_nil _ _ _ _) rfl ?_)
    go_wp2_with fail
    refine (join_rd HNIL.out hN HL.out).mono ?_
    rintro e w2 ⟨rfl, hb2⟩
    go_wp2_with fail
    refine (refJoin_rd (HR.out.below hb2) hN HL.out).mono ?_
    rintro e w3 ⟨rfl, hb3⟩
    have hr3 := hid ((HR.out.below hb2).below hb3)
    go_wp2_with fail
    refine (valid_rd hr3.out hN HS.out).mono ?_
    rintro e w4 ⟨rfl, rfl⟩
    go_wp2_with fail
    refine (refValid_rd hr3.out hN HS.out).mono ?_
    rintro e w5 ⟨rfl, rfl⟩
    go_wp2_with fail
    refine (same_rd hr3.out hr3.out hN).mono ?_
    rintro e w6 ⟨rfl, hb6⟩
    rw [decide_eq_true rfl]
    go_wp2_with fail
    refine (sure_any _).mono ?_
    rintro e w7 ⟨rfl, hb7⟩
    go_wp2
    go_ret
    have z2 := hb2.size
    have z3 := hb3.size
    have z6 := hb6.size
    exact ⟨rfl, hb2.trans ((hb3.mono z2).trans ((hb6.mono (by omega)).trans (hb7.mono (by omega))))⟩
  · obtain ⟨rfl, hsrc⟩ := src_cells HR.out
    have HX := hid hsrc
    clear hsrc
    go_enter Try.func4, Try.ntmps4
    go_wp2_with (at_builtin; refine wpList_append_own _ rfl _ _ 23 rfl w.heap.size 9 i0 (.string ⟨#[]⟩) 1 16 Try.underlying23 hi hz0 hz1 hz2 rfl (by decide) _ _ _ rfl (World.ownsRow_nil _ _ _ _) ad xs.length c (SV (DL xs)) rfl ?c0 ?c1 ?c2 ?c3 ?c4 ?c5 ?_)
    case c0 => rw [SV_length, DL_length]; omega
    case c1 => exact HX.out
    case c2 => exact SV_one_cell _
    case c3 => unfold maxLen; omega
    case c4 => omega
    case c5 => exact Nat.le_refl _
    intro v1 w1 hown1 hgrow1 _
    have hb1 : Below w.heap.size w w1 := (Below.refl _ _).grown hgrow1 (Nat.le_refl _) (fun k hk => by cases hk)
    have hm1 : Rd w1 v1 xs := by
      have h1 : w1.ownsRow w.heap.size 9 1 v1 (DL xs).length (SV (DL xs)) := by
        rw [DL_length]
        simpa using hown1
      have := rd_own h1
      rw [BL_DL] at this
      exact this
    have HM := hid hm1
    clear hown1 hgrow1 hm1
    go_wp2_with fail
    refine (join_rd HM.out hN HL.out).mono ?_
    rintro e w2 ⟨rfl, hb2⟩
    go_wp2_with fail
    refine (refJoin_rd ((HR.out.below hb1).below hb2) hN HL.out).mono ?_
    rintro e w3 ⟨rfl, hb3⟩
    have hr3 := hid (((HR.out.below hb1).below hb2).below hb3)
    have hm3 := hid ((HM.out.below hb2).below hb3)
    go_wp2_with fail
    refine (valid_rd hm3.out hN HS.out).mono ?_
    rintro e w4 ⟨rfl, rfl⟩
    go_wp2_with fail
    refine (refValid_rd hr3.out hN HS.out).mono ?_
    rintro e w5 ⟨rfl, rfl⟩
    go_wp2_with fail
    refine (same_rd hm3.out hr3.out hN).mono ?_
    rintro e w6 ⟨rfl, hb6⟩
    rw [decide_eq_true rfl]
    go_wp2_with fail
    refine (sure_any _).mono ?_
    rintro e w7 ⟨rfl, hb7⟩
    go_wp2
    go_ret
    have z1 := hb1.size
    have z2 := hb2.size
    have z3 := hb3.size
    have z6 := hb6.size
    exact ⟨rfl, hb1.trans ((hb2.mono z1).trans ((hb3.mono (by omega)).trans ((hb6.mono (by omega)).trans (hb7.mono (by omega)))))⟩

theorem contract (H : Type) (enc : TypeId × Value → H) (W : World) (base : Nat) (args : Array Value) (ds gs : List (DataW H)) (before : List MemPlace)
    (hval : ∀ (j : Nat) t v, Try.f4.params[j]? = some t → args[j]? = some v → Value.okWide Try.prog W .any base t v)
    (hW : DataW.Whole enc Try.prog Try.f4.params.toList Rows.linesJoinsSpec.vars false W args.toList ds gs before) (hk : Rows.uptoSmall H (ds ++ gs) = true) :
    Calls Try.prog 4 args W fun e W' => ∃ v, e = .returned v ∧ Rows.linesJoinsSpec.post enc Try.prog Try.f4 false true false false W args v W' := by
  have hW' := hW
  obtain ⟨p, q, hA0, hV, rfl, hfz, hnd⟩ := hW
  have hA : DataW.TrodAll enc Try.prog W 0 (fun _ => true) true Try.f4.params.toList args.toList ds p := hA0
  rw [Try.params4] at hA hval
  obtain ⟨v0, vs0, d0, ds0, p0, q0, hargs, rfl, rfl, h0, r0⟩ := trodAll_cons hA
  obtain ⟨rfl, rfl, rfl⟩ := trodAll_nil r0
  obtain rfl : args = #[v0] := by cases args; simp_all
  obtain ⟨rfl, rfl⟩ := trodVars_none hV
  obtain ⟨xs, hr, hsz, hbulk, hsh⟩ := open_rd (okWide_slice Try.underlying23 (hval 0 23 v0 rfl rfl)) h0
  clear hA0
  simp only [List.append_nil] at hW' hk
  have hk' : Rows.uptoBulkAll [d0] ≤ 1048576 := of_decide_eq_true hk
  simp only [Rows.uptoBulkAll] at hk'
  have hlt : ∀ x ∈ p0, x.block < W.heap.size := fun x hx => by simpa using hW'.lt x hx
  refine (walk v0 xs W hr hsh hsz (by omega)).mono fun e W' ⟨he, hb⟩ => ?_
  subst he
  exact ⟨_, rfl, _, _, _, [], p0 ++ [], [], hW', trodAll_cons_mk (shut_bool Try.underlying4 _) trodAll_mk0, trodAll_cons_mk (Below.trod laidOut (by kernel_rfl) (of_decide_eq_true (by kernel_rfl)) h0 hb hlt) trodAll_mk0, rfl, hb.frame _, fun h => by cases h⟩

set_option maxRecDepth 100000 in
theorem lifted (os : Os) (started : os.Started) (H : Type) (enc : TypeId × Value → H) (F : Stop.Interp) :
    ReturnsInHanded {} Try.checked os 4 .any ((Rows.OpenSpec.upto Rows.linesJoinsSpec).pre6 enc Try.prog Try.f4 Rows.linesJoinsUptoRow.domain false) (((Rows.OpenSpec.upto Rows.linesJoinsSpec).at F).post enc Try.prog Try.f4 false true false false) := by
  refine returnsInHanded_of_cond (C := Try.checked) (s := Rows.OpenSpec.upto Rows.linesJoinsSpec) (k := Rows.uptoSmall) rfl own started (by kernel_rfl) Try.func4
    (OpenSpec.witness (enc := enc) (C := Try.checked) (s := Rows.OpenSpec.upto Rows.linesJoinsSpec) (k := Rows.uptoSmall) rfl false ⟨#[], #[.slice none 0 0], []⟩ 8 (by kernel_rfl) (by kernel_rfl) (by kernel_rfl)
      (x := ([.nil], [], [])) (by kernel_rfl) rfl (by kernel_rfl)) ?_
  intro W base args ds gs before hval hW _ hk _
  exact contract H enc W base args ds gs before hval hW hk

theorem proved : Rows.LinesJoinsUptoSaid :=
  OpenClaim.holds_of_cond 4 Try.f4 rfl rfl rfl rfl rfl rfl rfl ⟨rfl, rfl, rfl, rfl, rfl⟩ rfl rfl rfl rfl rfl (by kernel_rfl) Try.func4 (by kernel_rfl)
    (of_decide_eq_true (by kernel_rfl)) (by unfold Func.isWrapper; first | (rw [if_pos (by decide +kernel)]; kernel_rfl) | (rw [if_neg (by decide +kernel)]; exact ⟨rfl, rfl⟩))
    (fun os started H enc _ F => lifted os started H enc F)
end Go.Proofs.Ytghdlfpjbmohbaa.linesJoins
