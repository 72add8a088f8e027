/-
  PROVED: the card of InternIds, for inputs of bulk up to 1048576: for every two such lists of strings and every integer InternIds returns true, and all read afterwards as they read before; the card ties what errors.errorType holds to the program's text (a pruned copy of the project: the packages that this law loads).
-/
import Derived.Test.YtjjhidojialjoaaDoorNc
import Derived.Test.YtjjhidojialjoaaDoorHandle
namespace Go.Proofs.YtjjhidojialjoaaDoor.internIds
open Go.ChangeShapes Go.WideShapes Go.ChangeAt Go.RowKit
open Go.ChangeMaps (open_string shut_string)

theorem num_all (e : Int) (w : World) (hg : ErrVar w) : Calls Tryd.prog 7 #[erV e] w fun r w' => r = .returned (.int .i64 (erN e)) ∧ Below w.heap.size w w' := by
  unfold erV erN
  split
  · exact num_nil w
  · exact num_errno 1 w hg
theorem rd_at {w : World} {a : Option Addr} {n c k : Nat} {xs : List ByteArray} {x : ByteArray} (h : Rd w (.slice a n c) xs) (hk : xs[k]? = some x) : ∃ b o, a = some ⟨b, o, none⟩ ∧ w.cell? ⟨b, o + k, none⟩ = some (.string x) := by
  rcases h with ⟨rfl, _⟩ | ⟨b, o, c', hv, _, _, hX⟩
  · simp at hk
  · injection hv with h1 _ _
    exact ⟨b, o, h1, hX k x hk⟩

set_option maxHeartbeats 4000000 in
set_option maxRecDepth 100000 in
theorem walk (v : Value) (xs : List ByteArray) (u : Value) (ys : List ByteArray) (e : Int) (w : World) (hr : Rd w v xs) (hn1 : (DL xs).flatten.length + xs.length ≤ 1048576) (hsh : v = .slice none 0 0 ∨ ∃ ad n c, v = .slice (some ad) n c)
    (hq : Rd w u ys) (hn2 : (DL ys).flatten.length + ys.length ≤ 1048576) (hsh2 : u = .slice none 0 0 ∨ ∃ ad n c, u = .slice (some ad) n c) (hg : ErrVar w) :
    Calls Tryd.prog 3 #[v, u, .int .i64 e] w fun r w' => r = .returned (.bool true) ∧ Below w.heap.size w w' := by
  have hsx := small_of hn1
  have hsy := small_of hn2
  have hl1 : xs.length ≤ 1048576 := by omega
  have hl2 : ys.length ≤ 1048576 := by omega
  have HSX := hid hsx
  have HSY := hid hsy
  have HR := hid hr
  have HQ := hid hq
  have HS1 := hid (hr.src hsh)
  have HS2 := hid (hq.src hsh2)
  have HG := hid hg
  have hA := LA_len e xs
  have hB := LB_len e xs ys
  obtain ⟨a, c, rfl⟩ := hr.shape
  obtain ⟨a', c', rfl⟩ := hq.shape
  clear hn1 hn2 hsx hsy hr hq hsh hsh2 hg
  go_enter Tryd.func3, Tryd.ntmps3
  go_wp2_with (at_builtin; refine wpList_append_all rfl _ _ 22 9 rfl Tryd.underlying22 Tryd.infoStr rfl (by omega) w.heap.size _ 0 [] rfl (World.ownsRow_nil _ _ _ _) _ (SV (DL xs)) rfl HS1.out (SV_one_cell _) (by rw [SV_length, DL_length]; omega) (Nat.le_refl _) ?_)
  intro v3 w1 hO3 hg1
  have hb1 := (Below.refl w.heap.size w).grown hg1 (Nat.le_refl _) (fun k hk => by cases hk)
  have HO3 : Hid (OwnS w1 w.heap.size v3 (DL xs)) := hid (by
    have h : w1.ownsRow w.heap.size 9 1 v3 (SV (DL xs)).length (SV (DL xs)) := by simpa using hO3
    rw [SV_length] at h
    exact h)
  have HS2' := hid (HS2.out.later hb1)
  clear hO3 hg1 HS1 HS2
  go_wp2_with (at_builtin; refine wpList_append_all rfl _ _ 22 9 rfl Tryd.underlying22 Tryd.infoStr rfl (by omega) w1.heap.size _ 0 [] rfl (World.ownsRow_nil _ _ _ _) _ (SV (DL ys)) rfl HS2'.out (SV_one_cell _) (by rw [SV_length, DL_length]; omega) (Nat.le_refl _) ?_)
  intro v4 w2 hO4 hg2
  have hb2 := (Below.refl w1.heap.size w1).grown hg2 (Nat.le_refl _) (fun k hk => by cases hk)
  have HO4 : Hid (OwnS w2 w1.heap.size v4 (DL ys)) := hid (by
    have h : w2.ownsRow w1.heap.size 9 1 v4 (SV (DL ys)).length (SV (DL ys)) := by simpa using hO4
    rw [SV_length] at h
    exact h)
  have HX2 : Hid (Rd w2 v3 xs) := hid (by have h := rd_own (HO3.out.stays hb2); rwa [BL_DL] at h)
  have HY2 : Hid (Rd w2 v4 ys) := hid (by have h := rd_own HO4.out; rwa [BL_DL] at h)
  have hB2 : Below w.heap.size w w2 := hb1.trans (hb2.mono hb1.size)
  clear hO4 hg2 HO3 HO4 HS2'
  obtain ⟨a3, c3, rfl⟩ := HX2.out.shape
  obtain ⟨a4, c4, rfl⟩ := HY2.out.shape
  go_wp2_with fail
  refine (ids_all (e := e) HX2.out HY2.out HSX.out HSY.out (by omega)).mono ?_
  rintro r w3 ⟨v1, v2, rfl, hO1, hO2, _, hb3⟩
  have HO1 := hid hO1
  have HO2 := hid hO2
  have hB3 := hB2.trans (hb3.mono hB2.size)
  clear hO1 hO2
  go_wp2_with fail
  refine (refIds_all (e := e) (HR.out.below hB3) (HQ.out.below hB3) HSX.out HSY.out (by omega)).mono ?_
  rintro r w4 ⟨n1, n2, rfl, hN1, hN2, hb4⟩
  have HN1 := hid hN1
  have HN2 := hid hN2
  have HI1 := hid (HO1.out.stays hb4)
  have HI2 := hid (HO2.out.stays hb4)
  have hB4 := hB3.trans (hb4.mono hB3.size)
  have HR4 := hid (HR.out.below hB4)
  have HQ4 := hid (HQ.out.below hB4)
  have HX4 := hid ((HX2.out.below hb3).below hb4)
  have HY4 := hid ((HY2.out.below hb3).below hb4)
  have HG4 := hid (HG.out.below hB4)
  clear hN1 hN2 HO1 HO2 HR HQ HX2 HY2 HG HSX HSY hB2 hb2 hb1 hb3 hb4 hB3
  go_wp2
  go_loopw [15] (fun t ws => ∃ k : Nat, k ≤ xs.length ∧ t = .int .i64 k ∧ ∃ q, ws = w4.drewN q) (fun t _ => xs.length - (intOf t).toNat)
  case atStart => exact ⟨0, Nat.zero_le _, rfl, 0, rfl⟩
  case round =>
    obtain ⟨k, hk, rfl, q1, rfl⟩ := hrel
    by_cases hlt1 : k < xs.length
    · obtain ⟨x, hx⟩ : ∃ x, xs[k]? = some x := ⟨_, List.getElem?_eq_getElem hlt1⟩
      obtain ⟨b1, o1, rfl, hc1⟩ := rd_at HR4.out hx
      obtain ⟨b2, o2, rfl, hc2⟩ := rd_at HX4.out hx
      have hxx : (x.toList == x.toList) = true := beq_iff_eq.2 rfl
      clear hx
      go_wp2
      go_quiet (fail)
      go_wp2
      go_roundw
      case rel => exact ⟨k + 1, by omega, by go_num, _, by first | rfl | exact World.drewN_drewN _ _ _⟩
      case measure => simp [intOf]; omega
    · clear hk
      go_wp2
      go_loopw [16] (fun t ws => ∃ k : Nat, k ≤ ys.length ∧ t = .int .i64 k ∧ ∃ q, ws = w4.drewN q) (fun t _ => ys.length - (intOf t).toNat)
      case atStart => exact ⟨0, Nat.zero_le _, rfl, q1, rfl⟩
      case round =>
        obtain ⟨k, hk, rfl, q2, rfl⟩ := hrel
        by_cases hlt2 : k < ys.length
        · obtain ⟨x, hx⟩ : ∃ x, ys[k]? = some x := ⟨_, List.getElem?_eq_getElem hlt2⟩
          obtain ⟨b1, o1, rfl, hc1⟩ := rd_at HQ4.out hx
          obtain ⟨b2, o2, rfl, hc2⟩ := rd_at HY4.out hx
          have hxx : (x.toList == x.toList) = true := beq_iff_eq.2 rfl
          clear hx
          go_wp2
          go_quiet (fail)
          go_wp2
          go_roundw
          case rel => exact ⟨k + 1, by omega, by go_num, _, by first | rfl | exact World.drewN_drewN _ _ _⟩
          case measure => simp [intOf]; omega
        · clear hk
          have HE : Hid (Below w4.heap.size w4 (w4.drewN q2)) := hid (below_drewN (Below.refl _ _) _)
          go_wp2_with fail
          refine (same_any (HI1.out.stays HE.out).rd (HN1.out.stays HE.out).rd (by omega) (by omega)).mono ?_
          rintro r w6 ⟨rfl, hb6⟩
          rw [decide_eq_true rfl]
          have hE6 : Below w4.heap.size w4 w6 := HE.out.trans (hb6.mono HE.out.size)
          clear hb6 HE
          have HE6 := hid hE6
          clear hE6
          go_wp2_with fail
          refine (same_any (HI2.out.stays HE6.out).rd (HN2.out.stays HE6.out).rd (by omega) (by omega)).mono ?_
          rintro r w7 ⟨rfl, hb7⟩
          rw [decide_eq_true rfl]
          have HE7 : Hid (Below w4.heap.size w4 w7) := hid (HE6.out.trans (hb7.mono HE6.out.size))
          clear hb7 HE6
          go_wp2_with fail
          refine (num_all e _ (HG4.out.below HE7.out)).mono ?_
          rintro r w8 ⟨rfl, hb8⟩
          have HE8 : Hid (Below w4.heap.size w4 w8) := hid (HE7.out.trans (hb8.mono HE7.out.size))
          clear hb8 HE7
          go_wp2_with fail
          refine (sure_any _).mono ?_
          rintro r w9 ⟨rfl, hb9⟩
          go_wp2
          go_ret
          have h := hB4.trans (HE8.out.mono hB4.size)
          exact ⟨rfl, h.trans (hb9.mono h.size)⟩

theorem own : ownKnob Tryd.prog.godebug = none := by kernel_rfl

set_option maxRecDepth 100000 in
theorem contract (H : Type) (enc : TypeId × Value → H) (W : World) (base : Nat) (args : Array Value) (ds gs : List (DataW H)) (before : List MemPlace)
    (hval : ∀ (j : Nat) t v, Tryd.f3.params[j]? = some t → args[j]? = some v → Value.okWide Tryd.prog W .any base t v)
    (hW : DataW.Whole enc Tryd.prog Tryd.f3.params.toList Rows.internIdsSpec.vars false W args.toList ds gs before)
    (hk : Rows.uptoSmall H (ds ++ gs) = true)
    (hL : laidMetH Tryd.prog Rows.internIdsUptoRow.laid W)
    : Calls Tryd.prog 3 args W fun e W' => ∃ v, e = .returned v ∧ Rows.internIdsSpec.post enc Tryd.prog Tryd.f3 false true false false W args v W' := by
  have hW' := hW
  obtain ⟨p, q, hA0, hV, rfl, hfz, hnd⟩ := hW
  have hA : DataW.TrodAll enc Tryd.prog W 0 (fun _ => true) true Tryd.f3.params.toList args.toList ds p := hA0
  rw [Tryd.params3] at hA hval
  obtain ⟨v0, vs0, d0, ds0, p0, q0, hargs0, rfl, rfl, h0, r0⟩ := trodAll_cons hA
  obtain ⟨v1, vs1, d1, ds1, p1, q1, hargs1, rfl, rfl, h1, r1⟩ := trodAll_cons r0
  obtain ⟨v2, vs2, d2, ds2, p2, q2, hargs2, rfl, rfl, h2, r2⟩ := trodAll_cons r1
  obtain ⟨rfl, rfl, rfl⟩ := trodAll_nil r2
  obtain rfl : args = #[v0, v1, v2] := by cases args; simp_all
  obtain ⟨rfl, rfl⟩ := trodVars_none hV
  obtain ⟨x0, hr0, hsz0, hd0, hsh0⟩ := open_rd (okWide_slice Tryd.underlying22 (hval 0 22 v0 rfl rfl)) h0
  obtain ⟨x1, hr1, hsz1, hd1, hsh1⟩ := open_rd (okWide_slice Tryd.underlying22 (hval 1 22 v1 rfl rfl)) h1
  obtain ⟨x2, rfl, rfl, rfl, hmax2⟩ := open_int Tryd.underlying3 (hval 2 3 v2 rfl rfl) h2
  clear hA0
  simp only [List.append_nil] at hW' hk
  have hk' : Rows.uptoBulkAll (H := H) [d0, d1, DataW.lit (.int .i64 x2)] ≤ 1048576 := of_decide_eq_true hk
  simp only [Rows.uptoBulkAll, Rows.uptoBulk] at hk'
  have hbk0 := rd_bulk hd0
  have hbk1 := rd_bulk hd1
  have hlt0 : ∀ x ∈ p0, x.block < W.heap.size := fun x hx => by simpa using hW'.lt x (by simp [hx])
  have hlt1 : ∀ x ∈ p1, x.block < W.heap.size := fun x hx => by simpa using hW'.lt x (by simp [hx])
  refine (walk v0 x0 v1 x1 x2 W hr0 (by omega) hsh0 hr1 (by omega) hsh1 (handle_of hL)).mono fun e W' ⟨he, hb⟩ => ?_
  subst he
  exact ⟨_, rfl, _, _, _, [], (p0 ++ (p1 ++ ([] ++ []))), [], hW', trodAll_cons_mk (shut_bool Tryd.underlying4 _) trodAll_mk0, trodAll_cons_mk (Below.trod laidOut (by kernel_rfl) (of_decide_eq_true (by kernel_rfl)) h0 hb hlt0) (trodAll_cons_mk (Below.trod laidOut (by kernel_rfl) (of_decide_eq_true (by kernel_rfl)) h1 hb hlt1) (trodAll_cons_mk (shut_int Tryd.underlying3 hmax2) trodAll_mk0)), rfl, hb.frame _, fun h => by cases h⟩

set_option maxRecDepth 100000 in
theorem lifted (os : Os) (started : os.Started) (H : Type) (enc : TypeId × Value → H) (F : Stop.Interp) :
    ReturnsInHanded {} Tryd.checked os 3 .any ((Rows.OpenSpec.upto Rows.internIdsSpec).preRow enc Tryd.prog Tryd.f3 Rows.internIdsUptoRow.domain false Rows.internIdsUptoRow.laid) (((Rows.OpenSpec.upto Rows.internIdsSpec).at F).post enc Tryd.prog Tryd.f3 false true false false) := by
  refine returnsInHanded_of_row (C := Tryd.checked) (s := Rows.OpenSpec.upto Rows.internIdsSpec) own started (by kernel_rfl) Tryd.func3
    (witness_row_at (enc := enc) (C := Tryd.checked) false
      { World.holding Tryd.prog os ⟨#[], #[], []⟩ with heap := (World.holding Tryd.prog os ⟨#[], #[], []⟩).heap.modify 0 fun
          | .cells _ t frozen => .cells #[.iface 63 (.agg #[.pointer (some ⟨2, 25, none⟩)])] t frozen
          | o => o }
      #[.slice none 0 0, .slice none 0 0, .int .i64 0] rfl (by kernel_rfl) (by kernel_rfl) (by kernel_rfl)
      (OpenSpec.preRow_of_cond 8 (x := ([.nil, .nil, .lit (.int .i64 0)], [], [])) (by kernel_rfl) (by kernel_rfl) (fun k hk => by cases hk; kernel_rfl) (by kernel_rfl) (laidMetH_of_parts (laidMet_nil _ _) (by kernel_rfl)))) ?_
  intro W base args ds gs before hval hW _ hcond hsz hL _ _
  exact contract H enc W base args ds gs before hval hW (hcond _ rfl) hL

theorem said : Rows.InternIdsUptoSaid :=
  OpenClaim.holds_of_cond 3 Tryd.f3 rfl rfl rfl rfl rfl rfl rfl ⟨rfl, rfl, rfl, rfl, rfl⟩ rfl rfl rfl rfl rfl (by kernel_rfl) Tryd.func3 (by kernel_rfl)
    (of_decide_eq_true (by kernel_rfl)) (by unfold Func.isWrapper; first | (rw [if_pos (by decide +kernel)]; kernel_rfl) | (rw [if_neg (by decide +kernel)]; exact ⟨rfl, rfl⟩))
    (fun os started H enc _ F => by rw [OpenClaim.pre_eq_preRow]; exact lifted os started H enc F)

theorem plain (f : FuncId) (fn : Func) (hf : Tryd.pinned.checked.prog.funcNamed Rows.internIdsUptoRow.func = some f) (hfn : Tryd.pinned.checked.prog.funcs[f]? = some fn) :
    true = Tryd.pinned.checked.prog.looks [] ∧ ∀ (j : Nat) t, fn.params[j]? = some t → Tryd.pinned.checked.prog.wantsStandIn t = false := by
  obtain rfl : f = 3 := Option.some.inj ((show Tryd.prog.funcNamed Rows.internIdsUptoRow.func = some 3 by kernel_rfl).symm.trans hf) |>.symm
  obtain rfl : fn = Tryd.f3 := (Option.some.inj (Tryd.func3.symm.trans hfn)).symm
  refine ⟨by kernel_rfl, fun j t ht => ?_⟩
  rw [Tryd.params3] at ht
  have hm : t = 22 ∨ t = 3 := by simpa using Array.mem_of_getElem? ht
  rcases hm with rfl | rfl
  · exact (show Tryd.prog.wantsStandIn 22 = false by kernel_rfl)
  · exact (show Tryd.prog.wantsStandIn 3 = false by kernel_rfl)

theorem card : Rows.InternIdsUptoCardSaid :=
  Claim7.holds_tied_plain_at .later [] _ _ _ _ said (fun _ h => by cases h) (by kernel_rfl) (fun _ h => by cases h) internIdsUpto_row_tie rfl ⟨rfl, rfl⟩ (by kernel_rfl) rfl plain (by kernel_rfl)
end Go.Proofs.YtjjhidojialjoaaDoor.internIds
