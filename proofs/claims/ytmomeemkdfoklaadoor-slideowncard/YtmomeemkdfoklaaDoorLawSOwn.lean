/-
  PROVED: the card of SlideOwn: for every list of changes and every two lists of integers SlideOwn returns true, and all read afterwards as they read before; the card ties what errors.errorType holds to the program's text (a pruned copy of the project: the packages that this law loads).
-/
import Derived.Test.YtmomeemkdfoklaaDoorZm
import Derived.Test.YtmomeemkdfoklaaDoorC9
import Derived.Test.YtmomeemkdfoklaaDoorDf
import Derived.Test.YtmomeemkdfoklaaDoorHandle
namespace Go.Proofs.YtmomeemkdfoklaaDoor.slideOwn
open Go.ChangeShapes Go.WideShapes Go.ChangeAt Go.RowKit
open Go.ChangeMaps (open_string shut_string)
open Ed (Ch Run Pr)

theorem slA_len (s : List Ch) (a b : List Int) : (slA s a b).length ≤ 8388608 := by
  unfold slA
  split
  · next h =>
    unfold fitN at h
    split at h
    · next hv =>
      have hV := Ed.validN_zero.1 hv
      obtain ⟨hN, hp⟩ := Ed.normal_Val hV
      split at h
      · next hf => exact Val_len (Ed.slide_Val hN (by rw [hp]; exact hf)).1
      · omega
    · next hv => exact absurd h hv
  · simp

set_option maxHeartbeats 4000000 in
set_option maxRecDepth 100000 in
theorem walk (v : Value) (s : List Ch) (va : Value) (a : List Int) (vb : Value) (b : List Int) (w : World) (hr : RdC w v s) (hwf : ∀ c ∈ s, WfC c) (hl : s.length ≤ 4398046510976) (_ : v = .slice none 0 0 ∨ ∃ ad n c, v = .slice (some ad) n c)
    (hra : RdI w va a) (_ : ∀ c ∈ a, I64 c) (_ : a.length ≤ 17592186043904) (_ : va = .slice none 0 0 ∨ ∃ ad n c, va = .slice (some ad) n c)
    (hrb : RdI w vb b) (_ : ∀ c ∈ b, I64 c) (_ : b.length ≤ 17592186043904) (_ : vb = .slice none 0 0 ∨ ∃ ad n c, vb = .slice (some ad) n c) (hg : ErrVar w) :
    Calls Tryd.prog 5 #[v, va, vb] w fun e w' => e = .returned (.bool true) ∧ Below w.heap.size w w' := by
  have HR := hid hr
  have HRA := hid hra
  have HRB := hid hrb
  have HG := hid hg
  have HWF := hid hwf
  obtain ⟨a0, c0, rfl⟩ := hr.shape
  obtain ⟨aa, ca, rfl⟩ := hra.shape
  obtain ⟨ab, cb, rfl⟩ := hrb.shape
  have hal := slA_len s a b
  clear hr hwf hg hra hrb
  have HP1 := hid (fun w1 (hb : Below w.heap.size w w1) => slide_placed (HR.out.below hb) HWF.out (by omega) (HRA.out.below hb) (HRB.out.below hb))
  have HP2 := hid (fun w1 (hb : Below w.heap.size w w1) => refSlide_all (HR.out.below hb) HWF.out (by omega) (HRA.out.below hb) (HRB.out.below hb))
  generalize fitN s a b = K at HP1 HP2
  generalize slA s a b = L at HP1 HP2 hal
  go_enter Tryd.func5, Tryd.ntmps5
  go_wp2_with fail
  refine (HP1.out w (Below.refl _ _)).mono ?_
  rintro e w1 ⟨v1, rfl, hR1, hb1, hp1⟩
  obtain ⟨a1, c1, rfl⟩ := hR1.shape
  have HPT := hid hp1
  have HB1 := hid hb1
  obtain ⟨n, hn⟩ : ∃ n, n = L.length := ⟨_, rfl⟩
  rw [← hn] at HPT
  rw [← hn]
  have hnl : n ≤ 8388608 := by omega
  clear hR1 hb1 hp1 hn
  go_wp2
  go_loopw [9] (fun i wr => ∃ k : Nat, k ≤ n ∧ i = .int .i64 k ∧ Hid (PtC wr w.heap.size (.slice a1 n c1) n) ∧ Hid (Below w.heap.size w wr)) (fun i _ => n - (intOf i).toNat)
  case atStart => exact ⟨0, Nat.zero_le _, rfl, HPT, HB1⟩
  case round =>
    obtain ⟨k, hk, rfl, HQ, HB⟩ := hrel
    by_cases hlt : k < n
    · obtain ⟨g, o, c, hv, hg, x0, x1, x2, x3, q0, q1, q2, q3, f0⟩ := HQ.out.row4 hlt
      cases hv
      have i1 : (0 : Int) ≤ (k : Int) := by omega
      have i2 : (k : Int) < (n : Int) := by omega
      have HQ2 : Hid (PtC ((((wr.setCell ⟨g, o + k * 4, none⟩ (.int .i64 (-7))).setCell ⟨g, o + k * 4 + 1, none⟩ (.int .i64 0)).setCell ⟨g, o + k * 4 + 2, none⟩ (.int .i64 0)).setCell ⟨g, o + k * 4 + 3, none⟩ (.int .i64 0)) w.heap.size (.slice (some ⟨g, o, none⟩) n c1) n) := hid HQ.out.set.set.set.set
      have hK : Kept (fun j => j = g) wr ((((wr.setCell ⟨g, o + k * 4, none⟩ (.int .i64 (-7))).setCell ⟨g, o + k * 4 + 1, none⟩ (.int .i64 0)).setCell ⟨g, o + k * 4 + 2, none⟩ (.int .i64 0)).setCell ⟨g, o + k * 4 + 3, none⟩ (.int .i64 0)) := Zf9.KpS (X := fun j => j = g) (Zf9.KpS (X := fun j => j = g) (Zf9.KpS (X := fun j => j = g) (Zf9.KpS (X := fun j => j = g) (Zf9.KpR _ _) rfl _) rfl _) rfl _) rfl _
      have HB2 := hid (HB.out.trans (hK.below (fun j e => by omega) HB.out.size))
      clear hK hg
      go_wp2
      exact ⟨⟨k + 1, by omega, by go_num, HQ2, HB2⟩, by simp [intOf]; omega⟩
    · obtain ⟨w2, hw2⟩ : ∃ w2, w2 = wr := ⟨_, rfl⟩
      subst hw2
      have j1 : ¬ (k : Int) < (n : Int) := by omega
      have hbN := (Below.refl w2.heap.size w2).alloc (Nat.le_refl _) (.cells two8.toArray 42)
      have HBN := hid hbN
      have HQN : Hid (PtC (w2.alloc (.cells two8.toArray 42)) w.heap.size (.slice a1 n c1) n) := hid (HQ.out.far fun g cur hg => hbN.block g (lt_of_heap hg))
      clear hbN
      go_wp2_with (at_builtin; refine wpList_append_two rfl _ _ rfl w.heap.size n _ rfl HQN.out (by omega) (Nat.le_trans HB.out.size HBN.out.size) w2.heap.size rfl (heap_alloc_new w2 _) ?_; intro v3 w3 h3 hb3; obtain ⟨b3, o3, c3, e3, hl3, q3⟩ := h3; subst e3; have HB3 := hid ((HB.out.trans (HBN.out.mono HB.out.size)).trans hb3); clear hb3)
      obtain ⟨M, hM⟩ : ∃ M, M = n + 1 := ⟨_, rfl⟩
      rw [← hM] at q3
      rw [← hM]
      have hMl : M ≤ 10000000 := by omega
      clear hM
      refine (HP1.out w3 HB3.out).mono ?_
      rintro e w4 ⟨v4, rfl, hR4, hb4, _⟩
      obtain ⟨a4, c4, rfl⟩ := hR4.shape
      have HU4 := hid hR4
      have HB4 := hid (HB3.out.trans (hb4.mono HB3.out.size))
      have q4 := (hb4.cell (p := ⟨b3, o3 + M * 4, none⟩) hl3).trans q3
      have hl4 := Nat.lt_of_lt_of_le hl3 hb4.size
      clear hR4 hb4 q3 hl3 HB3
      go_wp2_with fail
      refine (HP2.out w4 HB4.out).mono ?_
      rintro e w5 ⟨v5, rfl, hO5, hb5⟩
      obtain ⟨a5, c5, rfl⟩ := own_shape hO5
      have HW5 := hid (own_rd hO5)
      have HU5 := hid (HU4.out.below hb5)
      have HB5 := hid (HB4.out.trans (hb5.mono HB4.out.size))
      have q5 := (hb5.cell (p := ⟨b3, o3 + M * 4, none⟩) hl4).trans q4
      have hl5 := Nat.lt_of_lt_of_le hl4 hb5.size
      clear hO5 hb5 q4 hl4 HB4 HU4
      go_wp2_with fail
      refine (same9_any HU5.out HW5.out (by omega) (by omega)).mono ?_
      rintro e w6 ⟨rfl, hb6⟩
      rw [decide_eq_true rfl]
      have q6 := (hb6.cell (p := ⟨b3, o3 + M * 4, none⟩) hl5).trans q5
      have HB6 := hid (HB5.out.trans (hb6.mono HB5.out.size))
      have m1 : IntKind.i64.wrap ((M : Int) + 1 - 1) = (M : Int) := (wrapOk (by omega) (by omega)).trans (by omega)
      have m2 : IntKind.i64.wrap (M : Int) = (M : Int) := wrapOk (by omega) (by omega)
      have m3 : (0 : Int) ≤ (M : Int) := by omega
      have m4 : (M : Int) < (M : Int) + 1 := by omega
      clear hb6 q5 hl5 HB5 HU5 HW5
      go_wp2_with fail
      refine (sure9_any w6 (HG.out.below HB6.out)).mono ?_
      rintro e w7 ⟨rfl, hb7⟩
      have HB7 := hid (HB6.out.trans (hb7.mono HB6.out.size))
      clear hb7
      go_wp2
      go_ret
      exact ⟨rfl, HB7.out⟩

theorem own : ownKnob Tryd.prog.godebug = none := by kernel_rfl

set_option maxRecDepth 100000 in
theorem contract (H : Type) (enc : TypeId × Value → H) (W : World) (base : Nat) (args : Array Value) (ds gs : List (DataW H)) (before : List MemPlace)
    (hval : ∀ (j : Nat) t v, Tryd.f5.params[j]? = some t → args[j]? = some v → Value.okWide Tryd.prog W .any base t v)
    (hW : DataW.Whole enc Tryd.prog Tryd.f5.params.toList Rows.slideOwnSpec.vars false W args.toList ds gs before)
    (hsz : (DataW.weightsEach Tryd.prog (Tryd.f5.params.toList ++ Rows.slideOwnSpec.plain.varTypes Tryd.prog) (ds ++ gs)).all (· ≤ reachBytes) = true)
    (hL : laidMetH Tryd.prog Rows.slideOwnRow.laid W)
    : Calls Tryd.prog 5 args W fun e W' => ∃ v, e = .returned v ∧ Rows.slideOwnSpec.post enc Tryd.prog Tryd.f5 false true false false W args v W' := by
  have hW' := hW
  obtain ⟨p, q, hA0, hV, rfl, hfz, hnd⟩ := hW
  have hA : DataW.TrodAll enc Tryd.prog W 0 (fun _ => true) true Tryd.f5.params.toList args.toList ds p := hA0
  rw [Tryd.params5] at hA hval hsz
  obtain ⟨v0, vs0, d0, ds0, p0, q0, hargs0, rfl, rfl, h0, r0⟩ := trodAll_cons hA
  obtain ⟨v1, vs1, d1, ds1, p1, q1, hargs1, rfl, rfl, h1, r1⟩ := trodAll_cons r0
  obtain ⟨v2, vs2, d2, ds2, p2, q2, hargs2, rfl, rfl, h2, r2⟩ := trodAll_cons r1
  obtain ⟨rfl, rfl, rfl⟩ := trodAll_nil r2
  obtain rfl : args = #[v0, v1, v2] := by cases args; simp_all
  obtain ⟨rfl, rfl⟩ := trodVars_none hV
  obtain ⟨x0, hr0, hw0, hd0, hsh0⟩ := open_chs (okWide_slice Tryd.underlying22 (hval 0 22 v0 rfl rfl)) h0
  obtain ⟨x1, hr1, hw1, hd1, hsh1⟩ := open_ints (okWide_slice Tryd.underlying23 (hval 1 23 v1 rfl rfl)) h1
  obtain ⟨x2, hr2, hw2, hd2, hsh2⟩ := open_ints (okWide_slice Tryd.underlying23 (hval 2 23 v2 rfl rfl)) h2
  have hlen0 := chs_sized hsz (j := 0) rfl rfl hd0
  have hlen1 := ints_sized hsz (j := 1) rfl rfl hd1
  have hlen2 := ints_sized hsz (j := 2) rfl rfl hd2
  clear hA0 hsz
  simp only [List.append_nil] at hW'
  have hlt0 : ∀ x ∈ p0, x.block < W.heap.size := fun x hx => by simpa using hW'.lt x (by simp [hx])
  have hlt1 : ∀ x ∈ p1, x.block < W.heap.size := fun x hx => by simpa using hW'.lt x (by simp [hx])
  have hlt2 : ∀ x ∈ p2, x.block < W.heap.size := fun x hx => by simpa using hW'.lt x (by simp [hx])
  refine (walk v0 x0 v1 x1 v2 x2 W hr0 hw0 (by omega) hsh0 hr1 hw1 (by omega) hsh1 hr2 hw2 (by omega) hsh2 (handle_of hL)).mono fun e W' ⟨he, hb⟩ => ?_
  subst he
  exact ⟨_, rfl, _, _, _, [], (p0 ++ (p1 ++ (p2 ++ []))), [], hW', trodAll_cons_mk (shut_bool Tryd.underlying4 _) trodAll_mk0, trodAll_cons_mk (Below.trod laidOut (by kernel_rfl) (of_decide_eq_true (by kernel_rfl)) h0 hb hlt0) (trodAll_cons_mk (Below.trod laidOut (by kernel_rfl) (of_decide_eq_true (by kernel_rfl)) h1 hb hlt1) (trodAll_cons_mk (Below.trod laidOut (by kernel_rfl) (of_decide_eq_true (by kernel_rfl)) h2 hb hlt2) trodAll_mk0)), rfl, hb.frame _, fun h => by cases h⟩

set_option maxRecDepth 100000 in
theorem lifted (os : Os) (started : os.Started) (H : Type) (enc : TypeId × Value → H) (F : Stop.Interp) :
    ReturnsInHanded {} Tryd.checked os 5 .any ((OpenSpec.ofChange Rows.slideOwnSpec).preRow enc Tryd.prog Tryd.f5 Rows.slideOwnRow.domain false Rows.slideOwnRow.laid) (((OpenSpec.ofChange Rows.slideOwnSpec).at F).post enc Tryd.prog Tryd.f5 false true false false) := by
  refine returnsInHanded_of_row (C := Tryd.checked) (s := OpenSpec.ofChange Rows.slideOwnSpec) own started (by kernel_rfl) Tryd.func5
    (witness_row_at (enc := enc) (C := Tryd.checked) false
      { World.holding Tryd.prog os ⟨#[], #[], []⟩ with heap := (World.holding Tryd.prog os ⟨#[], #[], []⟩).heap.modify 0 fun
          | .cells _ t frozen => .cells #[.iface 98 (.agg #[.pointer (some ⟨1, 25, none⟩)])] t frozen
          | o => o }
      #[.slice none 0 0, .slice none 0 0, .slice none 0 0] rfl (by kernel_rfl) (by kernel_rfl) (by kernel_rfl)
      (OpenSpec.preRow_of_cond 8 (x := ([.nil, .nil, .nil], [], [])) (by kernel_rfl) (by kernel_rfl) (fun k hk => by cases hk) (by kernel_rfl) (laidMetH_of_parts (laidMet_nil _ _) (by kernel_rfl)))) ?_
  intro W base args ds gs before hval hW _ hcond hsz hL _ _
  exact contract H enc W base args ds gs before hval hW hsz hL

theorem said : Rows.SlideOwnSaid :=
  OpenClaim.holds_of_cond 5 Tryd.f5 rfl rfl rfl rfl rfl rfl rfl ⟨rfl, rfl, rfl, rfl, rfl⟩ rfl rfl rfl rfl rfl (by kernel_rfl) Tryd.func5 (by kernel_rfl)
    (of_decide_eq_true (by kernel_rfl)) (by unfold Func.isWrapper; first | (rw [if_pos (by decide +kernel)]; kernel_rfl) | (rw [if_neg (by decide +kernel)]; exact ⟨rfl, rfl⟩))
    (fun os started H enc _ F => by rw [OpenClaim.pre_eq_preRow]; exact lifted os started H enc F)

theorem plain (f : FuncId) (fn : Func) (hf : Tryd.pinned.checked.prog.funcNamed Rows.slideOwnRow.func = some f) (hfn : Tryd.pinned.checked.prog.funcs[f]? = some fn) :
    true = Tryd.pinned.checked.prog.looks [] ∧ ∀ (j : Nat) t, fn.params[j]? = some t → Tryd.pinned.checked.prog.wantsStandIn t = false := by
  obtain rfl : f = 5 := Option.some.inj ((show Tryd.prog.funcNamed Rows.slideOwnRow.func = some 5 by kernel_rfl).symm.trans hf) |>.symm
  obtain rfl : fn = Tryd.f5 := (Option.some.inj (Tryd.func5.symm.trans hfn)).symm
  refine ⟨by kernel_rfl, fun j t ht => ?_⟩
  rw [Tryd.params5] at ht
  have hm : t = 22 ∨ t = 23 := by simpa using Array.mem_of_getElem? ht
  rcases hm with rfl | rfl
  · exact (show Tryd.prog.wantsStandIn 22 = false by kernel_rfl)
  · exact (show Tryd.prog.wantsStandIn 23 = false by kernel_rfl)

theorem card : Rows.SlideOwnCardSaid :=
  Claim7.holds_tied_plain_at .later [] _ _ _ _ said (fun _ h => by cases h) (by kernel_rfl) (fun _ h => by cases h) slideOwn_row_tie rfl ⟨rfl, rfl⟩ (by kernel_rfl) rfl plain (by kernel_rfl)
end Go.Proofs.YtmomeemkdfoklaaDoor.slideOwn
