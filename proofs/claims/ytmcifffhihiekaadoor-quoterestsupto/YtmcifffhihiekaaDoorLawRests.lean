/-
  PROVED: the card of QuoteRests' second form: for every string of bulk up to 1048576 QuoteRests returns true, and it reads afterwards as it read before; the card ties what errors.errorType holds to the program's text (a pruned copy of the project: the packages that this law loads).
-/
import Derived.Test.YtmcifffhihiekaaDoorWorks
import Derived.Test.YtmcifffhihiekaaDoorHandle
namespace Go.Proofs.YtmcifffhihiekaaDoor.quoteRests
open Go.ChangeShapes Go.WideShapes Go.ChangeAt Go.RowKit
open Go.ChangeMaps (open_string shut_string)

theorem ext_end (s : ByteArray) (p r : List UInt8) (h : s.data.toList = p ++ r) : s.extract (s.size - r.length) s.size = ⟨r.toArray⟩ := by
  have hl : s.size = p.length + r.length := by rw [← size_data, h, List.length_append]
  have hk : s.size - r.length = p.length := by omega
  rw [hk, ext_drop' s p.length (by omega), h, List.drop_left' rfl]

set_option maxHeartbeats 2000000 in
theorem walk (s : ByteArray) (w : World) (hs : s.size ≤ 1048576) (hg : ErrVar w) :
    Calls Tryd.prog 7 #[.string s] w fun e w' => e = .returned (.bool true) ∧ Below w.heap.size w w' := by
  have HG := hid hg
  clear hg
  have HU := hid (unquote_any s w (by omega))
  cases hu : Pq.unq s.data.toList with
  | none =>
    rw [hu] at HU
    clear hu
    simp only [tup] at HU
    go_enter Tryd.func7, Tryd.ntmps7
    go_wp2_with fail
    refine HU.out.mono ?_
    rintro e w1 ⟨rfl, hb1⟩
    have HG1 := hid (HG.out.below hb1)
    go_wp2_with fail
    refine (works_any _ HG1.out).mono ?_
    rintro e w2 ⟨rfl, hb2⟩
    go_wp2
    go_ret
    exact ⟨rfl, hb1.trans (hb2.mono hb1.size)⟩
  | some ar =>
    obtain ⟨a, r⟩ := ar
    obtain ⟨p, hp, hlen⟩ := Pq.unq_rest _ _ _ hu
    rw [hu] at HU
    clear hu
    simp only [tup] at HU
    obtain ⟨A, hA⟩ : ∃ A : ByteArray, A = ⟨a.toArray⟩ := ⟨_, rfl⟩
    obtain ⟨R, hR⟩ : ∃ R : ByteArray, R = ⟨r.toArray⟩ := ⟨_, rfl⟩
    rw [← hA, ← hR] at HU
    have hAd : A.data.toList = a := by rw [hA]
    have hRd : R.data.toList = r := by rw [hR]
    have hAs : A.size = a.length := by rw [← size_data, hAd]
    have hRs : R.size = r.length := by rw [← size_data, hRd]
    have hss : s.size = p.length + r.length := by rw [← size_data, hp, List.length_append]
    have HE : Hid (s.extract (s.size - R.size) s.size = R) := hid (by rw [hRs, ext_end s p r hp, hR])
    have b1 : R.size ≤ s.size := by omega
    have b2 : A.size ≤ s.size - R.size := by omega
    have d1 : decide ((s.size : Int) < (R.size : Int)) = false := decide_eq_false (by omega)
    have d1' : decide (s.size < R.size) = false := decide_eq_false (by omega)
    have e3 : ((s.extract (s.size - R.size) s.size).toList == R.toList) = true := by rw [HE.out]; simp
    have d2 : decide ((s.size : Int) - (R.size : Int) < (A.size : Int)) = false := decide_eq_false (by omega)
    have HQ : Hid (∀ w', Calls Tryd.prog 13 #[.string ⟨(Pq.quote A.data.toList).toArray⟩] w' fun e w'' => e = .returned (.tuple #[.string A, .string ⟨#[]⟩, .nilIface]) ∧ Below w'.heap.size w' w'') := hid (by
      intro w'
      have hql := Pq.quote_len A.data.toList
      rw [size_data] at hql
      refine (unquote_any _ w' (by show (Pq.quote A.data.toList).toArray.size ≤ _; rw [List.size_toArray]; omega)).mono fun e w'' ⟨he, hb⟩ => ⟨?_, hb⟩
      rw [he]
      show Ending.returned (tup (Pq.unq (Pq.quote A.data.toList))) = _
      rw [Pq.back_nil]
      show Ending.returned (.tuple #[.string ⟨A.data.toList.toArray⟩, .string ⟨#[]⟩, .nilIface]) = _
      rw [bytes_eta])
    clear hA hR hAd hRd hAs hRs hss hp hlen
    go_enter Tryd.func7, Tryd.ntmps7
    go_wp2_with fail
    refine HU.out.mono ?_
    rintro e w1 ⟨rfl, hb1⟩
    go_wp2_with fail
    refine (quote_any A _ (by omega)).mono ?_
    rintro e w2 ⟨rfl, hb2⟩
    go_wp2_with fail
    refine (HQ.out _).mono ?_
    rintro e w3 ⟨rfl, hb3⟩
    have HG3 := hid (((HG.out.below hb1).below hb2).below hb3)
    go_wp2_with fail
    refine (works_any _ HG3.out).mono ?_
    rintro e w4 ⟨rfl, hb4⟩
    go_wp2
    go_ret
    have z1 := hb1.size
    have z2 := hb2.size
    have z3 := hb3.size
    exact ⟨rfl, hb1.trans ((hb2.mono z1).trans ((hb3.mono (by omega)).trans (hb4.mono (by omega))))⟩

theorem own : ownKnob Tryd.prog.godebug = none := by kernel_rfl

theorem contract (H : Type) (enc : TypeId × Value → H) (W : World) (base : Nat) (args : Array Value) (ds gs : List (DataW H)) (before : List MemPlace)
    (hval : ∀ (j : Nat) t v, Tryd.f7.params[j]? = some t → args[j]? = some v → Value.okWide Tryd.prog W .any base t v)
    (hW : DataW.Whole enc Tryd.prog Tryd.f7.params.toList Rows.quoteRestsSpec.vars false W args.toList ds gs before)
    (hk : Rows.uptoSmall H (ds ++ gs) = true)
    (hL : laidMetH Tryd.prog Rows.quoteRestsUptoRow.laid W)
    : Calls Tryd.prog 7 args W fun e W' => ∃ v, e = .returned v ∧ Rows.quoteRestsSpec.post enc Tryd.prog Tryd.f7 false true false false W args v W' := by
  have hW' := hW
  obtain ⟨p, q, hA0, hV, rfl, hfz, hnd⟩ := hW
  have hA : DataW.TrodAll enc Tryd.prog W 0 (fun _ => true) true Tryd.f7.params.toList args.toList ds p := hA0
  rw [Tryd.params7] at hA hval
  obtain ⟨v0, vs0, d0, ds0, p0, q0, hargs0, rfl, rfl, h0, r0⟩ := trodAll_cons hA
  obtain ⟨rfl, rfl, rfl⟩ := trodAll_nil r0
  obtain rfl : args = #[v0] := by cases args; simp_all
  obtain ⟨rfl, rfl⟩ := trodVars_none hV
  obtain ⟨x0, rfl, rfl, rfl, hmax0⟩ := open_string Tryd.underlying9 (hval 0 9 v0 rfl rfl) h0
  clear hA0
  simp only [List.append_nil] at hW' hk
  have hk' : Rows.uptoBulkAll (H := H) [DataW.lit (.string x0.data.toList)] ≤ 1048576 := of_decide_eq_true hk
  simp only [Rows.uptoBulkAll, Rows.uptoBulk] at hk'
  have hls0 : x0.data.toList.length = x0.size := size_data x0
  refine (walk x0 W (by omega) (handle_of hL)).mono fun e W' ⟨he, hb⟩ => ?_
  subst he
  exact ⟨_, rfl, _, _, _, [], [], [], hW', trodAll_cons_mk (shut_bool Tryd.underlying4 _) trodAll_mk0, trodAll_cons_mk (shut_string Tryd.underlying9 hmax0) trodAll_mk0, rfl, hb.frame _, fun h => by cases h⟩

set_option maxRecDepth 100000 in
theorem lifted (os : Os) (started : os.Started) (H : Type) (enc : TypeId × Value → H) (F : Stop.Interp) :
    ReturnsInHanded {} Tryd.checked os 7 .any ((Rows.OpenSpec.upto Rows.quoteRestsSpec).preRow enc Tryd.prog Tryd.f7 Rows.quoteRestsUptoRow.domain false Rows.quoteRestsUptoRow.laid) (((Rows.OpenSpec.upto Rows.quoteRestsSpec).at F).post enc Tryd.prog Tryd.f7 false true false false) := by
  refine returnsInHanded_of_row (C := Tryd.checked) (s := Rows.OpenSpec.upto Rows.quoteRestsSpec) own started (by kernel_rfl) Tryd.func7
    (witness_row_at (enc := enc) (C := Tryd.checked) false
      { World.holding Tryd.prog os ⟨#[], #[], []⟩ with heap := (World.holding Tryd.prog os ⟨#[], #[], []⟩).heap.modify 0 fun
          | .cells _ t frozen => .cells #[.iface 66 (.agg #[.pointer (some ⟨2, 26, none⟩)])] t frozen
          | o => o }
      #[.string .empty] rfl (by kernel_rfl) (by kernel_rfl) (by kernel_rfl)
      (OpenSpec.preRow_of_cond 8 (x := ([.lit (.string [])], [], [])) (by kernel_rfl) (by kernel_rfl) (fun k hk => by cases hk; kernel_rfl) (by kernel_rfl) (laidMetH_of_parts (laidMet_nil _ _) (by kernel_rfl)))) ?_
  intro W base args ds gs before hval hW _ hcond hsz hL _ _
  exact contract H enc W base args ds gs before hval hW (hcond _ rfl) hL

theorem said : Rows.QuoteRestsUptoSaid :=
  OpenClaim.holds_of_cond 7 Tryd.f7 rfl rfl rfl rfl rfl rfl rfl ⟨rfl, rfl, rfl, rfl, rfl⟩ rfl rfl rfl rfl rfl (by kernel_rfl) Tryd.func7 (by kernel_rfl)
    (of_decide_eq_true (by kernel_rfl)) (by unfold Func.isWrapper; first | (rw [if_pos (by decide +kernel)]; kernel_rfl) | (rw [if_neg (by decide +kernel)]; exact ⟨rfl, rfl⟩))
    (fun os started H enc _ F => by rw [OpenClaim.pre_eq_preRow]; exact lifted os started H enc F)

theorem plain (f : FuncId) (fn : Func) (hf : Tryd.pinned.checked.prog.funcNamed Rows.quoteRestsUptoRow.func = some f) (hfn : Tryd.pinned.checked.prog.funcs[f]? = some fn) :
    true = Tryd.pinned.checked.prog.looks [] ∧ ∀ (j : Nat) t, fn.params[j]? = some t → Tryd.pinned.checked.prog.wantsStandIn t = false := by
  obtain rfl : f = 7 := Option.some.inj ((show Tryd.prog.funcNamed Rows.quoteRestsUptoRow.func = some 7 by kernel_rfl).symm.trans hf) |>.symm
  obtain rfl : fn = Tryd.f7 := (Option.some.inj (Tryd.func7.symm.trans hfn)).symm
  refine ⟨by kernel_rfl, fun j t ht => ?_⟩
  rw [Tryd.params7] at ht
  have hm : t = 9 := by simpa using Array.mem_of_getElem? ht
  rcases hm with rfl
  · exact (show Tryd.prog.wantsStandIn 9 = false by kernel_rfl)

theorem card : Rows.QuoteRestsUptoCardSaid :=
  Claim7.holds_tied_plain_at .later [] _ _ _ _ said (fun _ h => by cases h) (by kernel_rfl) (fun _ h => by cases h) quoteRestsUpto_row_tie rfl ⟨rfl, rfl⟩ (by kernel_rfl) rfl plain (by kernel_rfl)
end Go.Proofs.YtmcifffhihiekaaDoor.quoteRests
