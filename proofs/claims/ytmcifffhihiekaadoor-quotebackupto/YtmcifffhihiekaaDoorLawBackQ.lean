/-
  PROVED: the card of QuoteBack's second form: for every two strings that together are of bulk up to 1048576 QuoteBack returns true, and both read afterwards as they read before; the card ties what errors.errorType holds to the program's text (a pruned copy of the project: the packages that this law loads).
-/
import Derived.Test.YtmcifffhihiekaaDoorWorks
import Derived.Test.YtmcifffhihiekaaDoorHandle
namespace Go.Proofs.YtmcifffhihiekaaDoor.quoteBack
open Go.ChangeShapes Go.WideShapes Go.ChangeAt Go.RowKit
open Go.ChangeMaps (open_string shut_string)

theorem seen_at (q : ByteArray) (k : Nat) (h : k < q.size) (hs : ∀ d ∈ q.data.toList, 32 ≤ d.toNat ∧ d.toNat ≤ 126) : 32 ≤ q[k].toNat ∧ q[k].toNat ≤ 126 :=
  hs q[k] (List.getElem_mem (l := q.data.toList) (n := k) (by rw [size_data]; exact h))
theorem unq_back (a r q : ByteArray) (hq : q.data.toList = Pq.quote a.data.toList) (h : Pq.needs a.data.toList = true ∨ Pq.ends r.data.toList) (h1 : q.size ≤ 4194306) (h2 : r.size ≤ 1048577) (w : World) :
    Calls Tryd.prog 13 #[.string (q ++ r)] w fun e w' => e = .returned (.tuple #[.string a, .string r, .nilIface]) ∧ Below w.heap.size w w' := by
  have hd : (q ++ r).data.toList = q.data.toList ++ r.data.toList := by simp
  refine (unquote_any (q ++ r) w (by simp; omega)).mono fun e w' ⟨he, hb⟩ => ⟨?_, hb⟩
  rw [he, hd, hq, Pq.back _ _ h]
  show Ending.returned (.tuple #[.string ⟨a.data.toList.toArray⟩, .string ⟨r.data.toList.toArray⟩, .nilIface]) = _
  rw [bytes_eta, bytes_eta]

set_option maxHeartbeats 4000000 in
theorem walk (a b : ByteArray) (w : World) (ha : a.size ≤ 1048576) (hb : b.size ≤ 1048576) (hg : ErrVar w) :
    Calls Tryd.prog 5 #[.string a, .string b] w fun e w' => e = .returned (.bool true) ∧ Below w.heap.size w w' := by
  have HG := hid hg
  clear hg
  have hql : (Pq.quote a.data.toList).length ≤ 4 * a.size + 2 := by rw [← size_data a]; exact Pq.quote_len _
  have HS := hid (Pq.quote_seen a.data.toList)
  obtain ⟨q, hq⟩ : ∃ q : ByteArray, q = ⟨(Pq.quote a.data.toList).toArray⟩ := ⟨_, rfl⟩
  have hqd : q.data.toList = Pq.quote a.data.toList := by rw [hq]
  have hqs : q.size = (Pq.quote a.data.toList).length := by rw [← size_data, hqd]
  have HQ := hid hq
  have HD := hid hqd
  have hqs' : q.size ≤ 4 * a.size + 2 := by omega
  clear hq hqd hqs hql
  go_enter Tryd.func5, Tryd.ntmps5
  go_wp2_with fail
  refine (quote_any a _ (by omega)).mono ?_
  rintro e w1 ⟨rfl, hb1⟩
  rw [← HQ.out]
  go_wp2
  go_loop [6] (fun i => ∃ k : Nat, k ≤ q.size ∧ i = .int .i64 k) (fun i => q.size - (intOf i).toNat)
  case atStart => exact ⟨0, Nat.zero_le _, rfl⟩
  case round =>
    obtain ⟨k, hk, rfl⟩ := hrel
    by_cases hlt : k < q.size
    · have hsee := seen_at q k hlt (by rw [HD.out]; exact HS.out)
      have d1 : decide ((q[k].toNat : Int) < 32) = false := decide_eq_false (by omega)
      have d2 : decide ((126 : Int) < (q[k].toNat : Int)) = false := decide_eq_false (by omega)
      clear hsee
      go_wp2
      go_round
      case rel => exact ⟨k + 1, by omega, by go_num⟩
      case measure => simp [intOf]; omega
    · have hq0 : q.size ≠ 0 := fun e => Pq.quote_ne a.data.toList (by rw [← HD.out]; exact List.length_eq_zero_iff.1 (by rw [size_data]; exact e))
      have heq := empty_no q hq0
      have hq1 : 1 ≤ q.size := by omega
      have hhd : q[0].toNat = 34 ↔ Pq.needs a.data.toList = true := by
        rw [← Pq.quote_head, ← HD.out, data1 q hq1]
        simp only [List.head?_cons, Option.some.injEq]
        exact ⟨fun e => UInt8.toNat_inj.1 (show q[0].toNat = (34 : UInt8).toNat from e), fun e => by rw [e]; rfl⟩
      clear hq0
      cases hn : Pq.needs a.data.toList with
      | true =>
        have h34 := hhd.2 hn
        have e34 := ieq (m := 34) (by omega : (q[0].toNat : Int) = 34)
        clear hhd h34
        have HN := hid hn
        clear hn
        go_wp2_with fail
        refine (unq_back a b q HD.out (.inl HN.out) (by omega) (by omega) _).mono ?_
        rintro e w2 ⟨rfl, hb2⟩
        have HG2 := hid ((HG.out.below hb1).below hb2)
        go_wp2_with fail
        refine (works_any _ HG2.out).mono ?_
        rintro e w3 ⟨rfl, hb3⟩
        go_wp2
        go_ret
        have z1 := hb1.size
        have z2 := hb2.size
        exact ⟨rfl, hb1.trans ((hb2.mono z1).trans (hb3.mono (by omega)))⟩
      | false =>
        have h34 : q[0].toNat ≠ 34 := fun e => by rw [hhd.1 e] at hn; cases hn
        have e34 := ine (m := 34) (by omega : (q[0].toNat : Int) ≠ 34)
        clear hhd h34 hn
        by_cases h0 : b.size = 0
        · have hbe := empty_yes b h0
          have HB : Hid (Pq.ends b.data.toList) := hid (.inl (List.length_eq_zero_iff.1 (by rw [size_data]; exact h0)))
          clear h0
          go_wp2_with fail
          refine (unq_back a b q HD.out (.inr HB.out) (by omega) (by omega) _).mono ?_
          rintro e w2 ⟨rfl, hb2⟩
          have HG2 := hid ((HG.out.below hb1).below hb2)
          go_wp2_with fail
          refine (works_any _ HG2.out).mono ?_
          rintro e w3 ⟨rfl, hb3⟩
          go_wp2
          go_ret
          have z1 := hb1.size
          have z2 := hb2.size
          exact ⟨rfl, hb1.trans ((hb2.mono z1).trans (hb3.mono (by omega)))⟩
        · have hbe := empty_no b h0
          have h1 : 1 ≤ b.size := by omega
          have h1' : (0 : Int) < (b.size : Int) := by omega
          clear h0
          by_cases h9 : b[0].toNat = 9
          · have e9 : ((b[0].toNat : Int) != 9) = false := by rw [h9]; rfl
            have HB : Hid (Pq.ends b.data.toList) := hid (.inr (.inl (by rw [data1 b h1, UInt8.toNat_inj.1 (show b[0].toNat = (9 : UInt8).toNat from h9)]; rfl)))
            clear h9
            go_wp2_with fail
            refine (unq_back a b q HD.out (.inr HB.out) (by omega) (by omega) _).mono ?_
            rintro e w2 ⟨rfl, hb2⟩
            have HG2 := hid ((HG.out.below hb1).below hb2)
            go_wp2_with fail
            refine (works_any _ HG2.out).mono ?_
            rintro e w3 ⟨rfl, hb3⟩
            go_wp2
            go_ret
            have z1 := hb1.size
            have z2 := hb2.size
            exact ⟨rfl, hb1.trans ((hb2.mono z1).trans (hb3.mono (by omega)))⟩
          · have e9 : ((b[0].toNat : Int) != 9) = true := by rw [bne_iff_ne]; omega
            by_cases h10 : b[0].toNat = 10
            · have e10 : ((b[0].toNat : Int) != 10) = false := by rw [h10]; rfl
              have HB : Hid (Pq.ends b.data.toList) := hid (.inr (.inr (by rw [data1 b h1, UInt8.toNat_inj.1 (show b[0].toNat = (10 : UInt8).toNat from h10)]; rfl)))
              clear h9 h10
              go_wp2_with fail
              refine (unq_back a b q HD.out (.inr HB.out) (by omega) (by omega) _).mono ?_
              rintro e w2 ⟨rfl, hb2⟩
              have HG2 := hid ((HG.out.below hb1).below hb2)
              go_wp2_with fail
              refine (works_any _ HG2.out).mono ?_
              rintro e w3 ⟨rfl, hb3⟩
              go_wp2
              go_ret
              have z1 := hb1.size
              have z2 := hb2.size
              exact ⟨rfl, hb1.trans ((hb2.mono z1).trans (hb3.mono (by omega)))⟩
            · have e10 : ((b[0].toNat : Int) != 10) = true := by rw [bne_iff_ne]; omega
              have HB : Hid (Pq.ends (ByteArray.mk #[9] ++ b).data.toList) := hid (.inr (.inl (by simp)))
              clear h9 h10
              go_wp2_with fail
              refine (unq_back a (ByteArray.mk #[9] ++ b) q HD.out (.inr HB.out) (by omega) (by have e1 : (ByteArray.mk #[9]).size = 1 := rfl; rw [ByteArray.size_append]; omega) _).mono ?_
              rintro e w2 ⟨rfl, hb2⟩
              have HG2 := hid ((HG.out.below hb1).below hb2)
              go_wp2_with fail
              refine (works_any _ HG2.out).mono ?_
              rintro e w3 ⟨rfl, hb3⟩
              go_wp2
              go_ret
              have z1 := hb1.size
              have z2 := hb2.size
              exact ⟨rfl, hb1.trans ((hb2.mono z1).trans (hb3.mono (by omega)))⟩

theorem own : ownKnob Tryd.prog.godebug = none := by kernel_rfl

theorem contract (H : Type) (enc : TypeId × Value → H) (W : World) (base : Nat) (args : Array Value) (ds gs : List (DataW H)) (before : List MemPlace)
    (hval : ∀ (j : Nat) t v, Tryd.f5.params[j]? = some t → args[j]? = some v → Value.okWide Tryd.prog W .any base t v)
    (hW : DataW.Whole enc Tryd.prog Tryd.f5.params.toList Rows.quoteBackSpec.vars false W args.toList ds gs before)
    (hk : Rows.uptoSmall H (ds ++ gs) = true)
    (hL : laidMetH Tryd.prog Rows.quoteBackUptoRow.laid W)
    : Calls Tryd.prog 5 args W fun e W' => ∃ v, e = .returned v ∧ Rows.quoteBackSpec.post enc Tryd.prog Tryd.f5 false true false false W args v W' := by
  have hW' := hW
  obtain ⟨p, q, hA0, hV, rfl, hfz, hnd⟩ := hW
  have hA : DataW.TrodAll enc Tryd.prog W 0 (fun _ => true) true Tryd.f5.params.toList args.toList ds p := hA0
  rw [Tryd.params5] at hA hval
  obtain ⟨v0, vs0, d0, ds0, p0, q0, hargs0, rfl, rfl, h0, r0⟩ := trodAll_cons hA
  obtain ⟨v1, vs1, d1, ds1, p1, q1, hargs1, rfl, rfl, h1, r1⟩ := trodAll_cons r0
  obtain ⟨rfl, rfl, rfl⟩ := trodAll_nil r1
  obtain rfl : args = #[v0, v1] := by cases args; simp_all
  obtain ⟨rfl, rfl⟩ := trodVars_none hV
  obtain ⟨x0, rfl, rfl, rfl, hmax0⟩ := open_string Tryd.underlying9 (hval 0 9 v0 rfl rfl) h0
  obtain ⟨x1, rfl, rfl, rfl, hmax1⟩ := open_string Tryd.underlying9 (hval 1 9 v1 rfl rfl) h1
  clear hA0
  simp only [List.append_nil] at hW' hk
  have hk' : Rows.uptoBulkAll (H := H) [DataW.lit (.string x0.data.toList), DataW.lit (.string x1.data.toList)] ≤ 1048576 := of_decide_eq_true hk
  simp only [Rows.uptoBulkAll, Rows.uptoBulk] at hk'
  have hls0 : x0.data.toList.length = x0.size := size_data x0
  have hls1 : x1.data.toList.length = x1.size := size_data x1
  refine (walk x0 x1 W (by omega) (by omega) (handle_of hL)).mono fun e W' ⟨he, hb⟩ => ?_
  subst he
  exact ⟨_, rfl, _, _, _, [], [], [], hW', trodAll_cons_mk (shut_bool Tryd.underlying4 _) trodAll_mk0, trodAll_cons_mk (shut_string Tryd.underlying9 hmax0) (trodAll_cons_mk (shut_string Tryd.underlying9 hmax1) trodAll_mk0), rfl, hb.frame _, fun h => by cases h⟩

set_option maxRecDepth 100000 in
theorem lifted (os : Os) (started : os.Started) (H : Type) (enc : TypeId × Value → H) (F : Stop.Interp) :
    ReturnsInHanded {} Tryd.checked os 5 .any ((Rows.OpenSpec.upto Rows.quoteBackSpec).preRow enc Tryd.prog Tryd.f5 Rows.quoteBackUptoRow.domain false Rows.quoteBackUptoRow.laid) (((Rows.OpenSpec.upto Rows.quoteBackSpec).at F).post enc Tryd.prog Tryd.f5 false true false false) := by
  refine returnsInHanded_of_row (C := Tryd.checked) (s := Rows.OpenSpec.upto Rows.quoteBackSpec) own started (by kernel_rfl) Tryd.func5
    (witness_row_at (enc := enc) (C := Tryd.checked) false
      { World.holding Tryd.prog os ⟨#[], #[], []⟩ with heap := (World.holding Tryd.prog os ⟨#[], #[], []⟩).heap.modify 0 fun
          | .cells _ t frozen => .cells #[.iface 66 (.agg #[.pointer (some ⟨2, 26, none⟩)])] t frozen
          | o => o }
      #[.string .empty, .string .empty] rfl (by kernel_rfl) (by kernel_rfl) (by kernel_rfl)
      (OpenSpec.preRow_of_cond 8 (x := ([.lit (.string []), .lit (.string [])], [], [])) (by kernel_rfl) (by kernel_rfl) (fun k hk => by cases hk; kernel_rfl) (by kernel_rfl) (laidMetH_of_parts (laidMet_nil _ _) (by kernel_rfl)))) ?_
  intro W base args ds gs before hval hW _ hcond hsz hL _ _
  exact contract H enc W base args ds gs before hval hW (hcond _ rfl) hL

theorem said : Rows.QuoteBackUptoSaid :=
  OpenClaim.holds_of_cond 5 Tryd.f5 rfl rfl rfl rfl rfl rfl rfl ⟨rfl, rfl, rfl, rfl, rfl⟩ rfl rfl rfl rfl rfl (by kernel_rfl) Tryd.func5 (by kernel_rfl)
    (of_decide_eq_true (by kernel_rfl)) (by unfold Func.isWrapper; first | (rw [if_pos (by decide +kernel)]; kernel_rfl) | (rw [if_neg (by decide +kernel)]; exact ⟨rfl, rfl⟩))
    (fun os started H enc _ F => by rw [OpenClaim.pre_eq_preRow]; exact lifted os started H enc F)

theorem plain (f : FuncId) (fn : Func) (hf : Tryd.pinned.checked.prog.funcNamed Rows.quoteBackUptoRow.func = some f) (hfn : Tryd.pinned.checked.prog.funcs[f]? = some fn) :
    true = Tryd.pinned.checked.prog.looks [] ∧ ∀ (j : Nat) t, fn.params[j]? = some t → Tryd.pinned.checked.prog.wantsStandIn t = false := by
  obtain rfl : f = 5 := Option.some.inj ((show Tryd.prog.funcNamed Rows.quoteBackUptoRow.func = some 5 by kernel_rfl).symm.trans hf) |>.symm
  obtain rfl : fn = Tryd.f5 := (Option.some.inj (Tryd.func5.symm.trans hfn)).symm
  refine ⟨by kernel_rfl, fun j t ht => ?_⟩
  rw [Tryd.params5] at ht
  have hm : t = 9 := by simpa using Array.mem_of_getElem? ht
  rcases hm with rfl
  · exact (show Tryd.prog.wantsStandIn 9 = false by kernel_rfl)

theorem card : Rows.QuoteBackUptoCardSaid :=
  Claim7.holds_tied_plain_at .later [] _ _ _ _ said (fun _ h => by cases h) (by kernel_rfl) (fun _ h => by cases h) quoteBackUpto_row_tie rfl ⟨rfl, rfl⟩ (by kernel_rfl) rfl plain (by kernel_rfl)
end Go.Proofs.YtmcifffhihiekaaDoor.quoteBack
