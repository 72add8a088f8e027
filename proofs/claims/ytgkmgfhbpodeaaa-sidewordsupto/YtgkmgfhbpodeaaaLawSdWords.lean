/-
  PROVED: for every text SideWords returns true, and the text reads afterwards as it read before; the condition: what it holds is at most 1048576 in bulk.
-/
import Derived.Test.YtgkmgfhbpodeaaaS7
import Derived.ProofKit
import Derived.OpenShut
import Derived.LaidLaws
import Derived.LaidHandle
import Derived.SizedLaws
import Derived.Deep.DeepHandedRow
namespace Go.Proofs.Ytgkmgfhbpodeaaa.sideWords
open Go.ChangeShapes Go.WideShapes Go.ChangeAt Go.RowKit
open Go.ChangeMaps (open_string shut_string)

theorem size_data (s : ByteArray) : s.data.toList.length = s.size := by rw [Array.length_toList]; rfl
theorem own_some {w : World} {B n c : Nat} {t : TypeId} {sz : Nat} {a : Option Addr} {xs : List Value} (h : w.ownsRow B t sz (.slice a n c) n xs) (hn : 0 < n) : ∃ g, a = some ⟨g, 0, none⟩ := by
  rcases h.2 with ⟨hv, h0⟩ | ⟨g, cap, cur, hv, _⟩
  · omega
  · cases hv; exact ⟨g, rfl⟩
theorem own_at {w : World} {B n c : Nat} {t : TypeId} {sz : Nat} {xs : List Value} {g : Nat} (h : w.ownsRow B t sz (.slice (some ⟨g, 0, none⟩) n c) n xs) : B ≤ g ∧ (∀ o, w.frozen? ⟨g, o, none⟩ = false) := by
  rcases h.2 with ⟨hv, hn⟩ | ⟨g', cap, cur, hv, hg, hh, _⟩
  · cases hv
  · cases hv; exact ⟨hg, fun o => frozen_of_blk hh o⟩
theorem own_setT {w : World} {B g n c k : Nat} {l : List ByteArray} (h : w.ownsRow B 9 1 (.slice (some ⟨g, 0, none⟩) n c) n (stC l)) (z : ByteArray) : (w.setCell ⟨g, k, none⟩ (.string z)).ownsRow B 9 1 (.slice (some ⟨g, 0, none⟩) n c) n (stC (l.set k z)) := by
  obtain ⟨h1, h2⟩ := h
  rcases h2 with ⟨hv, _⟩ | ⟨g', cap, cur, hv, hg, hh, hc, hm, hsz, ht⟩
  · cases hv
  · cases hv
    refine ⟨by rw [stC_length, List.length_set, ← stC_length]; exact h1, .inr ⟨g, c, _, rfl, hg, set_heap _ g k _ _ _ hh, hc, hm, by simpa using hsz, ?_⟩⟩
    have e : stC (l.set k z) = (stC l).set k (.string z) := by unfold stC; rw [List.map_set]
    rw [e, ← ht]
    simp only [Array.toList_setIfInBounds, List.take_set]
/-- the first so many written over -/
def ovr (z : ByteArray) (S : List ByteArray) (k : Nat) : List ByteArray := List.replicate k z ++ S.drop k
theorem ovr_len (z : ByteArray) {S : List ByteArray} {k : Nat} (h : k ≤ S.length) : (ovr z S k).length = S.length := by unfold ovr; simp; omega
theorem ovr_get (z : ByteArray) (S : List ByteArray) (k : Nat) : (ovr z S k)[k]? = S[k]? := by
  unfold ovr
  rw [List.getElem?_append_right (by simp), List.length_replicate, Nat.sub_self, List.getElem?_drop, Nat.add_zero]
theorem ovr_set (z : ByteArray) {S : List ByteArray} {k : Nat} (h : k < S.length) : (ovr z S k).set k z = ovr z S (k + 1) := by
  unfold ovr
  rw [List.set_append, if_neg (by simp), List.length_replicate, Nat.sub_self, List.drop_eq_getElem_cons h, List.set_cons_zero, List.replicate_succ']
  simp
theorem flat_wdB (s : ByteArray) : flatB (wdB s) = s.data.toList := by
  unfold flatB wdB
  rw [List.map_map]
  refine Eq.trans ?_ (Sd.wds_flat s.data.toList)
  congr 1
  exact (List.map_congr_left fun x _ => rfl).trans (List.map_id _)
theorem wdB_ne {s : ByteArray} {k : Nat} {x : ByteArray} (h : (wdB s)[k]? = some x) : x.size ≠ 0 := by
  obtain ⟨p, hp, rfl⟩ := List.mem_map.1 (List.mem_of_getElem? h)
  have := Sd.wds_ne _ p hp
  intro e
  apply this
  rw [← bB_data p]
  exact List.length_eq_zero_iff.1 (by rw [dsize]; exact e)
theorem add_data (x y : ByteArray) : (x ++ y).data.toList = x.data.toList ++ y.data.toList := by simp

set_option maxHeartbeats 8000000 in
set_option maxRecDepth 100000 in
theorem walk (x0 : ByteArray) (w : World) (h0 : x0.size ≤ 1048576) :
    Calls Try.prog 3 #[.string x0] w fun e w' => e = .returned (.bool true) ∧ Below w.heap.size w w' := by
  have HW : Hid (∀ w', Calls Try.prog 4 #[.string x0] w' fun e w'' => ∃ v, e = .returned v ∧ OwnT w'' w'.heap.size v (wdB x0) ∧ Below w'.heap.size w' w'') := hid fun w' => words_any x0 w' (by omega)
  have HR : Hid (∀ w', Calls Try.prog 6 #[.string x0] w' fun e w'' => ∃ v, e = .returned v ∧ OwnT w'' w'.heap.size v (wdB x0) ∧ Below w'.heap.size w' w'') := hid fun w' => refWords_any x0 w' (by omega)
  have HLn := hid (wdB_len x0)
  have HFl := hid (flat_wdB x0)
  have HNe : Hid (∀ (k : Nat) (x : ByteArray), (wdB x0)[k]? = some x → x.size ≠ 0) := hid fun k x h => wdB_ne h
  generalize wdB x0 = P at HW HR HLn HFl HNe
  go_enter Try.func3, Try.ntmps3
  go_wp2_with fail
  refine (HW.out w).mono ?_
  rintro e w1 ⟨v1, rfl, hO1, hb1⟩
  obtain ⟨a1, c1, rfl⟩ := own_shape hO1
  have HO1 := hid hO1
  have HB1 := hid hb1
  clear hO1 hb1
  obtain ⟨n, hn⟩ : ∃ n, n = P.length := ⟨_, rfl⟩
  have HN := hid hn
  have hn1 : n ≤ 1048576 := by have := HLn.out; omega
  rw [← hn] at HO1 ⊢
  clear hn
  go_wp2_with fail
  refine (HR.out w1).mono ?_
  rintro e w2 ⟨v2, rfl, hO2, hb2⟩
  obtain ⟨a2, c2, rfl⟩ := own_shape hO2
  have HS := hid (same15_yes (l := P) (u := .slice a1 n c1) (by have := own_rd (own_stays HO1.out hb2); rw [HN.out] at this ⊢; exact this) (own_rd hO2) (by have := HN.out; omega))
  have HO2 := hid (own_stays HO1.out hb2)
  have HB2 := hid (HB1.out.trans (hb2.mono HB1.out.size))
  clear hO2 hb2 HO1
  go_wp2_with fail
  refine HS.out.mono ?_
  rintro e w3 ⟨rfl, hb3⟩
  have HO3 := hid (own_stays HO2.out hb3)
  have HB3 := hid (HB2.out.trans (hb3.mono HB2.out.size))
  clear hb3 HO2 HS
  go_wp2_with fail
  go_loopw [4, 5] (fun t i wr => ∃ (k : Nat) (T : ByteArray), k ≤ n ∧ i = .int .i64 k ∧ t = .string T ∧ Hid (T.data.toList = flatB (P.take k)) ∧ Hid (wr.ownsRow w.heap.size 9 1 (.slice a1 n c1) n (stC (ovr ⟨#[115, 112, 111, 105, 108, 116]⟩ P k))) ∧ Hid (Below w.heap.size w wr)) (fun _ i _ => n - (intOf i).toNat)
  case atStart => exact ⟨0, _, Nat.zero_le _, rfl, rfl, hid rfl, hid (by have := HO3.out; rw [← HN.out] at this; exact this), HB3⟩
  case round =>
    obtain ⟨k, T, hk, rfl, rfl, HT, HO, HB⟩ := hrel
    clear HO3 HB3
    by_cases hgo : k < n ∧ x0.size < 5000
    · obtain ⟨hlt, h5⟩ := hgo
      obtain ⟨x, hx⟩ : ∃ x, P[k]? = some x := ⟨_, List.getElem?_eq_getElem (by have := HN.out; omega)⟩
      obtain ⟨g, rfl⟩ := own_some HO.out (by omega)
      obtain ⟨hg, hfr⟩ := own_at HO.out
      have hne := HNe.out k x hx
      have e1 := empty_no x hne
      have e2 := eqnil_no x hne
      have hcx : wr.cell? ⟨g, k, none⟩ = some (.string x) := by
        have hro := own_rd HO.out
        rcases hro with ⟨h0', _⟩ | ⟨b, o, c, hv, _, _, hX⟩
        · omega
        · cases hv
          have := hX k _ (stC_get ((ovr_get _ P k).trans hx))
          rw [Nat.zero_add] at this
          exact this
      have hfk := hfr k
      have HT2 : Hid ((T ++ x).data.toList = flatB (P.take (k + 1))) := hid (by rw [add_data, HT.out, flatB_take hx])
      have HO2 : Hid ((wr.setCell ⟨g, k, none⟩ (.string ⟨#[115, 112, 111, 105, 108, 116]⟩)).ownsRow w.heap.size 9 1 (.slice (some ⟨g, 0, none⟩) n c1) n (stC (ovr ⟨#[115, 112, 111, 105, 108, 116]⟩ P (k + 1)))) := hid (by
        rw [← ovr_set _ (show k < P.length by have := HN.out; omega)]
        exact own_setT HO.out _)
      have HB2 : Hid (Below w.heap.size w (wr.setCell ⟨g, k, none⟩ (.string ⟨#[115, 112, 111, 105, 108, 116]⟩))) := hid (HB.out.setCell hg _)
      have hsz : T.size + x.size ≤ 1048576 := by
        have h1 := flatB_le P (k + 1)
        rw [← HT2.out, HFl.out, add_data, List.length_append, dsize, dsize, dsize] at h1
        omega
      have i1 : (0 : Int) ≤ (k : Int) := by omega
      have i2 : (k : Int) < (n : Int) := by omega
      have i4 : decide ((k : Int) < (n : Int)) = true := decide_eq_true i2
      have i5 : decide ((x0.size : Int) < 5000) = true := decide_eq_true (by omega)
      clear hx hne hfr HO HB
      go_wp2
      go_roundw
      case rel => exact ⟨k + 1, T ++ x, by omega, by go_num, rfl, HT2, HO2, HB2⟩
      case measure => simp [intOf]; omega
    · have HE : Hid (5000 ≤ x0.size ∨ (T.toList == x0.toList) = true) := hid (by
        by_cases h5 : 5000 ≤ x0.size
        · exact .inl h5
        · refine .inr ?_
          have hkn : k = n := by omega
          have : T = x0 := ba_ext (by rw [HT.out, List.take_of_length_le (by have := HN.out; omega), HFl.out])
          rw [this]
          exact beq_self_eq_true _)
      clear HO HT
      by_cases h5 : 5000 ≤ x0.size
      · have i5 : decide ((x0.size : Int) < 5000) = false := decide_eq_false (by omega)
        have i6 : decide (5000 ≤ (x0.size : Int)) = true := decide_eq_true (by omega)
        clear HE hgo
        by_cases hlt : k < n
        · have i4 : decide ((k : Int) < (n : Int)) = true := decide_eq_true (by omega)
          go_wp2_with fail
          refine (HW.out wr).mono ?_
          rintro e w5 ⟨v5, rfl, hO5, hb5⟩
          have HO5 := hid hO5
          have HB5 := hid (HB.out.trans (hb5.mono HB.out.size))
          clear hO5 hb5
          go_wp2_with fail
          refine (HR.out w5).mono ?_
          rintro e w6 ⟨v6, rfl, hO6, hb6⟩
          have HS := hid (same15_yes (own_rd (own_stays HO5.out hb6)) (own_rd hO6) (by have := HN.out; omega))
          have HB6 := hid (HB5.out.trans (hb6.mono HB5.out.size))
          clear hO6 hb6 HO5 HB5
          go_wp2_with fail
          refine HS.out.mono ?_
          rintro e w7 ⟨rfl, hb7⟩
          have HB7 := hid (HB6.out.trans (hb7.mono HB6.out.size))
          clear hb7 HS HB6
          go_wp2_with fail
          refine (wordy_any w7).mono ?_
          rintro e w8 ⟨rfl, hb8⟩
          have HB8 := hid (HB7.out.trans (hb8.mono HB7.out.size))
          clear hb8 HB7
          go_wp2_with fail
          go_ret
          exact ⟨rfl, HB8.out⟩
        · have i4 : decide ((k : Int) < (n : Int)) = false := decide_eq_false (by omega)
          go_wp2_with fail
          refine (HW.out wr).mono ?_
          rintro e w5 ⟨v5, rfl, hO5, hb5⟩
          have HO5 := hid hO5
          have HB5 := hid (HB.out.trans (hb5.mono HB.out.size))
          clear hO5 hb5
          go_wp2_with fail
          refine (HR.out w5).mono ?_
          rintro e w6 ⟨v6, rfl, hO6, hb6⟩
          have HS := hid (same15_yes (own_rd (own_stays HO5.out hb6)) (own_rd hO6) (by have := HN.out; omega))
          have HB6 := hid (HB5.out.trans (hb6.mono HB5.out.size))
          clear hO6 hb6 HO5 HB5
          go_wp2_with fail
          refine HS.out.mono ?_
          rintro e w7 ⟨rfl, hb7⟩
          have HB7 := hid (HB6.out.trans (hb7.mono HB6.out.size))
          clear hb7 HS HB6
          go_wp2_with fail
          refine (wordy_any w7).mono ?_
          rintro e w8 ⟨rfl, hb8⟩
          have HB8 := hid (HB7.out.trans (hb8.mono HB7.out.size))
          clear hb8 HB7
          go_wp2_with fail
          go_ret
          exact ⟨rfl, HB8.out⟩
      · have i4 : decide ((k : Int) < (n : Int)) = false := decide_eq_false (by omega)
        have i6 : decide (5000 ≤ (x0.size : Int)) = false := decide_eq_false (by omega)
        have i7 : (T.toList == x0.toList) = true := HE.out.resolve_left h5
        have hlt : ¬ k < n := by omega
        clear HE hgo
        go_wp2_with fail
        refine (HW.out wr).mono ?_
        rintro e w5 ⟨v5, rfl, hO5, hb5⟩
        have HO5 := hid hO5
        have HB5 := hid (HB.out.trans (hb5.mono HB.out.size))
        clear hO5 hb5
        go_wp2_with fail
        refine (HR.out w5).mono ?_
        rintro e w6 ⟨v6, rfl, hO6, hb6⟩
        have HS := hid (same15_yes (own_rd (own_stays HO5.out hb6)) (own_rd hO6) (by have := HN.out; omega))
        have HB6 := hid (HB5.out.trans (hb6.mono HB5.out.size))
        clear hO6 hb6 HO5 HB5
        go_wp2_with fail
        refine HS.out.mono ?_
        rintro e w7 ⟨rfl, hb7⟩
        have HB7 := hid (HB6.out.trans (hb7.mono HB6.out.size))
        clear hb7 HS HB6
        go_wp2_with fail
        refine (wordy_any w7).mono ?_
        rintro e w8 ⟨rfl, hb8⟩
        have HB8 := hid (HB7.out.trans (hb8.mono HB7.out.size))
        clear hb8 HB7
        go_wp2_with fail
        go_ret
        exact ⟨rfl, HB8.out⟩

theorem own : ownKnob Try.prog.godebug = none := by kernel_rfl

set_option maxRecDepth 100000 in
theorem contract (H : Type) (enc : TypeId × Value → H) (W : World) (base : Nat) (args : Array Value) (ds gs : List (DataW H)) (before : List MemPlace)
    (hval : ∀ (j : Nat) t v, Try.f3.params[j]? = some t → args[j]? = some v → Value.okWide Try.prog W .any base t v)
    (hW : DataW.Whole enc Try.prog Try.f3.params.toList Rows.sideWordsSpec.vars false W args.toList ds gs before)
    (hk : Rows.uptoSmall H (ds ++ gs) = true)
    : Calls Try.prog 3 args W fun e W' => ∃ v, e = .returned v ∧ Rows.sideWordsSpec.post enc Try.prog Try.f3 false true false false W args v W' := by
  have hW' := hW
  obtain ⟨p, q, hA0, hV, rfl, hfz, hnd⟩ := hW
  have hA : DataW.TrodAll enc Try.prog W 0 (fun _ => true) true Try.f3.params.toList args.toList ds p := hA0
  rw [Try.params3] at hA hval
  obtain ⟨v0, vs0, d0, ds0, p0, q0, hargs0, rfl, rfl, h0, r0⟩ := trodAll_cons hA
  obtain ⟨rfl, rfl, rfl⟩ := trodAll_nil r0
  obtain rfl : args = #[v0] := by cases args; simp_all
  obtain ⟨rfl, rfl⟩ := trodVars_none hV
  obtain ⟨x0, rfl, rfl, rfl, hmax0⟩ := open_string Try.underlying9 (hval 0 9 v0 rfl rfl) h0
  clear hA0
  simp only [List.append_nil] at hW' hk
  have hk' : Rows.uptoBulkAll (H := H) [DataW.lit (.string x0.data.toList)] ≤ 1048576 := of_decide_eq_true hk
  simp only [Rows.uptoBulkAll, Rows.uptoBulk] at hk'
  have hls0 : x0.data.toList.length = x0.size := size_data x0
  refine (walk x0 W (by omega)).mono fun e W' ⟨he, hb⟩ => ?_
  subst he
  exact ⟨_, rfl, _, _, _, [], [], [], hW', trodAll_cons_mk (shut_bool Try.underlying4 _) trodAll_mk0, trodAll_cons_mk (shut_string Try.underlying9 hmax0) trodAll_mk0, rfl, hb.frame _, fun h => by cases h⟩

set_option maxRecDepth 100000 in
theorem lifted (os : Os) (started : os.Started) (H : Type) (enc : TypeId × Value → H) (F : Stop.Interp) :
    ReturnsInHanded {} Try.checked os 3 .any ((Rows.OpenSpec.upto Rows.sideWordsSpec).preRow enc Try.prog Try.f3 Rows.sideWordsUptoRow.domain false Rows.sideWordsUptoRow.laid) (((Rows.OpenSpec.upto Rows.sideWordsSpec).at F).post enc Try.prog Try.f3 false true false false) := by
  refine returnsInHanded_of_row (C := Try.checked) (s := Rows.OpenSpec.upto Rows.sideWordsSpec) own started (by kernel_rfl) Try.func3
    (witness_row_at (enc := enc) (C := Try.checked) false
      (World.holding Try.prog os ⟨#[], #[], []⟩)
      #[.string .empty] rfl (by kernel_rfl) (by kernel_rfl) (by kernel_rfl)
      (OpenSpec.preRow_of_cond 8 (x := ([.lit (.string [])], [], [])) (by kernel_rfl) (by kernel_rfl) (fun k hk => by cases hk; kernel_rfl) (by kernel_rfl) (laidMetH_of_parts (laidMet_nil _ _) (by kernel_rfl)))) ?_
  intro W base args ds gs before hval hW _ hcond hsz hL _ _
  exact contract H enc W base args ds gs before hval hW (hcond _ rfl)

theorem proved : Rows.SideWordsUptoSaid :=
  OpenClaim.holds_of_cond 3 Try.f3 rfl rfl rfl rfl rfl rfl rfl ⟨rfl, rfl, rfl, rfl, rfl⟩ rfl rfl rfl rfl rfl (by kernel_rfl) Try.func3 (by kernel_rfl)
    (of_decide_eq_true (by kernel_rfl)) (by unfold Func.isWrapper; first | (rw [if_pos (by decide +kernel)]; kernel_rfl) | (rw [if_neg (by decide +kernel)]; exact ⟨rfl, rfl⟩))
    (fun os started H enc _ F => by rw [OpenClaim.pre_eq_preRow]; exact lifted os started H enc F)

end Go.Proofs.Ytgkmgfhbpodeaaa.sideWords
