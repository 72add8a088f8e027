/-
  PROVED: for every string of at most 1048575 bytes LinesOwn returns true, and the string reads afterwards as it read before.
-/
import Derived.Test.YtghdlfpjbmohbaaRd
import Derived.ProofKit
import Derived.OpenShut
import Derived.JoinedCond
namespace Go.Proofs.Ytghdlfpjbmohbaa.linesOwn
open Go.ChangeShapes Go.WideShapes Go.ChangeAt Go.RowKit
open Go.ChangeMaps (open_string shut_string)

theorem own : ownKnob Try.prog.godebug = none := by kernel_rfl

theorem short {H : Type} {s : ByteArray} (hk : Rows.uptoSmall H [.lit (.string s.data.toList)] = true) : s.size ≤ 1048576 := by
  have h : Rows.uptoBulkAll [DataW.lit (H := H) (.string s.data.toList)] ≤ 1048576 := of_decide_eq_true hk
  simp only [Rows.uptoBulkAll, Rows.uptoBulk] at h
  have e : s.data.toList.length = s.size := size_data s
  omega

theorem spoilt_own {w : World} {B n : Nat} (h : ∃ ys, w.ownsRow B 9 1 (.slice (some ⟨B, 0, none⟩) n n) n ys) (j : Nat) (hj : j < n) :
    (∃ u, w.cell? ⟨B, j, none⟩ = some u) ∧ w.frozen? ⟨B, j, none⟩ = false ∧ ∀ u : Value, u.oneCell' = true → ∃ ys, (w.setCell ⟨B, j, none⟩ u).ownsRow B 9 1 (.slice (some ⟨B, 0, none⟩) n n) n ys := by
  obtain ⟨ys, h⟩ := h
  have hl := h.1
  refine ⟨⟨ys[j]'(by omega), ?_⟩, h.frozenAt j, fun u _ => ⟨_, (h.stored j u).1⟩⟩
  rw [h.cellAt j (by omega), List.getElem?_eq_getElem (by omega)]

set_option maxHeartbeats 2000000 in
theorem walk (s : ByteArray) (w : World) (hs : s.size ≤ 1048576) :
    Calls Try.prog 8 #[.string s] w fun e w' => e = .returned (.bool true) ∧ Below w.heap.size w w' := by
  have hn := Pl.num_le s.data.toList
  rw [size_data] at hn
  have hl : (BL (Pl.cut s.data.toList)).length ≤ 140737488355328 := by rw [BL_length, ← Pl.num_eq]; omega
  obtain ⟨i0, hi, hz0, hz1, hz2⟩ := info_parts Try.info9
  go_enter Try.func8, Try.ntmps8
  go_wp2_with fail
  refine (split_any s _ (by omega) (by omega)).mono ?_
  rintro e w1 ⟨rfl, ho1, hb1⟩
  have hN : (Pl.cut s.data.toList).length ≤ 1048576 := by rw [← Pl.num_eq]; omega
  have hown : ∃ ys, w1.ownsRow w.heap.size 9 1 (.slice (some ⟨w.heap.size, 0, none⟩) (Pl.cut s.data.toList).length (Pl.cut s.data.toList).length) (Pl.cut s.data.toList).length ys := ⟨_, ho1⟩
  generalize (Pl.cut s.data.toList).length = n at hN hown ⊢
  have HO := hid hown
  clear ho1 hown
  go_wp2
  go_loopw [4] (fun i wr => ∃ k : Nat, k ≤ n ∧ i = .int .i64 k ∧ (∃ ys, wr.ownsRow w.heap.size 9 1 (.slice (some ⟨w.heap.size, 0, none⟩) n n) n ys) ∧ Below w.heap.size w wr) (fun i _ => n - (intOf i).toNat)
  case atStart => exact ⟨0, Nat.zero_le _, rfl, HO.out, hb1⟩
  case round =>
    obtain ⟨k, hk, rfl, hown, hb⟩ := hrel
    have HR := hid hown
    clear hown HO hb1
    by_cases hlt : k < n
    · obtain ⟨⟨u, hc⟩, hf, hst⟩ := spoilt_own HR.out k hlt
      have HS := hid hst
      clear hst
      go_wp2
      go_roundw
      case rel => exact ⟨k + 1, by omega, by go_num, HS.out _ rfl, hb.setCell (by exact Nat.le_refl _) _⟩
      case measure => simp [intOf]; omega
    · obtain ⟨ys, hown⟩ := HR.out
      go_wp2_with (at_builtin; refine wpList_append_own _ rfl _ _ 23 rfl w.heap.size 9 i0 (.string ⟨#[]⟩) 1 16 Try.underlying23 hi hz0 hz1 hz2 rfl (by decide) _ _ _ rfl (hown.alloc _) ⟨wr.heap.size, 0, none⟩ 2 2 [.string ⟨#[109, 111, 114, 101]⟩, .string ⟨#[109, 111, 114, 101]⟩] rfl rfl ?c1 ?c2 ?c3 ?c4 ?c5 ?_)
      case c1 =>
        intro j u hj
        match j, hj with
        | 0, hj => simp at hj; subst hj; simp [Addr.add]
        | 1, hj => simp at hj; subst hj; simp [Addr.add]
      case c2 => intro u hu; simp at hu; subst hu; rfl
      case c3 => unfold maxLen; omega
      case c4 => omega
      case c5 => have := hb.size; simp; omega
      intro v' w3 hown3 hgrow3 hnil3
      have hb3 : Below w.heap.size w w3 := (hb.alloc (hb.size) _).grown hgrow3 (by have := hb.size; simp; omega) (own_ge hown)
      have hlen : ys.length = n := by have := hown.1; omega
      have hsh : ∃ g cap, v' = .slice (some ⟨g, 0, none⟩) (n + 2) cap ∧ g < w3.heap.size ∧ w3.cell? ⟨g, n + 1, none⟩ = some (.string ⟨#[109, 111, 114, 101]⟩) := by
        have h3 := hown3
        rcases hown3.2 with ⟨_, h0⟩ | ⟨g, cap, cur, hv, _, hh, _⟩
        · omega
        · subst hv
          refine ⟨g, cap, rfl, lt_of_heap hh, ?_⟩
          rw [h3.cellAt (n + 1) (by omega), List.getElem?_append_right (by omega), hlen]
          have : n + 1 - n = 1 := by omega
          rw [this]; rfl
      obtain ⟨g, cap, hv', hg, hlast⟩ := hsh
      rw [hv']
      have HL := hid hlast
      clear hown3 hgrow3 hnil3 hown hb HR hv' hlast
      go_wp2_with fail
      refine (split_rd s _ (by omega) (by omega)).mono ?_
      rintro e w4 ⟨v4, rfl, hr4, hb4⟩
      go_wp2_with fail
      refine (refSplit_rd s _ (by omega) (by omega)).mono ?_
      rintro e w5 ⟨v5, rfl, hr5, hb5⟩
      go_wp2_with fail
      refine (same_rd (hr4.below hb5) hr5 hl).mono ?_
      rintro e w6 ⟨rfl, hb6⟩
      rw [decide_eq_true rfl]
      have z4 := hb4.size
      have z5 := hb5.size
      have hcell : w6.cell? ⟨g, n + 1, none⟩ = some (.string ⟨#[109, 111, 114, 101]⟩) := by
        rw [hb6.cell (p := ⟨g, n + 1, none⟩) (by show g < _; omega), hb5.cell (p := ⟨g, n + 1, none⟩) (by show g < _; omega), hb4.cell (p := ⟨g, n + 1, none⟩) hg]
        exact HL.out
      go_wp2_with fail
      refine (sure_any _).mono ?_
      rintro e w7 ⟨rfl, hb7⟩
      go_wp2
      go_ret
      have z3 := hb3.size
      have z6 := hb6.size
      exact ⟨rfl, hb3.trans ((hb4.mono z3).trans ((hb5.mono (by omega)).trans ((hb6.mono (by omega)).trans (hb7.mono (by omega)))))⟩

theorem contract (H : Type) (enc : TypeId × Value → H) (W : World) (base : Nat) (args : Array Value) (ds gs : List (DataW H)) (before : List MemPlace)
    (hval : ∀ (j : Nat) t v, Try.f8.params[j]? = some t → args[j]? = some v → Value.okWide Try.prog W .any base t v)
    (hW : DataW.Whole enc Try.prog Try.f8.params.toList Rows.linesOwnSpec.vars false W args.toList ds gs before) (hk : Rows.uptoSmall H (ds ++ gs) = true) :
    Calls Try.prog 8 args W fun e W' => ∃ v, e = .returned v ∧ Rows.linesOwnSpec.post enc Try.prog Try.f8 false true false false W args v W' := by
  have hW' := hW
  obtain ⟨p, q, hA0, hV, rfl, hfz, hnd⟩ := hW
  have hA : DataW.TrodAll enc Try.prog W 0 (fun _ => true) true Try.f8.params.toList args.toList ds p := hA0
  rw [Try.params8] at hA hval
  obtain ⟨v0, vs0, d0, ds0, p0, q0, hargs, rfl, rfl, h0, r0⟩ := trodAll_cons hA
  obtain ⟨rfl, rfl, rfl⟩ := trodAll_nil r0
  obtain rfl : args = #[v0] := by cases args; simp_all
  obtain ⟨rfl, rfl⟩ := trodVars_none hV
  obtain ⟨s, rfl, rfl, rfl, hmax⟩ := open_string Try.underlying9 (hval 0 9 v0 rfl rfl) h0
  clear hA0
  simp only [List.append_nil] at hW' hk
  refine (walk s W (short hk)).mono fun e W' ⟨he, hb⟩ => ?_
  subst he
  exact ⟨_, rfl, _, _, _, [], [], [], hW', trodAll_cons_mk (shut_bool Try.underlying4 _) trodAll_mk0, trodAll_cons_mk (shut_string Try.underlying9 hmax) trodAll_mk0, rfl, hb.frame _, fun h => by cases h⟩

set_option maxRecDepth 100000 in
theorem lifted (os : Os) (started : os.Started) (H : Type) (enc : TypeId × Value → H) (F : Stop.Interp) :
    ReturnsInHanded {} Try.checked os 8 .any ((Rows.OpenSpec.upto Rows.linesOwnSpec).pre6 enc Try.prog Try.f8 Rows.linesOwnUptoRow.domain false) (((Rows.OpenSpec.upto Rows.linesOwnSpec).at F).post enc Try.prog Try.f8 false true false false) := by
  refine returnsInHanded_of_cond (C := Try.checked) (s := Rows.OpenSpec.upto Rows.linesOwnSpec) (k := Rows.uptoSmall) rfl own started (by kernel_rfl) Try.func8
    (OpenSpec.witness (enc := enc) (C := Try.checked) (s := Rows.OpenSpec.upto Rows.linesOwnSpec) (k := Rows.uptoSmall) rfl false ⟨#[], #[.string .empty], []⟩ 8 (by kernel_rfl) (by kernel_rfl) (by kernel_rfl)
      (x := ([.lit (.string [])], [], [])) (by kernel_rfl) rfl (by kernel_rfl)) ?_
  intro W base args ds gs before hval hW _ hk _
  exact contract H enc W base args ds gs before hval hW hk

theorem proved : Rows.LinesOwnUptoSaid :=
  OpenClaim.holds_of_cond 8 Try.f8 rfl rfl rfl rfl rfl rfl rfl ⟨rfl, rfl, rfl, rfl, rfl⟩ rfl rfl rfl rfl rfl (by kernel_rfl) Try.func8 (by kernel_rfl)
    (of_decide_eq_true (by kernel_rfl)) (by unfold Func.isWrapper; first | (rw [if_pos (by decide +kernel)]; kernel_rfl) | (rw [if_neg (by decide +kernel)]; exact ⟨rfl, rfl⟩))
    (fun os started H enc _ F => lifted os started H enc F)
end Go.Proofs.Ytghdlfpjbmohbaa.linesOwn
