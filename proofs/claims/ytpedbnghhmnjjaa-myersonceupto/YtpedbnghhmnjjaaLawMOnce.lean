/-
  PROVED: for every two lists of integers MyersOnce returns true, and both read afterwards as they read before; the condition: what they hold is at most 1048576 in bulk.
-/
import Derived.Test.YtpedbnghhmnjjaaT4
import Derived.Test.YtpedbnghhmnjjaaT5
import Derived.Test.YtpedbnghhmnjjaaT6
import Derived.ProofKit
import Derived.OpenShut
import Derived.LaidLaws
import Derived.LaidHandle
import Derived.SizedLaws
import Derived.Deep.DeepHandedRow
namespace Go.Proofs.Ytpedbnghhmnjjaa.myersOnce
open Go.ChangeShapes Go.WideShapes Go.ChangeAt Go.RowKit
open Go.ChangeMaps (open_string shut_string)
open Ed (Ch Run Pr)

set_option maxHeartbeats 8000000 in
set_option maxRecDepth 100000 in
theorem walk (va : Value) (a : List Int) (vb : Value) (b : List Int) (w : World) (hra : RdI w va a) (hwa : ∀ z ∈ a, I64 z) (hla : a.length ≤ 1048576) (hsa : va = .slice none 0 0 ∨ ∃ ad n c, va = .slice (some ad) n c) (hrb : RdI w vb b) (hwb : ∀ z ∈ b, I64 z) (hlb : b.length ≤ 1048576) (hsb : vb = .slice none 0 0 ∨ ∃ ad n c, vb = .slice (some ad) n c) :
    Calls Try.prog 7 #[va, vb] w fun e w' => e = .returned (.bool true) ∧ Below w.heap.size w w' := by
  have HRa := hid hra
  have HWa := hid hwa
  have HSa : Hid (ArgS va) := hid hsa
  obtain ⟨pa, ka, rfl⟩ := hra.shape
  have HRb := hid hrb
  have HWb := hid hwb
  have HSb : Hid (ArgS vb) := hid hsb
  obtain ⟨pb, kb, rfl⟩ := hrb.shape
  clear hra hwa hsa hrb hwb hsb
  have HD := hid (fun w1 (hb : Below w.heap.size w w1) => diff_any (HRa.out.below hb) (HRb.out.below hb) (by omega) (by omega) HWa.out HWb.out)
  have hsl := Val_len (My.myD_val (a := a) (b := b) (by omega) (by omega)).1
  generalize My.myD a b = S at HD hsl
  obtain ⟨z, hz⟩ : ∃ z : Ch, z = ⟨-1, 0, 0, 0⟩ := ⟨_, rfl⟩
  have HZ := hid hz
  clear HRa HRb HWa HWb HSa HSb hz
  have zl : ((S.length : Int) == (S.length : Int)) = true := zeq rfl
  go_enter Try.func7, Try.ntmps7
  go_wp2_with fail
  refine (HD.out _ (Below.refl _ _)).mono ?_
  rintro e w1 ⟨v1, rfl, hO1, hb1⟩
  have HB1 := hid hb1
  have HO1 := hid hO1
  obtain ⟨a1, c1, rfl⟩ := own_shape hO1
  clear hb1 hO1
  go_wp2_with fail
  refine (HD.out _ HB1.out).mono ?_
  rintro e w2 ⟨v2, rfl, hO2, hb2⟩
  have HB2 := hid (HB1.out.trans (hb2.mono HB1.out.size))
  have HO2 := hid (own_stays HO1.out hb2)
  obtain ⟨a2, c2, rfl⟩ := own_shape hO2
  have HT2 := hid (own_rd hO2)
  have HTA : Hid (∀ g o, a2 = some ⟨g, o, none⟩ → w1.heap.size ≤ g) := hid (fun g o h => (own_at hO2 h).1)
  have HSA : Hid (∀ g o, a1 = some ⟨g, o, none⟩ → w.heap.size ≤ g ∧ g < w1.heap.size) := hid (fun g o h => own_at HO1.out h)
  have HSB : Hid (∀ k, (Value.slice a1 S.length c1).ownBlock = some k → w.heap.size ≤ k ∧ k < w1.heap.size) := hid (fun k h => ⟨own_ge HO1.out k h, own_lt HO1.out k h⟩)
  have hs1 : w.heap.size ≤ w1.heap.size := HB1.out.size
  have hs2 : w.heap.size ≤ w2.heap.size := HB2.out.size
  clear hO2 hb2 HO1 HB1
  go_wp2
  go_loopw [7] (fun i wr => ∃ k : Nat, k ≤ S.length ∧ i = .int .i64 k ∧ Hid (wr.ownsRow w.heap.size 35 4 (.slice a1 S.length c1) S.length (csC (ovr z S k))) ∧ Hid (RdC wr (.slice a2 S.length c2) S) ∧ Hid (Below w.heap.size w wr)) (fun i _ => S.length - (intOf i).toNat)
  case atStart => exact ⟨0, Nat.zero_le _, rfl, HO2, HT2, HB2⟩
  case round =>
    clear HO2 HT2 HB2
    obtain ⟨k, hk, rfl, HO, HT, HB⟩ := hrel
    by_cases hlt : k < S.length
    · obtain ⟨x, hx⟩ : ∃ x, S[k]? = some x := ⟨_, List.getElem?_eq_getElem hlt⟩
      obtain ⟨g, rfl⟩ := own_some HO.out (by omega)
      have hgs := HSA.out g 0 rfl
      have HRS : Hid (RdC wr (.slice (some ⟨g, 0, none⟩) S.length c1) (ovr z S k)) := hid (by show RdX _ _ _ _; rw [ovr_len z hk]; exact own_rd HO.out)
      obtain ⟨b1, o1, e1, _, d0, d1, d2, d3⟩ := rdC_at HRS.out ((ovr_get z S k).trans hx)
      cases e1
      obtain ⟨b2, o2, rfl, hb2l, t0, t1, t2, t3⟩ := rdC_at HT.out hx
      simp only [Nat.zero_add] at d0 d1 d2 d3
      have f0 := fun o => own_frozen HO.out o
      have HO' : Hid (∀ q, (set4 (wr.drewN q) g k z).ownsRow w.heap.size 35 4 (.slice (some ⟨g, 0, none⟩) S.length c1) S.length (csC (ovr z S (k + 1)))) := hid (fun q => by
        have h := own_setC (w := wr.drewN q) (own_stays HO.out (below_drewN (Below.refl _ _) q)) z (k := k) (by rw [ovr_len z hk]; exact hlt)
        rw [ovr_set z hlt] at h
        exact h)
      have HK' : Hid (∀ q, Kept (fun j => j = g) wr (set4 (wr.drewN q) g k z)) := hid (fun q => Kept.set4 (X := fun j => j = g) ((Kept.refl _ _).drewN q) rfl z)
      have HT' : Hid (∀ q, RdC (set4 (wr.drewN q) g k z) (.slice (some ⟨b2, o2, none⟩) S.length c2) S) := hid (fun q => HT.out.kept (HK'.out q) (fun g' o' h h2 => by have := HTA.out g' o' h; omega))
      have HB' : Hid (∀ q, Below w.heap.size w (set4 (wr.drewN q) g k z)) := hid (fun q => HB.out.trans ((HK'.out q).below (fun g' h => by omega) HB.out.size))
      have i1 : (0 : Int) ≤ (k : Int) := by omega
      have i2 : (k : Int) < (S.length : Int) := by omega
      clear hx HRS HK' HO HT
      go_wp2
      go_quiet (fail)
      go_wp2
      have hz := HZ.out
      subst hz
      exact ⟨⟨k + 1, by omega, by push_cast; rfl, HO'.out nq, HT'.out nq, HB'.out nq⟩, by simp [intOf]; omega⟩
    · obtain rfl : k = S.length := by omega
      obtain ⟨w3, hw3⟩ : ∃ w3, w3 = wr := ⟨_, rfl⟩
      subst hw3
      obtain ⟨L1, hL1⟩ : ∃ L1, L1 = ovr z S S.length := ⟨_, rfl⟩
      have hLl : L1.length = S.length := by rw [hL1]; exact ovr_len z (Nat.le_refl _)
      rw [← hL1] at HO
      clear hL1
      obtain ⟨X, hX⟩ : ∃ X, X = Obj.cells #[.int .i64 (-2), .int .i64 0, .int .i64 0, .int .i64 0, .int .i64 (-2), .int .i64 0, .int .i64 0, .int .i64 0] 35 (0, 0) := ⟨_, rfl⟩
      have hbX := (Below.refl w3.heap.size w3).alloc (Nat.le_refl _) X
      have HOX := hid (own_stays HO.out hbX)
      have HTX := hid (HT.out.below hbX)
      have HBX := hid (HB.out.trans (hbX.mono HB.out.size))
      have HLX : Hid (RdX (w3.alloc X) (.slice (some ⟨w3.heap.size, 0, none⟩) 2 2) 2 (csC [⟨-2, 0, 0, 0⟩, ⟨-2, 0, 0, 0⟩])) := hid (lit_rd (by have h := heap_alloc_new w3 X; rw [hX] at h ⊢; exact h))
      rw [hX] at HOX HTX HBX HLX
      clear hbX hX HO HT HB
      go_upto_region 12 with (at_builtin; refine wpList_append_more rfl _ _ 23 35 rfl Try.underlying23 Try.infoChange rfl (by decide) w.heap.size _ S.length (csC L1) rfl HOX.out _ 2 (csC [⟨-2, 0, 0, 0⟩, ⟨-2, 0, 0, 0⟩]) rfl HLX.out (.inr ⟨_, _, _, rfl⟩) rfl (csC_one _) (by unfold maxLen; omega) (by omega) HBX.out.size ?_; intro v4 w4 hO4 hg4; have HO4 : Hid (w4.ownsRow w.heap.size 35 4 v4 (S.length + 2) (csC (L1 ++ [⟨-2, 0, 0, 0⟩, ⟨-2, 0, 0, 0⟩]))) := hid (by rw [csC_append]; exact hO4); have hk4 := kept_of_grown' hg4; have HT4 := hid (HTX.out.kept hk4 (fun g o h h2 => by have h3 := HTA.out g o h; have h5 := HSB.out g h2; omega)); have HB4 := hid (HBX.out.grown hg4 HBX.out.size (fun q hq => own_ge HOX.out q hq)); clear hO4 hg4 hk4)
      obtain ⟨a4, c4, rfl⟩ := own_shape HO4.out
      have HR4 : Hid (RdC w4 (.slice a4 (S.length + 2) c4) (L1 ++ [⟨-2, 0, 0, 0⟩, ⟨-2, 0, 0, 0⟩])) := hid (by
        show RdX _ _ _ _
        rw [List.length_append, hLl]
        exact own_rd HO4.out)
      obtain ⟨M, hM⟩ : ∃ M, M = S.length + 2 := ⟨_, rfl⟩
      obtain ⟨E, hE⟩ : ∃ E, E = S.length + 1 := ⟨_, rfl⟩
      have HG : Hid ((L1 ++ [(⟨-2, 0, 0, 0⟩ : Ch), ⟨-2, 0, 0, 0⟩])[E]? = some ⟨-2, 0, 0, 0⟩) := hid (by
        rw [List.getElem?_append_right (by omega), hLl, hE, Nat.add_sub_cancel_left]
        rfl)
      rw [← hM] at HR4 ⊢
      have i7 : IntKind.i64.wrap ((M : Int) - 1) = (E : Int) := (wrapOk (by omega) (by omega)).trans (by omega)
      have i8 : (0 : Int) ≤ (E : Int) := by omega
      have i9 : (E : Int) < (M : Int) := by omega
      clear HO4 hM hE hLl
      go_wp2_with fail
      refine (HD.out _ HB4.out).mono ?_
      rintro e w5 ⟨v5, rfl, hO5, hb5⟩
      obtain ⟨a5, c5, rfl⟩ := own_shape hO5
      have HU5 := hid (own_rd hO5)
      have HT5 := hid (HT4.out.below hb5)
      have HS5 := hid (HR4.out.below hb5)
      have HB5 := hid (HB4.out.trans (hb5.mono HB4.out.size))
      clear hO5 hb5 HT4 HR4 HB4 HTX HOX HLX HBX
      go_wp2
      go_loopw [9] (fun i wr => ∃ k : Nat, k ≤ S.length ∧ i = .int .i64 k ∧ (∃ q, wr = w5.drewN q)) (fun i _ => S.length - (intOf i).toNat)
      case atStart => exact ⟨0, Nat.zero_le _, rfl, ⟨0, rfl⟩⟩
      case round =>
        obtain ⟨k, hk, rfl, ⟨q, rfl⟩⟩ := hrel
        by_cases hlt : k < S.length
        · obtain ⟨x, hx⟩ : ∃ x, S[k]? = some x := ⟨_, List.getElem?_eq_getElem hlt⟩
          obtain ⟨b1, o1, rfl, _, d0, d1, d2, d3⟩ := rdC_at HU5.out hx
          obtain ⟨b2, o2, rfl, _, t0, t1, t2, t3⟩ := rdC_at HT5.out hx
          have i1 : (0 : Int) ≤ (k : Int) := by omega
          have i2 : (k : Int) < (S.length : Int) := by omega
          clear hx
          go_wp2
          go_quiet (fail)
          go_wp2
          go_roundw
          case rel => exact ⟨k + 1, by omega, by go_num, ⟨_, by first | rfl | exact World.drewN_drewN _ _ _⟩⟩
          case measure => simp [intOf]; omega
        · obtain ⟨b1, o1, rfl, _, d0, _, _, _⟩ := rdC_at HS5.out HG.out
          simp only at d0
          have i2 : ¬ ((k : Int) < (S.length : Int)) := by omega
          have HB6 := hid (below_drewN HB5.out q)
          go_wp2_with fail
          refine (sure_any _).mono ?_
          rintro e w7 ⟨rfl, hb7⟩
          have HB7 := hid (HB6.out.trans (hb7.mono HB6.out.size))
          clear hb7
          go_wp2
          go_ret
          exact ⟨rfl, HB7.out⟩

theorem own : ownKnob Try.prog.godebug = none := by kernel_rfl

set_option maxRecDepth 100000 in
theorem contract (H : Type) (enc : TypeId × Value → H) (W : World) (base : Nat) (args : Array Value) (ds gs : List (DataW H)) (before : List MemPlace)
    (hval : ∀ (j : Nat) t v, Try.f7.params[j]? = some t → args[j]? = some v → Value.okWide Try.prog W .any base t v)
    (hW : DataW.Whole enc Try.prog Try.f7.params.toList Rows.myersOnceSpec.vars false W args.toList ds gs before)
    (hk : Rows.uptoSmall H (ds ++ gs) = true)
    : Calls Try.prog 7 args W fun e W' => ∃ v, e = .returned v ∧ Rows.myersOnceSpec.post enc Try.prog Try.f7 false true false false W args v W' := by
  have hW' := hW
  obtain ⟨p, q, hA0, hV, rfl, hfz, hnd⟩ := hW
  have hA : DataW.TrodAll enc Try.prog W 0 (fun _ => true) true Try.f7.params.toList args.toList ds p := hA0
  rw [Try.params7] at hA hval
  obtain ⟨v0, vs0, d0, ds0, p0, q0, hargs0, rfl, rfl, h0, r0⟩ := trodAll_cons hA
  obtain ⟨v1, vs1, d1, ds1, p1, q1, hargs1, rfl, rfl, h1, r1⟩ := trodAll_cons r0
  obtain ⟨rfl, rfl, rfl⟩ := trodAll_nil r1
  obtain rfl : args = #[v0, v1] := by cases args; simp_all
  obtain ⟨rfl, rfl⟩ := trodVars_none hV
  obtain ⟨x0, hr0, hw0, hd0, hsh0⟩ := open_ints (okWide_slice Try.underlying22 (hval 0 22 v0 rfl rfl)) h0
  obtain ⟨x1, hr1, hw1, hd1, hsh1⟩ := open_ints (okWide_slice Try.underlying22 (hval 1 22 v1 rfl rfl)) h1
  clear hA0
  simp only [List.append_nil] at hW' hk
  have hk' : Rows.uptoBulkAll (H := H) [d0, d1] ≤ 1048576 := of_decide_eq_true hk
  simp only [Rows.uptoBulkAll] at hk'
  have hbk0 := ints_bulk hd0
  have hbk1 := ints_bulk hd1
  have hlt0 : ∀ x ∈ p0, x.block < W.heap.size := fun x hx => by simpa using hW'.lt x (by simp [hx])
  have hlt1 : ∀ x ∈ p1, x.block < W.heap.size := fun x hx => by simpa using hW'.lt x (by simp [hx])
  refine (walk v0 x0 v1 x1 W hr0 hw0 (by omega) hsh0 hr1 hw1 (by omega) hsh1).mono fun e W' ⟨he, hb⟩ => ?_
  subst he
  exact ⟨_, rfl, _, _, _, [], (p0 ++ (p1 ++ [])), [], hW', trodAll_cons_mk (shut_bool Try.underlying4 _) trodAll_mk0, trodAll_cons_mk (Below.trod laidOut (by kernel_rfl) (of_decide_eq_true (by kernel_rfl)) h0 hb hlt0) (trodAll_cons_mk (Below.trod laidOut (by kernel_rfl) (of_decide_eq_true (by kernel_rfl)) h1 hb hlt1) trodAll_mk0), rfl, hb.frame _, fun h => by cases h⟩

set_option maxRecDepth 100000 in
theorem lifted (os : Os) (started : os.Started) (H : Type) (enc : TypeId × Value → H) (F : Stop.Interp) :
    ReturnsInHanded {} Try.checked os 7 .any ((Rows.OpenSpec.upto Rows.myersOnceSpec).preRow enc Try.prog Try.f7 Rows.myersOnceUptoRow.domain false Rows.myersOnceUptoRow.laid) (((Rows.OpenSpec.upto Rows.myersOnceSpec).at F).post enc Try.prog Try.f7 false true false false) := by
  refine returnsInHanded_of_row (C := Try.checked) (s := Rows.OpenSpec.upto Rows.myersOnceSpec) own started (by kernel_rfl) Try.func7
    (witness_row_at (enc := enc) (C := Try.checked) false
      (World.holding Try.prog os ⟨#[], #[], []⟩)
      #[.slice none 0 0, .slice none 0 0] rfl (by kernel_rfl) (by kernel_rfl) (by kernel_rfl)
      (OpenSpec.preRow_of_cond 8 (x := ([.nil, .nil], [], [])) (by kernel_rfl) (by kernel_rfl) (fun k hk => by cases hk; kernel_rfl) (by kernel_rfl) (laidMetH_of_parts (laidMet_nil _ _) (by kernel_rfl)))) ?_
  intro W base args ds gs before hval hW _ hcond hsz hL _ _
  exact contract H enc W base args ds gs before hval hW (hcond _ rfl)

theorem proved : Rows.MyersOnceUptoSaid :=
  OpenClaim.holds_of_cond 7 Try.f7 rfl rfl rfl rfl rfl rfl rfl ⟨rfl, rfl, rfl, rfl, rfl⟩ rfl rfl rfl rfl rfl (by kernel_rfl) Try.func7 (by kernel_rfl)
    (of_decide_eq_true (by kernel_rfl)) (by unfold Func.isWrapper; first | (rw [if_pos (by decide +kernel)]; kernel_rfl) | (rw [if_neg (by decide +kernel)]; exact ⟨rfl, rfl⟩))
    (fun os started H enc _ F => by rw [OpenClaim.pre_eq_preRow]; exact lifted os started H enc F)

end Go.Proofs.Ytpedbnghhmnjjaa.myersOnce
