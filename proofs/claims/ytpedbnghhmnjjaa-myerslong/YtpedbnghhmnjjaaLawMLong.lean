/-
  PROVED: for every integer and every list of integers MyersLong returns true, and the list reads afterwards as it read before.
-/
import Derived.Test.YtpedbnghhmnjjaaT4
import Derived.Test.YtpedbnghhmnjjaaT5
import Derived.Test.YtpedbnghhmnjjaaT7
import Derived.ProofKit
import Derived.OpenShut
import Derived.LaidLaws
import Derived.LaidHandle
import Derived.SizedLaws
import Derived.Deep.DeepHandedRow
namespace Go.Proofs.Ytpedbnghhmnjjaa.myersLong
open Go.ChangeShapes Go.WideShapes Go.ChangeAt Go.RowKit
open Go.ChangeMaps (open_string shut_string)
open Ed (Ch Run Pr)

/-- what the law holds at the end of its rows: the second one is like the first but for some places -/
def Alike (A L : List Int) (d : Nat) : Prop := L.length = A.length ∧ My.dst A L ≤ 2 * d ∧ ∀ x ∈ L, 0 ≤ x ∧ x ≤ 1000
theorem alike_set {A L : List Int} {d k : Nat} {x : Int} (h : Alike A L d) (hx : 0 ≤ x ∧ x ≤ 1000) : Alike A (L.set k x) (d + 1) := by
  obtain ⟨h1, h2, h3⟩ := h
  have h4 := My.dst_way A (L.set k x) L
  have h5 := dst_set L k x
  exact ⟨by rw [List.length_set]; exact h1, by omega, mem_set h3 hx⟩

set_option maxHeartbeats 8000000 in
set_option maxRecDepth 100000 in
theorem walk (n : Int) (v : Value) (P : List Int) (w : World) (hr : RdI w v P) (hw : ∀ z ∈ P, I64 z) (_ : P.length ≤ 17592186043904) (_ : v = .slice none 0 0 ∨ ∃ ad n c, v = .slice (some ad) n c) :
    Calls Try.prog 8 #[.int .i64 n, v] w fun e w' => e = .returned (.bool true) ∧ Below w.heap.size w w' := by
  have HR := hid hr
  have HW := hid hw
  obtain ⟨p, kp, rfl⟩ := hr.shape
  obtain ⟨m, hm⟩ : ∃ m, m = min n 3000 := ⟨_, rfl⟩
  obtain ⟨N, hN⟩ : ∃ N : Nat, (N : Int) = max 0 m := ⟨(max 0 m).toNat, by omega⟩
  have hN3 : N ≤ 3000 := by omega
  have q1 : ∀ X : World, (Builtin.min_ #[3, 3] 3 #[.int .i64 n, .int .i64 3000]).run Try.prog X = .ok (.int .i64 m) X := fun X => by rw [hm]; exact run_min2' _ _ _ _
  have q2 : ∀ X : World, (Builtin.max_ #[3, 3] 3 #[.int .i64 0, .int .i64 m]).run Try.prog X = .ok (.int .i64 (N : Int)) X := fun X => by rw [hN]; exact run_max2 _ _ _ _
  clear hr hw hm hN
  go_enter Try.func8, Try.ntmps8
  go_wp2
  go_loopw [5, 6, 7] (fun va vb i wr => ∃ k : Nat, k ≤ N ∧ i = .int .i64 k ∧ Hid (OwnI wr w.heap.size va (sev k)) ∧ Hid (OwnI wr w.heap.size vb (sev k)) ∧ Hid (Apart va vb) ∧ Hid (Below w.heap.size w wr)) (fun _ _ i _ => N - (intOf i).toNat)
  case atStart => exact ⟨0, Nat.zero_le _, rfl, hid (World.ownsRow_nil _ _ _ _), hid (World.ownsRow_nil _ _ _ _), hid (apart_none _), hid (Below.refl _ _)⟩
  case round =>
    obtain ⟨k, hk, rfl, HA, HB, HAB, HBe⟩ := hrel
    by_cases hlt : k < N
    · have i1 : (k : Int) < (N : Int) := by omega
      have i2 : IntKind.i64.wrap ((k : Int) + 1) = (k : Int) + 1 := wrapOk (by omega) (by omega)
      have HN := hid (sev_next k)
      have hsl : (sev k).length = k := sev_len k
      obtain ⟨L, hL⟩ : ∃ L, L = sev k := ⟨_, rfl⟩
      rw [← hL] at HA HB HN hsl
      have hbe : ∀ (x : Int) (W : World), Below W.heap.size W (W.alloc (.cells #[.int .i64 x] 3)) := fun x W => (Below.refl W.heap.size W).alloc (Nat.le_refl _) _
      have HBE := hid hbe
      have HCE : Hid (∀ (x : Int) (W : World), (W.alloc (.cells #[.int .i64 x] 3)).cell? ⟨W.heap.size, 0, none⟩ = some (.int .i64 x)) := hid (fun x W => cell_of_blk (heap_alloc_new W _) 0)
      clear hL hbe
      go_upto_region 7 with (at_builtin; refine wpList_append_in rfl _ _ rfl w.heap.size _ L rfl (own_stays HA.out (HBE.out _ wr)) wr.heap.size 1 ((k : Int) % 7) rfl (HCE.out _ wr) (by omega) (Nat.le_trans HBe.out.size (HBE.out _ wr).size) ?_; intro v1 w1 hO1 hg1; have HO1 : Hid (OwnI w1 w.heap.size v1 (sev (k + 1))) := hid (by rw [HN.out]; exact hO1); have HOB1 := hid (kept_row (own_stays HB.out (HBE.out ((k : Int) % 7) wr)) hg1.1 HAB.out); have HAB1 := hid (apart_new (own_stays HB.out (HBE.out ((k : Int) % 7) wr)) HAB.out hg1.2); have HB1 := hid ((HBe.out.trans ((HBE.out ((k : Int) % 7) wr).mono HBe.out.size)).grown hg1.1 (Nat.le_trans HBe.out.size (HBE.out ((k : Int) % 7) wr).size) (fun q hq => own_ge HA.out q hq)); clear hO1 hg1)
      clear HA HB HAB HBe
      go_wp2_with (at_builtin; refine wpList_append_in rfl _ _ rfl w.heap.size _ L rfl (own_stays HOB1.out (HBE.out _ w1)) w1.heap.size 1 ((k : Int) % 7) rfl (HCE.out _ w1) (by omega) (Nat.le_trans HB1.out.size (HBE.out _ w1).size) ?_; intro v2 w2 hO2 hg2; have HO2 : Hid (OwnI w2 w.heap.size v2 (sev (k + 1))) := hid (by rw [HN.out]; exact hO2); have HOA2 := hid (kept_row (own_stays HO1.out (HBE.out ((k : Int) % 7) w1)) hg2.1 HAB1.out.symm); have HAB2 := hid (apart_new (own_stays HO1.out (HBE.out ((k : Int) % 7) w1)) HAB1.out.symm hg2.2).symm; have HB2 := hid ((HB1.out.trans ((HBE.out ((k : Int) % 7) w1).mono HB1.out.size)).grown hg2.1 (Nat.le_trans HB1.out.size (HBE.out ((k : Int) % 7) w1).size) (fun q hq => own_ge HOB1.out q hq)); clear hO2 hg2)
      exact ⟨⟨k + 1, by omega, by push_cast; rfl, HOA2, HO2, HAB2, HB2⟩, by simp [intOf]; omega⟩
    · obtain rfl : k = N := by omega
      obtain ⟨w3, hw3⟩ : ∃ w3, w3 = wr := ⟨_, rfl⟩
      subst hw3
      have hsl : (sev k).length = k := sev_len k
      obtain ⟨A, hAe⟩ : ∃ A, A = sev k := ⟨_, rfl⟩
      have HAI : Hid (∀ x ∈ A, 0 ≤ x ∧ x ≤ 1000) := hid (by rw [hAe]; exact sev_in k)
      have HAL : Hid (Alike A A 0) := hid ⟨rfl, by rw [(My.dst_zero A A).2 rfl]; omega, HAI.out⟩
      rw [← hAe] at HA HB hsl
      have HA0 : Hid (w3.ownsRow w.heap.size 3 1 _ k (isC A)) := hid (by have h := HA.out; unfold OwnI at h; rw [hsl] at h; exact h)
      have HB0 : Hid (w3.ownsRow w.heap.size 3 1 _ k (isC A)) := hid (by have h := HB.out; unfold OwnI at h; rw [hsl] at h; exact h)
      clear HA HB hAe
      obtain ⟨aa, ca, rfl⟩ := own_shape HA0.out
      obtain ⟨ab, cb, rfl⟩ := own_shape HB0.out
      have HX : Hid (∀ g o, ab = some ⟨g, o, none⟩ → w.heap.size ≤ g ∧ g < w3.heap.size) := hid (fun g o h => own_at HB0.out h)
      go_wp2
      go_loopw [8] (fun i wr => ∃ (j : Nat) (L : List Int), j ≤ 20 ∧ j ≤ P.length ∧ i = .int .i64 j ∧ Hid (Alike A L j) ∧ Hid (wr.ownsRow w.heap.size 3 1 (.slice ab k cb) k (isC L)) ∧ Hid (wr.ownsRow w.heap.size 3 1 (.slice aa k ca) k (isC A)) ∧ Hid (Below w.heap.size w wr)) (fun i _ => 20 - (intOf i).toNat)
      case atStart => exact ⟨0, A, by omega, Nat.zero_le _, rfl, HAL, HB0, HA0, HBe⟩
      case round =>
        clear HA0 HB0 HBe HAL
        obtain ⟨j, L, hj, hjP, rfl, HL, HO, HA, HBe⟩ := hrel
        by_cases hgo : j < P.length ∧ j < 20 ∧ 0 < k
        · obtain ⟨g1, g2, g3⟩ := hgo
          obtain ⟨x, hx⟩ : ∃ x, P[j]? = some x := ⟨_, List.getElem?_eq_getElem g1⟩
          obtain ⟨bp, op, rfl, _, d1⟩ := rdI_at (HR.out.below HBe.out) hx
          have hx64 := HW.out x (List.mem_of_getElem? hx)
          obtain ⟨g, rfl⟩ := own_some HO.out g3
          have i1 : (j : Int) < (P.length : Int) := by omega
          have i2 : (j : Int) < 20 := by omega
          have i3 : (0 : Int) < (k : Int) := by omega
          have i4 : (0 : Int) ≤ (j : Int) := by omega
          have i5 : ¬ ((k : Int) = 0) := by omega
          clear hx
          obtain ⟨I, hI, hIk⟩ := tmod_in x k g3 hN3
          obtain ⟨y, hy⟩ : ∃ y, L[I]? = some y := ⟨_, List.getElem?_eq_getElem (by rw [HL.out.1, hsl]; exact hIk)⟩
          have HRL : Hid (RdI wr (.slice (some ⟨g, 0, none⟩) k cb) L) := hid (by show RdX _ _ _ _; rw [HL.out.1, hsl]; exact own_rd HO.out)
          obtain ⟨b2, o2, e2, _, d2⟩ := rdI_at HRL.out hy
          cases e2
          simp only [Nat.zero_add] at d2
          have f2 := own_frozen HO.out I
          have j0 : (0 : Int) ≤ (I : Int) := by omega
          have j1 : (I : Int) < (k : Int) := by omega
          have j2 : IntKind.i64.wrap (100 + (j : Int)) = 100 + (j : Int) := wrapOk (by omega) (by omega)
          have j3 : IntKind.i64.wrap ((j : Int) + 1) = (j : Int) + 1 := wrapOk (by omega) (by omega)
          have HL' : Hid (Alike A (L.set I (100 + (j : Int))) (j + 1)) := hid (alike_set HL.out (by omega))
          have HO' := hid (own_setI HO.out (100 + (j : Int)) (k := I))
          have HA' : Hid ((wr.setCell ⟨g, I, none⟩ (.int .i64 (100 + (j : Int)))).ownsRow w.heap.size 3 1 (.slice aa k ca) k (isC A)) := hid (own_far HA.out (fun q hq => set_other _ (fun e => HAB.out q hq (by rw [e]; rfl))))
          have HB' : Hid (Below w.heap.size w (wr.setCell ⟨g, I, none⟩ (.int .i64 (100 + (j : Int))))) := hid (set_below HBe.out (HX.out g 0 rfl).1 HBe.out.size)
          clear HRL hy HL HO HA HBe hx64
          go_upto_region 12 with fail
          go_wp2
          exact ⟨⟨j + 1, L.set I (100 + (j : Int)), by omega, by omega, by push_cast; rfl, HL', HO', HA', HB'⟩, by simp [intOf]; omega⟩
        · obtain ⟨hLl, hLd, hLi⟩ := HL.out
          have HRA : Hid (RdI wr (.slice aa k ca) A) := hid (by show RdX _ _ _ _; rw [hsl]; exact own_rd HA.out)
          have HRL : Hid (RdI wr (.slice ab k cb) L) := hid (by show RdX _ _ _ _; rw [hLl, hsl]; exact own_rd HO.out)
          have HWA : Hid (∀ x ∈ A, I64 x) := hid (fun x hx => by have := HAI.out x hx; unfold I64; omega)
          have HWL : Hid (∀ x ∈ L, I64 x) := hid (fun x hx => by have := hLi x hx; unfold I64; omega)
          have HD0 := hid (diff_any HRA.out HRL.out (by omega) (by omega) HWA.out HWL.out)
          have HDI := hid (fun w1 (hb : Below wr.heap.size wr w1) => distance_any (HRA.out.below hb) (HRL.out.below hb) (by omega) (by omega) HWA.out HWL.out)
          obtain ⟨hV, hP⟩ := My.myD_val (a := A) (b := L) (by omega) (by omega)
          have hsS := Val_len hV
          have HWF : Hid (∀ c ∈ My.myD A L, WfC c) := hid (My.myD_wf (by omega) (by omega))
          have HVAL := hid hV
          have HFIT : Hid (fitN (My.myD A L) A L = 0) := hid (by
            unfold fitN
            rw [if_pos (Ed.validN_zero.2 hV), My.myD_fits (by omega) (by omega)]
            rfl)
          have HAP := hid (My.myD_apart A L)
          have hco := My.myD_cost (a := A) (b := L) (by omega) (by omega)
          have hle := My.lcs_le A L
          have hde := My.dst_eq A L
          generalize My.myD A L = S at HD0 hsS HWF HVAL HFIT HAP hco hV hP
          obtain ⟨X, hX⟩ : ∃ X, X = (Ed.costP S).1 := ⟨_, rfl⟩
          obtain ⟨Y, hY⟩ : ∃ Y, Y = (Ed.costP S).2 := ⟨_, rfl⟩
          have e1 : X = (A.length : Int) - My.lcs A L := by rw [hX, hco]
          have e2 : Y = (L.length : Int) - My.lcs A L := by rw [hY, hco]
          generalize My.dst A L = D at hde HDI hLd
          have i1 : IntKind.i64.wrap (X + Y) = (D : Int) := (wrapOk (by omega) (by omega)).trans (by omega)
          have i2 : (D : Int) ≤ 40 := by omega
          have HX1 := hid hX
          have HY1 := hid hY
          have z1 : ((D : Int) == (D : Int)) = true := zeq rfl
          clear hX hY e1 e2 hco hde hle hV hP hLl hLi HL HO HA
          have hcase : ¬ (j : Int) < (P.length : Int) ∨ ((j : Int) < (P.length : Int) ∧ ¬ (j : Int) < 20) ∨ ((j : Int) < (P.length : Int) ∧ (j : Int) < 20 ∧ ¬ (0 : Int) < (k : Int)) := by omega
          clear hgo
          rcases hcase with c1 | ⟨c1, c2⟩ | ⟨c1, c2, c3⟩
          all_goals
            go_wp2_with fail
            refine HD0.out.mono ?_
            rintro e w1 ⟨v1, rfl, hO1, hb1⟩
            obtain ⟨a1, cc1, rfl⟩ := own_shape hO1
            have HC1 := hid (own_rd hO1)
            have HB1 := hid hb1
            clear hO1 hb1
            go_wp2_with fail
            refine (refCost_any HC1.out HWF.out (by omega)).mono ?_
            rintro e w2 ⟨rfl, hb2⟩
            rw [← HX1.out, ← HY1.out]
            have HC2 := hid (HC1.out.below hb2)
            have HB2 := hid (HB1.out.trans (hb2.mono HB1.out.size))
            clear hb2 HC1
            go_wp2_with fail
            refine (refFits_all HC2.out HWF.out (by omega) (HRA.out.below HB2.out) (HRL.out.below HB2.out)).mono ?_
            rintro e w3' ⟨rfl, hb3⟩
            rw [HFIT.out]
            have HC3 := hid (HC2.out.below hb3)
            have HB3 := hid (HB2.out.trans (hb3.mono HB2.out.size))
            clear hb3 HC2
            go_wp2_with fail
            refine (refNormal_any HC3.out HVAL.out HAP.out).mono ?_
            rintro e w4 ⟨rfl, hb4⟩
            have HB4 := hid (HB3.out.trans (hb4.mono HB3.out.size))
            clear hb4 HC3
            go_wp2_with fail
            refine (HDI.out _ HB4.out).mono ?_
            rintro e w5 ⟨rfl, hb5⟩
            have HB5 := hid (HB4.out.trans (hb5.mono HB4.out.size))
            clear hb5
            go_wp2_with fail
            refine (sure_any _).mono ?_
            rintro e w6 ⟨rfl, hb6⟩
            have HB6 := hid (HB5.out.trans (hb6.mono HB5.out.size))
            clear hb6
            go_wp2
            go_ret
            exact ⟨rfl, HBe.out.trans (HB6.out.mono HBe.out.size)⟩

theorem own : ownKnob Try.prog.godebug = none := by kernel_rfl

set_option maxRecDepth 100000 in
theorem contract (H : Type) (enc : TypeId × Value → H) (W : World) (base : Nat) (args : Array Value) (ds gs : List (DataW H)) (before : List MemPlace)
    (hval : ∀ (j : Nat) t v, Try.f8.params[j]? = some t → args[j]? = some v → Value.okWide Try.prog W .any base t v)
    (hW : DataW.Whole enc Try.prog Try.f8.params.toList Rows.myersLongSpec.vars false W args.toList ds gs before)
    (hsz : (DataW.weightsEach Try.prog (Try.f8.params.toList ++ Rows.myersLongSpec.plain.varTypes Try.prog) (ds ++ gs)).all (· ≤ reachBytes) = true)
    : Calls Try.prog 8 args W fun e W' => ∃ v, e = .returned v ∧ Rows.myersLongSpec.post enc Try.prog Try.f8 false true false false W args v W' := by
  have hW' := hW
  obtain ⟨p, q, hA0, hV, rfl, hfz, hnd⟩ := hW
  have hA : DataW.TrodAll enc Try.prog W 0 (fun _ => true) true Try.f8.params.toList args.toList ds p := hA0
  rw [Try.params8] at hA hval hsz
  obtain ⟨v0, vs0, d0, ds0, p0, q0, hargs0, rfl, rfl, h0, r0⟩ := trodAll_cons hA
  obtain ⟨v1, vs1, d1, ds1, p1, q1, hargs1, rfl, rfl, h1, r1⟩ := trodAll_cons r0
  obtain ⟨rfl, rfl, rfl⟩ := trodAll_nil r1
  obtain rfl : args = #[v0, v1] := by cases args; simp_all
  obtain ⟨rfl, rfl⟩ := trodVars_none hV
  obtain ⟨x0, rfl, rfl, rfl, hmax0⟩ := open_int Try.underlying3 (hval 0 3 v0 rfl rfl) h0
  obtain ⟨x1, hr1, hw1, hd1, hsh1⟩ := open_ints (okWide_slice Try.underlying22 (hval 1 22 v1 rfl rfl)) h1
  have hlen1 := ints_sized hsz (j := 1) rfl rfl hd1
  clear hA0 hsz
  simp only [List.append_nil] at hW'
  have hlt1 : ∀ x ∈ p1, x.block < W.heap.size := fun x hx => by simpa using hW'.lt x (by simp [hx])
  refine (walk x0 v1 x1 W hr1 hw1 (by omega) hsh1).mono fun e W' ⟨he, hb⟩ => ?_
  subst he
  exact ⟨_, rfl, _, _, _, [], ([] ++ (p1 ++ [])), [], hW', trodAll_cons_mk (shut_bool Try.underlying4 _) trodAll_mk0, trodAll_cons_mk (shut_int Try.underlying3 hmax0) (trodAll_cons_mk (Below.trod laidOut (by kernel_rfl) (of_decide_eq_true (by kernel_rfl)) h1 hb hlt1) trodAll_mk0), rfl, hb.frame _, fun h => by cases h⟩

set_option maxRecDepth 100000 in
theorem lifted (os : Os) (started : os.Started) (H : Type) (enc : TypeId × Value → H) (F : Stop.Interp) :
    ReturnsInHanded {} Try.checked os 8 .any ((OpenSpec.ofChange Rows.myersLongSpec).preRow enc Try.prog Try.f8 Rows.myersLongRow.domain false Rows.myersLongRow.laid) (((OpenSpec.ofChange Rows.myersLongSpec).at F).post enc Try.prog Try.f8 false true false false) := by
  refine returnsInHanded_of_row (C := Try.checked) (s := OpenSpec.ofChange Rows.myersLongSpec) own started (by kernel_rfl) Try.func8
    (witness_row_at (enc := enc) (C := Try.checked) false
      (World.holding Try.prog os ⟨#[], #[], []⟩)
      #[.int .i64 0, .slice none 0 0] rfl (by kernel_rfl) (by kernel_rfl) (by kernel_rfl)
      (OpenSpec.preRow_of_cond 8 (x := ([.lit (.int .i64 0), .nil], [], [])) (by kernel_rfl) (by kernel_rfl) (fun k hk => by cases hk) (by kernel_rfl) (laidMetH_of_parts (laidMet_nil _ _) (by kernel_rfl)))) ?_
  intro W base args ds gs before hval hW _ hcond hsz hL _ _
  exact contract H enc W base args ds gs before hval hW hsz

theorem proved : Rows.MyersLongSaid :=
  OpenClaim.holds_of_cond 8 Try.f8 rfl rfl rfl rfl rfl rfl rfl ⟨rfl, rfl, rfl, rfl, rfl⟩ rfl rfl rfl rfl rfl (by kernel_rfl) Try.func8 (by kernel_rfl)
    (of_decide_eq_true (by kernel_rfl)) (by unfold Func.isWrapper; first | (rw [if_pos (by decide +kernel)]; kernel_rfl) | (rw [if_neg (by decide +kernel)]; exact ⟨rfl, rfl⟩))
    (fun os started H enc _ F => by rw [OpenClaim.pre_eq_preRow]; exact lifted os started H enc F)

end Go.Proofs.Ytpedbnghhmnjjaa.myersLong
