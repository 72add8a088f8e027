/-
  PROVED: the card of EditsBack: for every list of changes and every two integers EditsBack returns true, and all read afterwards as they read before; the card ties what errors.errorType holds to the program's text (a pruned copy of the project: the packages that this law loads).
-/
import Derived.Test.YtajpjhojfhegoaaDoorC6
import Derived.Test.YtajpjhojfhegoaaDoorC7
import Derived.Test.YtajpjhojfhegoaaDoorC9
import Derived.Test.YtajpjhojfhegoaaDoorD0
import Derived.Test.YtajpjhojfhegoaaDoorD1
import Derived.Test.YtajpjhojfhegoaaDoorD5
import Derived.Test.YtajpjhojfhegoaaDoorD6
import Derived.Test.YtajpjhojfhegoaaDoorHandle
namespace Go.Proofs.YtajpjhojfhegoaaDoor.editsBack
open Go.ChangeShapes Go.WideShapes Go.ChangeAt Go.RowKit
open Go.ChangeMaps (open_string shut_string)
open Ed (Ch Run Pr)

def Bd (c : Ch) : Prop := 0 ≤ c.a ∧ c.a ≤ 4194304 ∧ 0 ≤ c.n ∧ c.n ≤ 4194304 ∧ 0 ≤ c.b ∧ c.b ≤ 4194304 ∧ 0 ≤ c.m ∧ c.m ≤ 4194304
theorem val_bd {s : List Ch} {a b n m : Int} (h : Ed.val s a b n m = true) (ha : 0 ≤ a) (hb : 0 ≤ b) (hn : n ≤ 4194304) (hm : m ≤ 4194304) : ∀ c ∈ s, Bd c := by
  induction s generalizing a b with
  | nil => intro c hc; cases hc
  | cons x r ih =>
    obtain ⟨⟨h1, h2, h3, h4⟩, hr⟩ := Ed.val_cons.1 h
    intro c hc
    rcases List.mem_cons.1 hc with e | hc
    · subst e; unfold Bd; omega
    · exact ih hr (by omega) (by omega) c hc
theorem Val_bd {s : List Ch} {n m : Int} (h : Ed.Val s n m) : ∀ c ∈ s, Bd c := by
  have hn := Ed.cnt_iff.1 h.1
  have hm := Ed.cnt_iff.1 h.2.1
  exact val_bd h.2.2 (Int.le_refl _) (Int.le_refl _) hn.2 hm.2
theorem Bd.wf {c : Ch} (h : Bd c) : WfC c := by
  unfold Bd at h
  unfold WfC I64
  omega
theorem rise_wf {P : List Pr} {n m : Int} (h : Ed.rise P 0 0 n m = true) (hn : n ≤ 4194304) (hm : m ≤ 4194304) : ∀ p ∈ P, WfP p := by
  intro p hp
  have := (Ed.rise_iff.1 h).2 p hp
  unfold Ed.inB at this
  unfold WfP I64
  omega

set_option maxHeartbeats 8000000 in
set_option maxRecDepth 100000 in
theorem walk (v : Value) (s : List Ch) (n m : Int) (w : World) (hr : RdC w v s) (hwf : ∀ c ∈ s, WfC c) (hl : s.length ≤ 10000000000000) (_hsh : v = .slice none 0 0 ∨ ∃ ad n c, v = .slice (some ad) n c) (hg : ErrVar w) :
    Calls Tryd.prog 8 #[v, .int .i64 n, .int .i64 m] w fun e w' => e = .returned (.bool true) ∧ Below w.heap.size w w' := by
  have HR := hid hr
  have HG := hid hg
  have HWF := hid hwf
  obtain ⟨a, c, rfl⟩ := hr.shape
  clear hr hwf hg
  by_cases hk : Ed.validN s n m = 0
  case neg =>
    have HVa := hid (valid_any (n := n) (m := m) HR.out HWF.out hl)
    generalize Ed.validN s n m = k at HVa hk
    have he : errV k = .iface 63 (.int .i64 k) := by unfold errV; rw [if_neg hk]
    rw [he] at HVa
    go_enter Tryd.func8, Tryd.ntmps8
    go_wp2_with fail
    refine HVa.out.mono ?_
    rintro e w1 ⟨rfl, hb1⟩
    have HB1 := hid hb1
    clear hb1
    go_wp2_with fail
    refine (works_any w1 (HG.out.below HB1.out)).mono ?_
    rintro e w2 ⟨rfl, hb2⟩
    have HB2 := hid (HB1.out.trans (hb2.mono HB1.out.size))
    clear hb2
    go_wp2
    go_ret
    exact ⟨rfl, HB2.out⟩
  have HV := hid (Ed.validN_zero.1 hk)
  have HZ := hid hk
  clear hk
  have hlen := Val_len HV.out
  obtain ⟨hn0, hn1⟩ := Ed.cnt_iff.1 HV.out.1
  obtain ⟨hm0, hm1⟩ := Ed.cnt_iff.1 HV.out.2.1
  have HT := hid (Ed.normal_Val HV.out)
  have HTW : Hid (Ed.normal (Ed.normal s n m) n m = Ed.normal s n m) := hid (Ed.normal_twice HV.out)
  have HAP : Hid (Ed.apart (Ed.normal s n m)) := hid (by rw [Ed.normal_eq]; exact Ed.ofL_apart HV.out.rise)
  have HOF : Hid (Ed.ofL (Ed.prs s n 0 0) 0 0 n m = Ed.normal s n m) := hid (Ed.normal_eq s n m).symm
  have HBT := hid (Val_bd HT.out.1)
  have hlT := Val_len HT.out.1
  have hL := HV.out.len
  have HWI : Hid (∀ c ∈ s.map Ed.inv, WfC c) := hid (fun c hc => (Val_bd HV.out.inv c hc).wf)
  have HVI := hid HV.out.inv
  have HZI := hid (Ed.validN_zero.2 HV.out.inv)
  have hlI : (s.map Ed.inv).length = s.length := List.length_map _
  have HII := hid (Ed.map_inv_inv s)
  have hpl := rise_len HV.out.rise hn0
  have HRP := hid HV.out.rise
  have HWP := hid (rise_wf HV.out.rise hn1 hm1)
  have HCO : Hid (∀ w1, RdC w1 (.slice a s.length c) s → Calls Tryd.prog 9 #[.slice a s.length c] w1 fun e w' => e = .returned (.tuple #[.int .i64 (Ed.goneS s), .int .i64 (Ed.comeS s)]) ∧ Below w1.heap.size w1 w') := hid (fun w1 h => by
    have := cost_any h HWF.out hl
    rw [HV.out.cost] at this
    exact this)
  obtain ⟨T, hT⟩ : ∃ T, T = Ed.normal s n m := ⟨_, rfl⟩
  obtain ⟨P, hP⟩ : ∃ P, P = Ed.prs s n 0 0 := ⟨_, rfl⟩
  obtain ⟨I, hI⟩ : ∃ I, I = s.map Ed.inv := ⟨_, rfl⟩
  have HNs := hid (fun w1 (h : RdC w1 (.slice a s.length c) s) => normal_any h HWF.out HV.out)
  have HPs := hid (fun w1 (h : RdC w1 (.slice a s.length c) s) => pairs_any h HWF.out HV.out)
  have HIs := hid (fun w1 (h : RdC w1 (.slice a s.length c) s) => invert_any h (by omega))
  rw [← hT] at HT HTW HAP HOF HBT hlT HNs
  rw [← hP] at HOF hL hpl HRP HWP HPs
  rw [← hI] at HWI HVI HZI hlI HII HIs
  clear hT hP hI
  generalize Ed.goneS s = G at HCO hL
  generalize Ed.comeS s = G2 at HCO hL
  have HLL := hid hL
  have HLI := hid hlI
  clear hL hlI
  go_enter Tryd.func8, Tryd.ntmps8
  go_wp2_with fail
  refine (valid_any HR.out HWF.out hl).mono ?_
  rintro e w1 ⟨rfl, hb1⟩
  rw [HZ.out, errV_zero]
  have HB1 := hid hb1
  clear hb1
  go_wp2_with fail
  refine (HIs.out w1 (HR.out.below HB1.out)).mono ?_
  rintro e w2 ⟨vi, rfl, hO2, hb2⟩
  obtain ⟨ai, ci, e2⟩ := own_shape hO2
  subst e2
  have HI2 := hid (own_rd hO2)
  have HB2 := hid (HB1.out.trans (hb2.mono HB1.out.size))
  clear hO2 hb2
  go_wp2_with fail
  refine (HNs.out w2 (HR.out.below HB2.out)).mono ?_
  rintro e w3 ⟨vt, rfl, hO3, hb3⟩
  obtain ⟨at3, ct3, e3⟩ := own_shape hO3
  subst e3
  have HT3 := hid (own_rd hO3)
  have HI3 := hid (HI2.out.below hb3)
  have HB3 := hid (HB2.out.trans (hb3.mono HB2.out.size))
  clear hO3 hb3 HI2
  go_wp2_with fail
  refine (normal_any HT3.out (fun c hc => (HBT.out c hc).wf) HT.out.1).mono ?_
  rintro e w4 ⟨vu, rfl, hO4, hb4⟩
  rw [HTW.out] at hO4
  obtain ⟨au, cu, e4⟩ := own_shape hO4
  subst e4
  have HU4 := hid (own_rd hO4)
  have HT4 := hid (HT3.out.below hb4)
  have HI4 := hid (HI3.out.below hb4)
  have HB4 := hid (HB3.out.trans (hb4.mono HB3.out.size))
  clear hO4 hb4 HT3 HI3
  go_wp2_with fail
  refine (HPs.out w4 (HR.out.below HB4.out)).mono ?_
  rintro e w5 ⟨vp, rfl, hO5, hb5⟩
  obtain ⟨ap, cp, e5⟩ := own_shape hO5
  subst e5
  have HP5 := hid (own_rd hO5)
  have HU5 := hid (HU4.out.below hb5)
  have HT5 := hid (HT4.out.below hb5)
  have HI5 := hid (HI4.out.below hb5)
  have HB5 := hid (HB4.out.trans (hb5.mono HB4.out.size))
  clear hO5 hb5 HU4 HT4 HI4
  go_wp2_with fail
  refine (of_any (n := n) (m := m) HP5.out HWP.out (by omega) HV.out.1 HV.out.2.1).mono ?_
  rintro e w6 ⟨⟨h0, _⟩ | ⟨_, vv, rfl, hO6⟩, hb6⟩
  · rw [HRP.out] at h0; cases h0
  rw [HOF.out] at hO6
  obtain ⟨av, cv, e6⟩ := own_shape hO6
  subst e6
  have HV6 := hid (own_rd hO6)
  have HU6 := hid (HU5.out.below hb6)
  have HT6 := hid (HT5.out.below hb6)
  have HI6 := hid (HI5.out.below hb6)
  have HB6 := hid (HB5.out.trans (hb6.mono HB5.out.size))
  clear hO6 hb6 HU5 HT5 HI5 HP5
  go_wp2_with fail
  refine (HCO.out w6 (HR.out.below HB6.out)).mono ?_
  rintro e w7 ⟨rfl, hb7⟩
  have HV7 := hid (HV6.out.below hb7)
  have HU7 := hid (HU6.out.below hb7)
  have HT7 := hid (HT6.out.below hb7)
  have HI7 := hid (HI6.out.below hb7)
  have HB7 := hid (HB6.out.trans (hb7.mono HB6.out.size))
  clear hb7 HV6 HU6 HT6 HI6
  go_wp2_with fail
  refine (valid_any (n := m) (m := n) HI7.out HWI.out (by have := HLI.out; omega)).mono ?_
  rintro e w8 ⟨rfl, hb8⟩
  rw [HZI.out, errV_zero]
  have HV8 := hid (HV7.out.below hb8)
  have HU8 := hid (HU7.out.below hb8)
  have HT8 := hid (HT7.out.below hb8)
  have HI8 := hid (HI7.out.below hb8)
  have HB8 := hid (HB7.out.trans (hb8.mono HB7.out.size))
  clear hb8 HV7 HU7 HT7 HI7
  go_wp2_with fail
  refine (invert_any HI8.out (by have := HLI.out; omega)).mono ?_
  rintro e w9 ⟨vj, rfl, hO9, hb9⟩
  rw [HII.out] at hO9
  obtain ⟨aj, cj, e9⟩ := own_shape hO9
  subst e9
  have HJ9 := hid (own_rd hO9)
  have HV9 := hid (HV8.out.below hb9)
  have HU9 := hid (HU8.out.below hb9)
  have HT9 := hid (HT8.out.below hb9)
  have HB9 := hid (HB8.out.trans (hb9.mono HB8.out.size))
  clear hO9 hb9 HV8 HU8 HT8 HI8
  go_wp2_with fail
  refine (sameChanges_any HJ9.out (HR.out.below HB9.out) (by omega) (by omega)).mono ?_
  rintro e wa ⟨rfl, hba⟩
  rw [decide_eq_true rfl]
  have HVa := hid (HV9.out.below hba)
  have HUa := hid (HU9.out.below hba)
  have HTa := hid (HT9.out.below hba)
  have HBa := hid (HB9.out.trans (hba.mono HB9.out.size))
  clear hba HV9 HU9 HT9 HJ9
  go_wp2
  go_loopw [18] (fun i wr => ∃ k : Nat, k ≤ T.length ∧ i = .int .i64 k ∧ ∃ q, wr = wa.drewN q) (fun i _ => T.length - (intOf i).toNat)
  case atStart => exact ⟨0, Nat.zero_le _, rfl, 0, rfl⟩
  case round =>
    obtain ⟨k, hk, rfl, q, rfl⟩ := hrel
    by_cases hlt : k + 1 < T.length
    · obtain ⟨x, hx⟩ : ∃ x, T[k]? = some x := ⟨_, List.getElem?_eq_getElem (by omega)⟩
      obtain ⟨y, hy⟩ : ∃ y, T[k + 1]? = some y := ⟨_, List.getElem?_eq_getElem hlt⟩
      obtain ⟨b1, o1, rfl, _, d1, d2, d3, d4⟩ := rdC_at HTa.out hx
      obtain ⟨b2, o2, eb, _, e1, e2, e3, e4⟩ := rdC_at HTa.out hy
      cases eb
      have hne := Ed.apart_get HAP.out k x y hx hy
      have hz : (x.a + x.n == y.a) = false := zne hne
      obtain ⟨p1, p2, p3, p4, _⟩ := HBT.out x (List.mem_of_getElem? hx)
      have i1 : (0 : Int) ≤ (k : Int) := by omega
      have i2 : (k : Int) < (T.length : Int) := by omega
      have i3 : (k : Int) + 1 < (T.length : Int) := by omega
      clear hx hy
      go_wp2
      go_quiet (fail)
      go_wp2
      go_roundw
      case rel => exact ⟨k + 1, by omega, by go_num, _, by first | rfl | exact World.drewN_drewN _ _ _⟩
      case measure => simp [intOf]; omega
    · have HE : Hid (Below wa.heap.size wa (wa.drewN q)) := hid (below_drewN (Below.refl _ _) q)
      have i3 : ¬ (k : Int) + 1 < (T.length : Int) := by omega
      generalize wa.drewN q = wb at HE ⊢
      have HVb := hid (HVa.out.below HE.out)
      have HUb := hid (HUa.out.below HE.out)
      have HTb := hid (HTa.out.below HE.out)
      have HBb := hid (HBa.out.trans (HE.out.mono HBa.out.size))
      have z1 : (n - G == (P.length : Int)) = true := zeq (by have := HLL.out; omega)
      have z2 : (m - G2 == (P.length : Int)) = true := zeq (by have := HLL.out; omega)
      have j1 : -4194304 ≤ n - G ∧ n - G ≤ 4194304 := by have := HLL.out; omega
      have j2 : -4194304 ≤ m - G2 ∧ m - G2 ≤ 4194304 := by have := HLL.out; omega
      clear HE HVa HUa HTa HBa
      go_wp2_with fail
      refine (sameChanges_any HTb.out HUb.out (by omega) (by omega)).mono ?_
      rintro e wc ⟨rfl, hbc⟩
      rw [decide_eq_true rfl]
      have HVc := hid (HVb.out.below hbc)
      have HTc := hid (HTb.out.below hbc)
      have HBc := hid (HBb.out.trans (hbc.mono HBb.out.size))
      clear hbc HVb HTb HUb HBb
      go_wp2_with fail
      refine (sameChanges_any HTc.out HVc.out (by omega) (by omega)).mono ?_
      rintro e wd ⟨rfl, hbd⟩
      rw [decide_eq_true rfl]
      have HBd := hid (HBc.out.trans (hbd.mono HBc.out.size))
      clear hbd HVc HTc HBc
      go_wp2_with fail
      refine (works_any wd (HG.out.below HBd.out)).mono ?_
      rintro e we ⟨rfl, hbe⟩
      have HBe := hid (HBd.out.trans (hbe.mono HBd.out.size))
      clear hbe
      go_wp2
      go_ret
      exact ⟨rfl, HBe.out⟩

theorem own : ownKnob Tryd.prog.godebug = none := by kernel_rfl

set_option maxRecDepth 100000 in
theorem contract (H : Type) (enc : TypeId × Value → H) (W : World) (base : Nat) (args : Array Value) (ds gs : List (DataW H)) (before : List MemPlace)
    (hval : ∀ (j : Nat) t v, Tryd.f8.params[j]? = some t → args[j]? = some v → Value.okWide Tryd.prog W .any base t v)
    (hW : DataW.Whole enc Tryd.prog Tryd.f8.params.toList Rows.editsBackSpec.vars false W args.toList ds gs before)
    (hsz : (DataW.weightsEach Tryd.prog (Tryd.f8.params.toList ++ Rows.editsBackSpec.plain.varTypes Tryd.prog) (ds ++ gs)).all (· ≤ reachBytes) = true)
    (hL : laidMetH Tryd.prog Rows.editsBackRow.laid W)
    : Calls Tryd.prog 8 args W fun e W' => ∃ v, e = .returned v ∧ Rows.editsBackSpec.post enc Tryd.prog Tryd.f8 false true false false W args v W' := by
  have hW' := hW
  obtain ⟨p, q, hA0, hV, rfl, hfz, hnd⟩ := hW
  have hA : DataW.TrodAll enc Tryd.prog W 0 (fun _ => true) true Tryd.f8.params.toList args.toList ds p := hA0
  rw [Tryd.params8] at hA hval hsz
  obtain ⟨v0, vs0, d0, ds0, p0, q0, hargs0, rfl, rfl, h0, r0⟩ := trodAll_cons hA
  obtain ⟨v1, vs1, d1, ds1, p1, q1, hargs1, rfl, rfl, h1, r1⟩ := trodAll_cons r0
  obtain ⟨v2, vs2, d2, ds2, p2, q2, hargs2, rfl, rfl, h2, r2⟩ := trodAll_cons r1
  obtain ⟨rfl, rfl, rfl⟩ := trodAll_nil r2
  obtain rfl : args = #[v0, v1, v2] := by cases args; simp_all
  obtain ⟨rfl, rfl⟩ := trodVars_none hV
  obtain ⟨x0, hr0, hw0, hd0, hsh0⟩ := open_chs (okWide_slice Tryd.underlying22 (hval 0 22 v0 rfl rfl)) h0
  obtain ⟨x1, rfl, rfl, rfl, hmax1⟩ := open_int Tryd.underlying3 (hval 1 3 v1 rfl rfl) h1
  obtain ⟨x2, rfl, rfl, rfl, hmax2⟩ := open_int Tryd.underlying3 (hval 2 3 v2 rfl rfl) h2
  have hlen0 := chs_sized hsz (j := 0) rfl rfl hd0
  clear hA0 hsz
  simp only [List.append_nil] at hW'
  have hlt0 : ∀ x ∈ p0, x.block < W.heap.size := fun x hx => by simpa using hW'.lt x (by simp [hx])
  refine (walk v0 x0 x1 x2 W hr0 hw0 hlen0 hsh0 (handle_of hL)).mono fun e W' ⟨he, hb⟩ => ?_
  subst he
  exact ⟨_, rfl, _, _, _, [], (p0 ++ ([] ++ ([] ++ []))), [], hW', trodAll_cons_mk (shut_bool Tryd.underlying4 _) trodAll_mk0, trodAll_cons_mk (Below.trod laidOut (by kernel_rfl) (of_decide_eq_true (by kernel_rfl)) h0 hb hlt0) (trodAll_cons_mk (shut_int Tryd.underlying3 hmax1) (trodAll_cons_mk (shut_int Tryd.underlying3 hmax2) trodAll_mk0)), rfl, hb.frame _, fun h => by cases h⟩

set_option maxRecDepth 100000 in
theorem lifted (os : Os) (started : os.Started) (H : Type) (enc : TypeId × Value → H) (F : Stop.Interp) :
    ReturnsInHanded {} Tryd.checked os 8 .any ((OpenSpec.ofChange Rows.editsBackSpec).preRow enc Tryd.prog Tryd.f8 Rows.editsBackRow.domain false Rows.editsBackRow.laid) (((OpenSpec.ofChange Rows.editsBackSpec).at F).post enc Tryd.prog Tryd.f8 false true false false) := by
  refine returnsInHanded_of_row (C := Tryd.checked) (s := OpenSpec.ofChange Rows.editsBackSpec) own started (by kernel_rfl) Tryd.func8
    (witness_row_at (enc := enc) (C := Tryd.checked) false
      { World.holding Tryd.prog os ⟨#[], #[], []⟩ with heap := (World.holding Tryd.prog os ⟨#[], #[], []⟩).heap.modify 0 fun
          | .cells _ t frozen => .cells #[.iface 93 (.agg #[.pointer (some ⟨1, 27, none⟩)])] t frozen
          | o => o }
      #[.slice none 0 0, .int .i64 0, .int .i64 0] rfl (by kernel_rfl) (by kernel_rfl) (by kernel_rfl)
      (OpenSpec.preRow_of_cond 8 (x := ([.nil, .lit (.int .i64 0), .lit (.int .i64 0)], [], [])) (by kernel_rfl) (by kernel_rfl) (fun k hk => by cases hk) (by kernel_rfl) (laidMetH_of_parts (laidMet_nil _ _) (by kernel_rfl)))) ?_
  intro W base args ds gs before hval hW _ hcond hsz hL _ _
  exact contract H enc W base args ds gs before hval hW hsz hL

theorem said : Rows.EditsBackSaid :=
  OpenClaim.holds_of_cond 8 Tryd.f8 rfl rfl rfl rfl rfl rfl rfl ⟨rfl, rfl, rfl, rfl, rfl⟩ rfl rfl rfl rfl rfl (by kernel_rfl) Tryd.func8 (by kernel_rfl)
    (of_decide_eq_true (by kernel_rfl)) (by unfold Func.isWrapper; first | (rw [if_pos (by decide +kernel)]; kernel_rfl) | (rw [if_neg (by decide +kernel)]; exact ⟨rfl, rfl⟩))
    (fun os started H enc _ F => by rw [OpenClaim.pre_eq_preRow]; exact lifted os started H enc F)

theorem plain (f : FuncId) (fn : Func) (hf : Tryd.pinned.checked.prog.funcNamed Rows.editsBackRow.func = some f) (hfn : Tryd.pinned.checked.prog.funcs[f]? = some fn) :
    true = Tryd.pinned.checked.prog.looks [] ∧ ∀ (j : Nat) t, fn.params[j]? = some t → Tryd.pinned.checked.prog.wantsStandIn t = false := by
  obtain rfl : f = 8 := Option.some.inj ((show Tryd.prog.funcNamed Rows.editsBackRow.func = some 8 by kernel_rfl).symm.trans hf) |>.symm
  obtain rfl : fn = Tryd.f8 := (Option.some.inj (Tryd.func8.symm.trans hfn)).symm
  refine ⟨by kernel_rfl, fun j t ht => ?_⟩
  rw [Tryd.params8] at ht
  have hm : t = 22 ∨ t = 3 := by simpa using Array.mem_of_getElem? ht
  rcases hm with rfl | rfl
  · exact (show Tryd.prog.wantsStandIn 22 = false by kernel_rfl)
  · exact (show Tryd.prog.wantsStandIn 3 = false by kernel_rfl)

theorem card : Rows.EditsBackCardSaid :=
  Claim7.holds_tied_plain_at .later [] _ _ _ _ said (fun _ h => by cases h) (by kernel_rfl) (fun _ h => by cases h) editsBack_row_tie rfl ⟨rfl, rfl⟩ (by kernel_rfl) rfl plain (by kernel_rfl)
end Go.Proofs.YtajpjhojfhegoaaDoor.editsBack
