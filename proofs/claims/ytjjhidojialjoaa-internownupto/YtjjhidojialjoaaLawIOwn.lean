/-
  PROVED: for every two lists of strings and every integer InternOwn returns true, and all read afterwards as they read before; the condition: what the lists hold is at most 1048576 in bulk.
-/
import Derived.Test.YtjjhidojialjoaaNc
import Derived.ProofKit
import Derived.OpenShut
import Derived.LaidLaws
import Derived.LaidHandle
import Derived.SizedLaws
import Derived.Deep.DeepHandedRow
namespace Go.Proofs.Ytjjhidojialjoaa.internOwn
open Go.ChangeShapes Go.WideShapes Go.ChangeAt Go.RowKit
open Go.ChangeMaps (open_string shut_string)

theorem spoilt {w : World} {B n c : Nat} {a : Option Addr} (h : ∃ vs, w.ownsRow B 3 1 (.slice a n c) n vs) (j : Nat) (hj : j < n) :
    ∃ b, a = some ⟨b, 0, none⟩ ∧ B ≤ b ∧ (∃ u, w.cell? ⟨b, j, none⟩ = some u) ∧ w.frozen? ⟨b, j, none⟩ = false ∧ ∀ u : Value, ∃ vs, (w.setCell ⟨b, j, none⟩ u).ownsRow B 3 1 (.slice a n c) n vs := by
  obtain ⟨vs, h⟩ := h
  have hl := h.1
  rcases h.2 with ⟨_, h0⟩ | ⟨b, cap, cur, hv, hb, _⟩
  · omega
  · cases hv
    refine ⟨b, rfl, hb, ⟨vs[j]'(by omega), ?_⟩, h.frozenAt j, fun u => ⟨_, (h.stored j u).1⟩⟩
    rw [h.cellAt j (by omega), List.getElem?_eq_getElem (by omega)]
theorem own_far {w : World} {base n b k : Nat} {e : TypeId} {size : Nat} {v u : Value} {xs : List Value} (h : w.ownsRow base e size v n xs) (hb : ∀ j, v.ownBlock = some j → j ≠ b) : (w.setCell ⟨b, k, none⟩ u).ownsRow base e size v n xs := by
  refine ⟨h.1, ?_⟩
  rcases h.2 with h | ⟨b', cap, cur, hv, hb', hh, r⟩
  · exact .inl h
  · subst hv
    exact .inr ⟨b', cap, cur, rfl, hb', (Below.heap_setCell _ _ _ _ (hb b' rfl)).trans hh, r⟩

set_option maxHeartbeats 4000000 in
set_option maxRecDepth 100000 in
theorem walk (v : Value) (xs : List ByteArray) (u : Value) (ys : List ByteArray) (e : Int) (w : World) (hr : Rd w v xs) (hn1 : (DL xs).flatten.length + xs.length ≤ 1048576) (hsh : v = .slice none 0 0 ∨ ∃ ad n c, v = .slice (some ad) n c)
    (hq : Rd w u ys) (hn2 : (DL ys).flatten.length + ys.length ≤ 1048576) (hsh2 : u = .slice none 0 0 ∨ ∃ ad n c, u = .slice (some ad) n c) :
    Calls Try.prog 6 #[v, u, .int .i64 e] w fun r w' => r = .returned (.bool true) ∧ Below w.heap.size w w' := by
  have hsx := small_of hn1
  have hsy := small_of hn2
  have hl1 : xs.length ≤ 1048576 := by omega
  have hl2 : ys.length ≤ 1048576 := by omega
  have HC := hid (fun (w' : World) (hb : Below w.heap.size w w') => ids_all (e := e) (hr.below hb) (hq.below hb) hsx hsy (by omega))
  have HD := hid (fun (w' : World) (hb : Below w.heap.size w w') => refIds_all (e := e) (hr.below hb) (hq.below hb) hsx hsy (by omega))
  have hA := LA_len e xs
  have hB := LB_len e xs ys
  have hA1 : (LA e xs).length ≤ 1048576 := by omega
  generalize LA e xs = A at HC HD hA hA1
  generalize LB e xs ys = B at HC HD hB
  obtain ⟨a, c, rfl⟩ := hr.shape
  obtain ⟨a', c', rfl⟩ := hq.shape
  clear hn1 hn2 hsx hsy hr hq hsh hsh2
  go_enter Try.func6, Try.ntmps6
  go_wp2_with fail
  refine (HC.out w (Below.refl _ _)).mono ?_
  rintro r w1 ⟨v1, v2, rfl, hO1, hO2, hap, hb1⟩
  obtain ⟨a1, c1, rfl⟩ := hO1.rd.shape
  have HAP := hid hap
  have hO1' : ∃ vs, w1.ownsRow w.heap.size 3 1 (.slice a1 A.length c1) A.length vs := ⟨_, hO1⟩
  have HO1 := hid hO1'
  have HO2 := hid hO2
  clear hO1 hO1' hO2 hap
  obtain ⟨N, hN⟩ : ∃ N, N = A.length := ⟨_, rfl⟩
  rw [← hN] at hA HO1 HAP ⊢
  clear hN
  go_wp2
  go_loopw [10] (fun t10 wr => ∃ k : Nat, k ≤ N ∧ t10 = .int .i64 k ∧ (∃ vs, wr.ownsRow w.heap.size 3 1 (.slice a1 N c1) N vs) ∧ OwnI wr w.heap.size v2 B ∧ Below w.heap.size w wr) (fun t10 _ => N - (intOf t10).toNat)
  case atStart => exact ⟨0, Nat.zero_le _, rfl, HO1.out, HO2.out, hb1⟩
  case round =>
    obtain ⟨k, hk, rfl, hown, hO2, hb⟩ := hrel
    have HR := hid hown
    have HR2 := hid hO2
    clear hown hO2 HO1 HO2 hb1
    by_cases hlt : k < N
    · obtain ⟨b, rfl, hbb, ⟨u0, hc⟩, hf, hst⟩ := spoilt HR.out k hlt
      have HS := hid hst
      have HS2 : Hid (∀ u : Value, OwnI (wr.setCell ⟨b, k, none⟩ u) w.heap.size v2 B) := hid (fun u => own_far HR2.out (fun j hj e => HAP.out b rfl (by rw [hj, e])))
      clear hst
      go_wp2
      go_roundw
      case rel => exact ⟨k + 1, by omega, by go_num, HS.out _, HS2.out _, hb.setCell hbb _⟩
      case measure => simp [intOf]; omega
    · obtain ⟨vs, hown⟩ := HR.out
      have hvl : vs.length = N := by have := hown.1; omega
      go_wp2_with (at_builtin; refine wpList_append_all rfl _ _ 27 3 rfl Try.underlying27 Try.infoInt rfl (by omega) w.heap.size _ N vs rfl (World.ownsRow.alloc hown _) _ [.int .i64 (-8), .int .i64 (-8), .int .i64 (-8)] rfl ?s1 ?s2 ?s3 ?s4 ?_)
      (case s1 =>
        refine .inr ⟨⟨wr.heap.size, 0, none⟩, 3, rfl, fun j x hj => ?_⟩
        match j, hj with
        | 0, hj => simp at hj; subst hj; simp [Addr.add]
        | 1, hj => simp at hj; subst hj; simp [Addr.add]
        | 2, hj => simp at hj; subst hj; simp [Addr.add])
      (case s2 => intro x hx; simp at hx; subst hx; rfl)
      (case s3 => simp; omega)
      (case s4 => have := hb.size; simp; omega)
      intro v3 w3 hO3 hg3
      have hz := hb.size
      have hb3 : Below w.heap.size w w3 := (hb.alloc hz _).grown hg3 (by simp; omega) (own_ge hown)
      have HY3 : Hid (OwnI w3 w.heap.size v2 B) := hid (kept_row (World.ownsRow.alloc HR2.out _) hg3 HAP.out)
      obtain ⟨g, cap, rfl, hgl, hcl⟩ : ∃ g cap, v3 = .slice (some ⟨g, 0, none⟩) (N + 3) cap ∧ g < w3.heap.size ∧ w3.cell? ⟨g, N + 2, none⟩ = some (.int .i64 (-8)) := by
        have h3 : w3.ownsRow w.heap.size 3 1 v3 (N + 3) (vs ++ [.int .i64 (-8), .int .i64 (-8), .int .i64 (-8)]) := by simpa using hO3
        rcases h3.2 with ⟨_, h0⟩ | ⟨g, cap, cur, hv, _, hh, _⟩
        · omega
        · subst hv
          refine ⟨g, cap, rfl, lt_of_heap hh, ?_⟩
          rw [h3.cellAt (N + 2) (by omega), List.getElem?_append_right (by omega), hvl, show N + 2 - N = 2 by omega]
          rfl
      have HCL := hid hcl
      clear hO3 hg3 hown HR HR2 hcl
      go_wp2_with fail
      refine (HD.out w3 hb3).mono ?_
      rintro r w4 ⟨n1, n2, rfl, hN1, hN2, hb4⟩
      have hb4' := hb3.trans (hb4.mono hb3.size)
      have HN1 := hid hN1
      have HN2 := hid hN2
      have HY4 := hid (HY3.out.stays hb4)
      have hc4 := (hb4.cell (p := ⟨g, N + 2, none⟩) hgl).trans HCL.out
      have hz4 := hb4.size
      clear hN1 hN2 HY3 HCL
      have HC4 := hid hc4
      clear hc4
      go_wp2_with fail
      refine (HC.out w4 hb4').mono ?_
      rintro r w5 ⟨z1, z2, rfl, hZ1, hZ2, _, hb5⟩
      have hb5' := hb4'.trans (hb5.mono hb4'.size)
      have HZ1 := hid hZ1
      have HZ2 := hid hZ2
      have HN1' := hid (HN1.out.stays hb5)
      have HN2' := hid (HN2.out.stays hb5)
      have HY5 := hid (HY4.out.stays hb5)
      have hc5 := (hb5.cell (p := ⟨g, N + 2, none⟩) (by show g < _; omega)).trans HC4.out
      have hz5 := hb5.size
      have HC5 := hid hc5
      clear hZ1 hZ2 HN1 HN2 HY4 HC4 hc5
      go_wp2_with fail
      refine (same_any HY5.out.rd HN2'.out.rd (by omega) (by omega)).mono ?_
      rintro r w6 ⟨rfl, hb6⟩
      rw [decide_eq_true rfl]
      have HZ1' := hid (HZ1.out.stays hb6)
      have HZ2' := hid (HZ2.out.stays hb6)
      have HN3 := hid (HN1'.out.stays hb6)
      have HN4 := hid (HN2'.out.stays hb6)
      have hA2 : A.length ≤ 100000000000 := by omega
      go_wp2_with fail
      refine (same_any HZ1'.out.rd HN3.out.rd hA2 hA2).mono ?_
      rintro r w7 ⟨rfl, hb7⟩
      rw [decide_eq_true rfl]
      have HZ3 := hid (HZ2'.out.stays hb7)
      have HN5 := hid (HN4.out.stays hb7)
      go_wp2_with fail
      refine (same_any HZ3.out.rd HN5.out.rd (by omega) (by omega)).mono ?_
      rintro r w8 ⟨rfl, hb8⟩
      rw [decide_eq_true rfl]
      have hb8' : Below w5.heap.size w5 w8 := hb6.trans ((hb7.mono hb6.size).trans (hb8.mono (Nat.le_trans hb6.size hb7.size)))
      have hc8 := (hb8'.cell (p := ⟨g, N + 2, none⟩) (by show g < _; omega)).trans HC5.out
      clear HZ1 HZ2 HN1' HN2' HY5 HZ1' HZ2' HN3 HN4 HZ3 HN5 HC5 hb6 hb7 hb8
      go_wp2_with (go_at_call 11; refine (sure_any _).mono ?_; rintro r w9 ⟨rfl, hb9⟩)
      go_ret
      have hB8 := hb5'.trans (hb8'.mono hb5'.size)
      exact ⟨rfl, hB8.trans (hb9.mono hB8.size)⟩

theorem own : ownKnob Try.prog.godebug = none := by kernel_rfl

set_option maxRecDepth 100000 in
theorem contract (H : Type) (enc : TypeId × Value → H) (W : World) (base : Nat) (args : Array Value) (ds gs : List (DataW H)) (before : List MemPlace)
    (hval : ∀ (j : Nat) t v, Try.f6.params[j]? = some t → args[j]? = some v → Value.okWide Try.prog W .any base t v)
    (hW : DataW.Whole enc Try.prog Try.f6.params.toList Rows.internOwnSpec.vars false W args.toList ds gs before)
    (hk : Rows.uptoSmall H (ds ++ gs) = true)
    : Calls Try.prog 6 args W fun e W' => ∃ v, e = .returned v ∧ Rows.internOwnSpec.post enc Try.prog Try.f6 false true false false W args v W' := by
  have hW' := hW
  obtain ⟨p, q, hA0, hV, rfl, hfz, hnd⟩ := hW
  have hA : DataW.TrodAll enc Try.prog W 0 (fun _ => true) true Try.f6.params.toList args.toList ds p := hA0
  rw [Try.params6] at hA hval
  obtain ⟨v0, vs0, d0, ds0, p0, q0, hargs0, rfl, rfl, h0, r0⟩ := trodAll_cons hA
  obtain ⟨v1, vs1, d1, ds1, p1, q1, hargs1, rfl, rfl, h1, r1⟩ := trodAll_cons r0
  obtain ⟨v2, vs2, d2, ds2, p2, q2, hargs2, rfl, rfl, h2, r2⟩ := trodAll_cons r1
  obtain ⟨rfl, rfl, rfl⟩ := trodAll_nil r2
  obtain rfl : args = #[v0, v1, v2] := by cases args; simp_all
  obtain ⟨rfl, rfl⟩ := trodVars_none hV
  obtain ⟨x0, hr0, hsz0, hd0, hsh0⟩ := open_rd (okWide_slice Try.underlying26 (hval 0 26 v0 rfl rfl)) h0
  obtain ⟨x1, hr1, hsz1, hd1, hsh1⟩ := open_rd (okWide_slice Try.underlying26 (hval 1 26 v1 rfl rfl)) h1
  obtain ⟨x2, rfl, rfl, rfl, hmax2⟩ := open_int Try.underlying3 (hval 2 3 v2 rfl rfl) h2
  clear hA0
  simp only [List.append_nil] at hW' hk
  have hk' : Rows.uptoBulkAll (H := H) [d0, d1, DataW.lit (.int .i64 x2)] ≤ 1048576 := of_decide_eq_true hk
  simp only [Rows.uptoBulkAll, Rows.uptoBulk] at hk'
  have hbk0 := rd_bulk hd0
  have hbk1 := rd_bulk hd1
  have hlt0 : ∀ x ∈ p0, x.block < W.heap.size := fun x hx => by simpa using hW'.lt x (by simp [hx])
  have hlt1 : ∀ x ∈ p1, x.block < W.heap.size := fun x hx => by simpa using hW'.lt x (by simp [hx])
  refine (walk v0 x0 v1 x1 x2 W hr0 (by omega) hsh0 hr1 (by omega) hsh1).mono fun e W' ⟨he, hb⟩ => ?_
  subst he
  exact ⟨_, rfl, _, _, _, [], (p0 ++ (p1 ++ ([] ++ []))), [], hW', trodAll_cons_mk (shut_bool Try.underlying4 _) trodAll_mk0, trodAll_cons_mk (Below.trod laidOut (by kernel_rfl) (of_decide_eq_true (by kernel_rfl)) h0 hb hlt0) (trodAll_cons_mk (Below.trod laidOut (by kernel_rfl) (of_decide_eq_true (by kernel_rfl)) h1 hb hlt1) (trodAll_cons_mk (shut_int Try.underlying3 hmax2) trodAll_mk0)), rfl, hb.frame _, fun h => by cases h⟩

set_option maxRecDepth 100000 in
theorem lifted (os : Os) (started : os.Started) (H : Type) (enc : TypeId × Value → H) (F : Stop.Interp) :
    ReturnsInHanded {} Try.checked os 6 .any ((Rows.OpenSpec.upto Rows.internOwnSpec).preRow enc Try.prog Try.f6 Rows.internOwnUptoRow.domain false Rows.internOwnUptoRow.laid) (((Rows.OpenSpec.upto Rows.internOwnSpec).at F).post enc Try.prog Try.f6 false true false false) := by
  refine returnsInHanded_of_row (C := Try.checked) (s := Rows.OpenSpec.upto Rows.internOwnSpec) own started (by kernel_rfl) Try.func6
    (witness_row_at (enc := enc) (C := Try.checked) false
      (World.holding Try.prog os ⟨#[], #[], []⟩)
      #[.slice none 0 0, .slice none 0 0, .int .i64 0] rfl (by kernel_rfl) (by kernel_rfl) (by kernel_rfl)
      (OpenSpec.preRow_of_cond 8 (x := ([.nil, .nil, .lit (.int .i64 0)], [], [])) (by kernel_rfl) (by kernel_rfl) (fun k hk => by cases hk; kernel_rfl) (by kernel_rfl) (laidMetH_of_parts (laidMet_nil _ _) (by kernel_rfl)))) ?_
  intro W base args ds gs before hval hW _ hcond hsz hL _ _
  exact contract H enc W base args ds gs before hval hW (hcond _ rfl)

theorem proved : Rows.InternOwnUptoSaid :=
  OpenClaim.holds_of_cond 6 Try.f6 rfl rfl rfl rfl rfl rfl rfl ⟨rfl, rfl, rfl, rfl, rfl⟩ rfl rfl rfl rfl rfl (by kernel_rfl) Try.func6 (by kernel_rfl)
    (of_decide_eq_true (by kernel_rfl)) (by unfold Func.isWrapper; first | (rw [if_pos (by decide +kernel)]; kernel_rfl) | (rw [if_neg (by decide +kernel)]; exact ⟨rfl, rfl⟩))
    (fun os started H enc _ F => by rw [OpenClaim.pre_eq_preRow]; exact lifted os started H enc F)

end Go.Proofs.Ytjjhidojialjoaa.internOwn
