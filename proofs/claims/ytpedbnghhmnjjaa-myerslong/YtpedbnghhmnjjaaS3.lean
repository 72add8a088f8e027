/-
  Gathered by wip/genref.py: refApply_all, refFits_all.
-/
import Derived.Test.YtpedbnghhmnjjaaS2
namespace Go.Proofs.Ytpedbnghhmnjjaa
open Go.RowKit
open Ed (Ch Run Pr)

abbrev OwnI (w : World) (B : Nat) (v : Value) (l : List Int) : Prop := w.ownsRow B 3 1 v l.length (isC l)
/-- a part of a row -/
theorem rd_sliced {w : World} {a : Option Addr} {n c : Nat} {l : List Int} (h : RdX w (.slice a n c) n (isC l)) (hA : ArgS (.slice a n c)) (hl : l.length = n) {x y : Nat} (hxy : x ≤ y) (hy : y ≤ n) :
    RdX w (.slice (if c = x then a else a.map (·.add x)) (y - x) (c - x)) (y - x) (isC (Ed.sl l x ((y : Int) - x))) ∧ ArgS (.slice (if c = x then a else a.map (·.add x)) (y - x) (c - x)) := by
  have e : Ed.sl l x ((y : Int) - x) = (l.drop x).take (y - x) := by
    unfold Ed.sl
    rw [show ((x : Int)).toNat = x by omega, show ((y : Int) - x).toNat = y - x by omega]
  rw [e]
  constructor
  · rcases Nat.eq_or_lt_of_le hxy with rfl | hlt
    · rw [Nat.sub_self]
      exact .inl ⟨rfl, _, _, rfl⟩
    · rcases h with ⟨hn, _⟩ | ⟨b, o, c', hv, hc, hb, hX⟩
      · omega
      · cases hv
        rw [if_neg (by omega)]
        refine .inr ⟨b, o + x, c - x, ?_, by omega, hb, fun j u hj => ?_⟩
        · show Value.slice (some ((⟨b, o, none⟩ : Addr).add x)) _ _ = _
          rw [Go.WideShapes.add_plain]
        · have hj' : (isC l)[x + j]? = some u := by
            unfold isC at hj ⊢
            rw [List.getElem?_map] at hj ⊢
            rw [List.getElem?_take] at hj
            split at hj
            · rw [List.getElem?_drop] at hj; exact hj
            · cases hj
          have := hX (x + j) u hj'
          rw [Nat.add_assoc]; exact this
  · rcases hA with hv | ⟨ad, n', c', hv⟩
    · cases hv
      left
      rw [show y = 0 by omega, show x = 0 by omega]
      rfl
    · cases hv
      right
      split
      · exact ⟨_, _, _, rfl⟩
      · exact ⟨_, _, _, rfl⟩
theorem wpList_append_more {w : World} {ops : Array Oper} {rest : List Oper} {o : Oper} {a : Act} {Q : Exit → Act → World → Prop} (hgd : o.guard = none) (s x : Operand) (t e : TypeId)
    (ho : o.op = .call { callee := .builtin .append, args := #[s, x], argTypes := #[t, t] }) {z : Value} {sz bytes : Nat} (hu : Try.prog.underlying t = some (.slice e)) (hinf : (Try.prog.info? e).map (fun i => (i.zero, i.size, i.bytes)) = some (some z, sz, bytes)) (hzc : z.cells.size = sz) (hsz : 0 < sz)
    (B : Nat) (v : Value) (k : Nat) (xs : List Value) (hs : a.eval s = v) (hown : w.ownsRow B e sz v k xs) (u : Value) (n : Nat) (cs : List Value) (hx : a.eval x = u) (hr : RdX w u n cs) (hA : ArgS u) (hlen : cs.length = n * sz) (h1 : ∀ y ∈ cs, y.oneCell' = true) (h63 : k + n ≤ maxLen) (hby : (k + n) * bytes ≤ 140737488355328) (hB : B ≤ w.heap.size)
    (h : ∀ v' w', w'.ownsRow B e sz v' (k + n) (xs ++ cs) → w.grownBy w' v.ownBlock → wpList Try.prog ops Q rest (a.put o.dst v') w') : wpList Try.prog ops Q (o :: rest) a w :=
  wpList_plain hgd fun _ hK => by
    obtain ⟨i0, hi, hz0, hz1, hz2⟩ := info_parts hinf
    have hrun : ∃ v' w', (Builtin.append_ #[t, t] o.type #[v, u]).run Try.prog w = .ok v' w' ∧ w'.ownsRow B e sz v' (k + n) (xs ++ cs) ∧ w.grownBy w' v.ownBlock := by
      rcases hA with rfl | ⟨ad, n', c, rfl⟩
      · rcases hr with ⟨rfl, _⟩ | ⟨b, o', c, hv, _⟩
        · have hcs : cs = [] := List.length_eq_zero_iff.1 (by rw [hlen]; simp)
          subst hcs
          refine ⟨_, _, run_append_owned_none (P := Try.prog) (w := w) B t o.type e i0 sz hu hi v k xs hown, by simpa using hown, rfl, rfl, rfl, Nat.le_refl _, fun _ _ _ => rfl⟩
        · cases hv
      · have hnn : n' = n ∧ ∀ j y, cs[j]? = some y → w.cell? (ad.add j) = some y := by
          rcases hr with ⟨rfl, a', c', hv⟩ | ⟨b, o', c', hv, _, _, hX⟩
          · cases hv
            have hcs : cs = [] := List.length_eq_zero_iff.1 (by rw [hlen]; simp)
            subst hcs
            exact ⟨rfl, fun j y hj => by simp at hj⟩
          · cases hv
            refine ⟨rfl, fun j y hj => ?_⟩
            rw [Go.WideShapes.add_plain]
            exact hX j y hj
        obtain ⟨rfl, hnews⟩ := hnn
        obtain ⟨v', w', hr', h2, h3, _⟩ := run_append_own (P := Try.prog) w B t o.type e i0 z sz bytes hu hi hz0 hz1 hz2 hzc hsz v k xs hown ad n' c cs hlen hnews h1 h63 hby hB
        exact ⟨v', w', hr', h2, h3⟩
    obtain ⟨v', w', hrun, h2, h3⟩ := hrun
    unfold Oper.wp execOp
    simp only [ho, resolve, invoke, builtin, Sem.run_bind, Sem.run_pure, Result.andThen_ok, List.map_toArray, List.map_cons, List.map_nil, hs, hx, hrun]
    exact hK _ _ (h v' w' h2 h3)
def aplA (s : List Ch) (a b : List Int) : List Int := if Ed.validN s a.length b.length = 0 then Ed.apP (Ed.runs s a.length 0 0) a b else []
def fitN (s : List Ch) (a b : List Int) : Nat := if Ed.validN s a.length b.length = 0 then (if Ed.fitsP a b (Ed.prs s a.length 0 0) then 0 else 61) else Ed.validN s a.length b.length
theorem apD_length {s : List Ch} {a b : List Int} {x y : Int} (h : Ed.val s x y a.length b.length = true) (hx : 0 ≤ x) (hy : 0 ≤ y) (hxn : x ≤ a.length) (hym : y ≤ b.length) : ((Ed.apD s a b x).length : Int) = b.length - y := by
  induction s generalizing x y with
  | nil =>
    have h' : (a.length : Int) - x = b.length - y := by simpa [Ed.val] using h
    rw [Ed.apD, List.length_drop]
    omega
  | cons c r ih =>
    obtain ⟨⟨h1, h2, h3, h4⟩, hr⟩ := Ed.val_cons.1 h
    have k1 := Ed.sl_length (l := a) (i := x) (k := c.a - x) hx (by omega) (by omega)
    have k2 := Ed.sl_length (l := b) (i := c.b) (k := c.m) (by omega) (by omega) (by omega)
    have k3 := ih hr (by omega) (by omega) (by omega) (by omega)
    rw [Ed.apD, List.length_append, List.length_append]
    push_cast
    omega
set_option maxHeartbeats 2000000 in
set_option maxRecDepth 100000 in
theorem refApply_all {v va vb : Value} {s : List Ch} {a b : List Int} {w : World} (hr : RdC w v s) (hwf : ∀ c ∈ s, WfC c) (hl : s.length ≤ 10000000000000) (ha : RdI w va a) (hb : RdI w vb b) (hA : ArgS va) (hAb : ArgS vb) :
    Calls Try.prog 17 #[v, va, vb] w fun e w' => ∃ v', e = .returned (.tuple #[v', .int .i64 (Ed.validN s a.length b.length)]) ∧ OwnI w' w.heap.size v' (aplA s a b) ∧ Below w.heap.size w w' := by
  have HC := hid (refValid_any (n := a.length) (m := b.length) hr hwf hl)
  have HR := hid hr
  have HRA := hid ha
  have HRB := hid hb
  have HA := hid hA
  have HAb := hid hAb
  obtain ⟨aa, ca, rfl⟩ := ha.shape
  obtain ⟨ab, cb, rfl⟩ := hb.shape
  obtain ⟨a0, c, rfl⟩ := hr.shape
  by_cases hk : Ed.validN s a.length b.length = 0
  · have hV := Ed.validN_zero.1 hk
    have HE : Hid (aplA s a b = Ed.apD s a b 0) := hid (by unfold aplA; rw [if_pos hk]; exact Ed.apply_eq hV)
    obtain ⟨hn, hm, hval⟩ := hV
    obtain ⟨hn0, hn1⟩ := Ed.cnt_iff.1 hn
    obtain ⟨hm0, hm1⟩ := Ed.cnt_iff.1 hm
    have HVAL := hid hval
    have hlen := apD_length hval (Int.le_refl _) (Int.le_refl _) (by omega) (by omega)
    have hsl : s.length ≤ 8388608 := by have := val_len hval (by omega) (by omega); omega
    rw [HE.out]
    rw [hk] at HC ⊢
    obtain ⟨R, hR⟩ : ∃ R, R = Ed.apD s a b 0 := ⟨_, rfl⟩
    rw [← hR] at hlen ⊢
    have HRR := hid hR
    have hlenR : R.length ≤ 4194304 := by omega
    clear hr hwf hk hn hm hval hR ha hb hA hAb HE hlen
    go_enter Try.func17, Try.ntmps17
    go_wp2_with fail
    refine HC.out.mono ?_
    rintro e w1 ⟨rfl, hb1⟩
    have HB1 := hid hb1
    clear hb1
    go_wp2
    go_loopw [9, 10, 11] (fun o p i wr => ∃ (k x : Nat) (y : Int) (O : List Int), k ≤ s.length ∧ i = .int .i64 k ∧ p = .int .i64 x ∧ x ≤ a.length ∧ 0 ≤ y ∧ y ≤ b.length ∧ Hid (Ed.val (s.drop k) x y a.length b.length = true) ∧ Hid (R = O ++ Ed.apD (s.drop k) a b x) ∧ Hid (OwnI wr w.heap.size o O) ∧ Hid (Below w.heap.size w wr)) (fun _ _ i _ => s.length - (intOf i).toNat)
    case atStart => exact ⟨0, 0, 0, [], Nat.zero_le _, rfl, rfl, Nat.zero_le _, by omega, by omega, HVAL, HRR, hid (World.ownsRow_nil _ _ _ _), HB1⟩
    case round =>
      obtain ⟨k, x, y, O, hk, rfl, rfl, hx, hy0, hy1, HV, HO, HOW, HB⟩ := hrel
      have hOl : O.length ≤ 4194304 := by
        have h := congrArg List.length HO.out
        rw [List.length_append] at h
        omega
      by_cases hlt : k < s.length
      · obtain ⟨c, hc⟩ : ∃ c, s[k]? = some c := ⟨_, List.getElem?_eq_getElem hlt⟩
        have HD := hid (drop_at hc)
        rw [HD.out] at HV HO
        obtain ⟨⟨⟨p1, p2, p3⟩, ⟨p4, p5, p6⟩, _, p8⟩, hv2⟩ := Ed.val_cons.1 HV.out
        have HV2 := hid hv2
        obtain ⟨xa, xn, xb, xm⟩ := c
        simp only at p1 p2 p3 p4 p5 p6 p8 hv2
        obtain ⟨xa, rfl⟩ := Int.eq_ofNat_of_zero_le (show 0 ≤ xa by omega)
        obtain ⟨xn, rfl⟩ := Int.eq_ofNat_of_zero_le p2
        obtain ⟨xb, rfl⟩ := Int.eq_ofNat_of_zero_le (show 0 ≤ xb by omega)
        obtain ⟨xm, rfl⟩ := Int.eq_ofNat_of_zero_le p5
        obtain ⟨bb, o, rfl, hblt, c0, c1, c2, c3⟩ := rdC_at (HR.out.below HB.out) hc
        simp only at c0 c1 c2 c3
        obtain ⟨ao, co, eo⟩ := own_shape HOW.out
        subst eo
        have HP8 := hid p8
        have hxb : (xb : Int) + xm ≤ b.length := by omega
        have hca : a.length ≤ ca := by
          rcases HRA.out with ⟨h, _⟩ | ⟨b', o', c', hv, hc', _⟩
          · omega
          · cases hv; exact hc'
        have hcb : b.length ≤ cb := by
          rcases HRB.out with ⟨h, _⟩ | ⟨b', o', c', hv, hc', _⟩
          · omega
          · cases hv; exact hc'
        obtain ⟨A, hAe⟩ : ∃ A, (if ca = x then aa else aa.map (·.add x)) = A := ⟨_, rfl⟩
        obtain ⟨B, hBe⟩ : ∃ B, (if cb = xb then ab else ab.map (·.add xb)) = B := ⟨_, rfl⟩
        have HSA := hid (rd_sliced HRA.out HA.out rfl (x := x) (y := xa) (by omega) (by omega))
        have HSB := hid (rd_sliced HRB.out HAb.out rfl (x := xb) (y := xb + xm) (by omega) (by omega))
        rw [hAe] at HSA
        rw [hBe] at HSB
        have HSB2 : Hid (RdX w (.slice B xm (cb - xb)) xm (isC (Ed.sl b xb xm)) ∧ ArgS (.slice B xm (cb - xb))) := hid (by
          have h := HSB.out
          rw [show xb + xm - xb = xm by omega, show ((xb + xm : Nat) : Int) - (xb : Int) = xm by omega] at h
          exact h)
        have LA : Hid ((Ed.sl a x ((xa : Int) - x)).length = xa - x) := hid (by have := Ed.sl_length (l := a) (i := x) (k := (xa : Int) - x) (by omega) (by omega) (by omega); omega)
        have LB : Hid ((Ed.sl b xb xm).length = xm) := hid (by have := Ed.sl_length (l := b) (i := xb) (k := xm) (by omega) (by omega) (by omega); omega)
        have HNEXT : Hid (R = (O ++ Ed.sl a x ((xa : Int) - x)) ++ Ed.sl b xb xm ++ Ed.apD (s.drop (k + 1)) a b ((xa + xn : Nat) : Int)) := hid (by rw [HO.out, Ed.apD]; simp only [List.append_assoc]; push_cast; rfl)
        have i0 : (0 : Int) ≤ (k : Int) := by omega
        have i1 : (k : Int) < (s.length : Int) := by omega
        have i2 : (0 : Int) ≤ (x : Int) := by omega
        have i3 : (x : Int) ≤ (xa : Int) := by omega
        have i4 : (xa : Int) ≤ (ca : Int) := by omega
        have i5 : (0 : Int) ≤ (xb : Int) := by omega
        have i6 : (xb : Int) ≤ (xb : Int) + (xm : Int) := by omega
        have i7 : (xb : Int) + (xm : Int) ≤ (cb : Int) := by omega
        have i8 : IntKind.i64.wrap ((xb : Int) + (xm : Int)) = (xb : Int) + (xm : Int) := wrapOk (by omega) (by omega)
        have i9 : IntKind.i64.wrap ((xa : Int) + (xn : Int)) = (xa : Int) + (xn : Int) := wrapOk (by omega) (by omega)
        have hxa : (xa : Int) + xn ≤ a.length := by omega
        have hrest : (xb : Int) + xm - (xa + xn : Int) = y + xm - (x + xn) := by omega
        have HREST := hid hrest
        have HC1 := hid hc
        clear HV hc hv2 p8 hrest p1 p2 p3 p4 p5 p6
        go_wp2_with (at_builtin; refine wpList_append_more rfl _ _ 22 3 rfl Try.underlying22 Try.infoInt rfl (by decide) w.heap.size _ O.length (isC O) rfl HOW.out _ (xa - x) (isC (Ed.sl a x ((xa : Int) - x))) rfl (HSA.out.1.below HB.out) HSA.out.2 (by rw [isC_length, LA.out]; omega) (isC_one _) (by unfold maxLen; omega) (by omega) HB.out.size ?_; intro v5 w5 hO5 hg5; have HO5 : Hid (OwnI w5 w.heap.size v5 (O ++ Ed.sl a x ((xa : Int) - x))) := hid (by show World.ownsRow _ _ _ _ _ _ _; rw [List.length_append, LA.out, isC_append]; exact hO5); have HB5 := hid (HB.out.grown hg5 HB.out.size (fun q hq => own_ge HOW.out q hq)); clear hO5 hg5)
        obtain ⟨a5, c5, e5⟩ := own_shape HO5.out
        subst e5
        have d0 := (rdC_at (HR.out.below HB5.out) HC1.out)
        obtain ⟨bb', o', hbo, _, c0, c1, c2, c3⟩ := d0
        cases hbo
        simp only at c0 c1 c2 c3
        have e0 : (w5.drewN 1).cell? ⟨bb, o + k * 4, none⟩ = some (.int .i64 (xa : Int)) := c0
        have e1 : (w5.drewN 1).cell? ⟨bb, o + k * 4 + 1, none⟩ = some (.int .i64 (xn : Int)) := c1
        have HO5b : Hid (OwnI (w5.drewN 1) w.heap.size (.slice a5 (O ++ Ed.sl a x ((xa : Int) - x)).length c5) (O ++ Ed.sl a x ((xa : Int) - x))) := hid HO5.out
        have HB5b := hid (below_drewN HB5.out 1)
        have hO2 : (O ++ Ed.sl a x ((xa : Int) - x)).length + xm ≤ 4194304 := by
          have h := congrArg List.length HNEXT.out
          rw [List.length_append, List.length_append, LB.out] at h
          omega
        clear HO5 HB5
        obtain ⟨O2, hO2e⟩ : ∃ O2, O2 = O ++ Ed.sl a x ((xa : Int) - x) := ⟨_, rfl⟩
        rw [← hO2e] at HO5b hO2 HNEXT ⊢
        clear hO2e
        refine wp_region_qtail 19 (by kernel_rfl) (by kernel_rfl) ?_
        simp only [List.take_succ_cons, List.take_zero, List.drop_succ_cons, List.drop_zero]
        repeat go_big_quiet_step (fail)
        refine wpQuiet_nil ?_
        try simp only [Nat.add_sub_cancel_left]
        refine wpList_append_more rfl _ _ 22 3 rfl Try.underlying22 Try.infoInt rfl (by decide) w.heap.size _ O2.length (isC O2) rfl HO5b.out _ xm (isC (Ed.sl b xb xm)) rfl (HSB2.out.1.below HB5b.out) HSB2.out.2 (by rw [isC_length, LB.out]; omega) (isC_one _) (by unfold maxLen; omega) (by omega) HB5b.out.size ?_
        intro v6 w6 hO6 hg6
        have HO6 : Hid (OwnI w6 w.heap.size v6 (O2 ++ Ed.sl b xb xm)) := hid (by show World.ownsRow _ _ _ _ _ _ _; rw [List.length_append, LB.out, isC_append]; exact hO6)
        have HB6 := hid (HB5b.out.grown hg6 HB5b.out.size (fun q hq => own_ge HO5b.out q hq))
        clear hO6 hg6
        have d0 := (rdC_at (HR.out.below HB6.out) HC1.out)
        obtain ⟨bb', o', hbo, _, c0, c1, c2, c3⟩ := d0
        cases hbo
        simp only at c0 c1 c2 c3
        clear c2 c3
        go_wp2_with fail
        go_quiet (fail)
        go_wp2
        go_roundw
        case rel => exact ⟨k + 1, xa + xn, xb + xm, O2 ++ Ed.sl b xb xm, by omega, by go_num, by go_num, by omega, by omega, by omega, hid (by have h := HV2.out; push_cast; exact h), HNEXT, HO6, hid (by first | exact HB6.out | exact below_drewN HB6.out _)⟩
        case measure => simp [intOf]; omega
      · have hkk : s.drop k = [] := List.drop_eq_nil_of_le (by omega)
        rw [hkk] at HO HV
        have hca : a.length ≤ ca := by
          rcases HRA.out with ⟨h, _⟩ | ⟨b', o', c', hv, hc', _⟩
          · omega
          · cases hv; exact hc'
        obtain ⟨A, hAe⟩ : ∃ A, (if ca = x then aa else aa.map (·.add x)) = A := ⟨_, rfl⟩
        have HSA := hid (rd_sliced HRA.out HA.out rfl (x := x) (y := a.length) (by omega) (by omega))
        rw [hAe] at HSA
        have LA : Hid ((Ed.sl a x ((a.length : Int) - x)).length = a.length - x) := hid (by have := Ed.sl_length (l := a) (i := x) (k := (a.length : Int) - x) (by omega) (by omega) (by omega); omega)
        have HNEXT : Hid (R = O ++ Ed.sl a x ((a.length : Int) - x)) := hid (by
          rw [HO.out, Ed.apD]
          congr 1
          unfold Ed.sl
          rw [List.take_of_length_le]
          rw [List.length_drop]; omega)
        obtain ⟨ao, co, eo⟩ := own_shape HOW.out
        subst eo
        have i2 : (0 : Int) ≤ (x : Int) := by omega
        have i3 : (x : Int) ≤ (a.length : Int) := by omega
        clear hkk HV HO
        go_wp2_with (at_builtin; refine wpList_append_more rfl _ _ 22 3 rfl Try.underlying22 Try.infoInt rfl (by decide) w.heap.size _ O.length (isC O) rfl HOW.out _ (a.length - x) (isC (Ed.sl a x ((a.length : Int) - x))) rfl (HSA.out.1.below HB.out) HSA.out.2 (by rw [isC_length, LA.out]; omega) (isC_one _) (by unfold maxLen; omega) (by omega) HB.out.size ?_; intro v5 w5 hO5 hg5; have HO5 : Hid (OwnI w5 w.heap.size v5 R) := hid (by show World.ownsRow _ _ _ _ _ _ _; rw [HNEXT.out, List.length_append, LA.out, isC_append]; exact hO5); have HB5 := hid (HB.out.grown hg5 HB.out.size (fun q hq => own_ge HOW.out q hq)); clear hO5 hg5)
        go_ret2
        exact ⟨_, rfl, HO5.out, HB5.out⟩
  · have e : aplA s a b = [] := by unfold aplA; rw [if_neg hk]
    rw [e]
    generalize Ed.validN s a.length b.length = k at HC hk
    have hz : ((k : Int) == 0) = false := ine (by omega)
    clear hr hwf e hk ha hb hA hAb
    go_enter Try.func17, Try.ntmps17
    go_wp2_with fail
    refine HC.out.mono ?_
    rintro e w1 ⟨rfl, hb1⟩
    have HB := hid hb1
    clear hb1
    go_wp2
    go_ret2
    exact ⟨_, rfl, World.ownsRow_nil _ _ _ _, HB.out⟩
set_option maxHeartbeats 2000000 in
set_option maxRecDepth 100000 in
theorem refFits_all {v va vb : Value} {s : List Ch} {a b : List Int} {w : World} (hr : RdC w v s) (hwf : ∀ c ∈ s, WfC c) (hl : s.length ≤ 10000000000000) (ha : RdI w va a) (hb : RdI w vb b) :
    Calls Try.prog 19 #[v, va, vb] w fun e w' => e = .returned (.int .i64 (fitN s a b)) ∧ Below w.heap.size w w' := by
  have HC := hid (refValid_any (n := a.length) (m := b.length) hr hwf hl)
  have HR := hid hr
  have HRA := hid ha
  have HRB := hid hb
  obtain ⟨aa, ca, rfl⟩ := ha.shape
  obtain ⟨ab, cb, rfl⟩ := hb.shape
  obtain ⟨a0, c, rfl⟩ := hr.shape
  by_cases hk : Ed.validN s a.length b.length = 0
  · have hV := Ed.validN_zero.1 hk
    have hf : fitN s a b = if Ed.fitsP a b (Ed.prs s a.length 0 0) then 0 else 61 := by unfold fitN; rw [if_pos hk]
    have hpl := rise_len hV.rise (Ed.cnt_iff.1 hV.1).1
    have hn := Ed.cnt_iff.1 hV.1
    have HV := hid hV
    have HPB : Hid (∀ p ∈ Ed.prs s a.length 0 0, 0 ≤ p.1 ∧ p.1 < a.length ∧ 0 ≤ p.2 ∧ p.2 < b.length) := hid (fun p hp => by
      have := (Ed.rise_iff.1 HV.out.rise).2 p hp
      unfold Ed.inB at this
      omega)
    have HPR := hid (fun w1 (h : RdC w1 (.slice a0 s.length c) s) => refpairs_any h hV)
    rw [hk] at HC
    obtain ⟨N, hN⟩ : ∃ N, N = fitN s a b := ⟨_, rfl⟩
    rw [← hN]
    rw [← hN] at hf
    have HN := hid hf
    generalize Ed.prs s a.length 0 0 = P at hpl HPB HPR HN
    have hPl : P.length ≤ 4194304 := by omega
    clear hr hwf hk hV hf hN ha hb hpl HV
    go_enter Try.func19, Try.ntmps19
    go_wp2_with fail
    refine HC.out.mono ?_
    rintro e w1 ⟨rfl, hb1⟩
    have HB1 := hid hb1
    clear hb1
    go_wp2_with fail
    refine (HPR.out _ (HR.out.below HB1.out)).mono ?_
    rintro e w2 ⟨v2, rfl, hO2, hb2⟩
    obtain ⟨a2, c2, e2⟩ := own_shape hO2
    subst e2
    have HP2 := hid (own_rd hO2)
    have HB2 := hid (HB1.out.trans (hb2.mono HB1.out.size))
    clear hO2 hb2
    go_wp2
    go_loopw [9] (fun i wr => ∃ k : Nat, k ≤ P.length ∧ i = .int .i64 k ∧ (∃ q, wr = w2.drewN q) ∧ Hid (Ed.fitsP a b P = Ed.fitsP a b (P.drop k))) (fun i _ => P.length - (intOf i).toNat)
    case atStart => exact ⟨0, Nat.zero_le _, rfl, ⟨0, rfl⟩, hid rfl⟩
    case round =>
      obtain ⟨k, hk, rfl, ⟨q, rfl⟩, HJ⟩ := hrel
      by_cases hlt : k < P.length
      · obtain ⟨p, hp⟩ : ∃ p, P[k]? = some p := ⟨_, List.getElem?_eq_getElem hlt⟩
        obtain ⟨g1, g2, g3, g4⟩ := HPB.out p (List.mem_of_getElem? hp)
        obtain ⟨x, y⟩ := p
        simp only at g1 g2 g3 g4
        obtain ⟨x, rfl⟩ := Int.eq_ofNat_of_zero_le g1
        obtain ⟨y, rfl⟩ := Int.eq_ofNat_of_zero_le g3
        obtain ⟨u, hu⟩ : ∃ u, a[x]? = some u := ⟨_, List.getElem?_eq_getElem (by omega)⟩
        obtain ⟨z, hz⟩ : ∃ z, b[y]? = some z := ⟨_, List.getElem?_eq_getElem (by omega)⟩
        obtain ⟨b1, o1, rfl, _, d1⟩ := rdI_at (HRA.out.below HB2.out) hu
        obtain ⟨b2, o2, rfl, _, d2⟩ := rdI_at (HRB.out.below HB2.out) hz
        obtain ⟨b3, o3, rfl, _, d3, d4⟩ := rdP_at HP2.out hp
        simp only at d3 d4
        have HD : Hid (Ed.fitsP a b P = (decide (u = z) && Ed.fitsP a b (P.drop (k + 1)))) := hid (by
          rw [HJ.out, drop_at hp]
          show (Ed.eqP a b ((x : Int), (y : Int)) && _) = _
          congr 1
          unfold Ed.eqP
          simp only [Int.toNat_natCast]
          rw [hu, hz]
          by_cases huz : u = z
          · subst huz; simp
          · rw [decide_eq_false huz]; simpa using huz)
        have i1 : (0 : Int) ≤ (k : Int) := by omega
        have i2 : (k : Int) < (P.length : Int) := by omega
        have i3 : (x : Int) < (a.length : Int) := g2
        have i4 : (y : Int) < (b.length : Int) := g4
        clear hp hu hz HJ g2 g4
        by_cases huz : u = z
        · have hz2 : (u == z) = true := zeq huz
          have HD2 : Hid (Ed.fitsP a b P = Ed.fitsP a b (P.drop (k + 1))) := hid (by rw [HD.out, decide_eq_true huz]; rfl)
          clear HD huz
          go_wp2
          go_quiet (fail)
          go_wp2
          go_roundw
          case rel => exact ⟨k + 1, by omega, by go_num, ⟨_, by first | rfl | exact World.drewN_drewN _ _ _⟩, HD2⟩
          case measure => simp [intOf]; omega
        · have hz2 : (u == z) = false := zne huz
          have HN0 : Hid (N = 61) := hid (by rw [HN.out, HD.out, decide_eq_false huz]; rfl)
          clear HD huz
          go_wp2
          go_quiet (fail)
          go_wp2
          go_ret
          exact ⟨by rw [HN0.out]; rfl, by first | exact below_drewN (below_drewN HB2.out _) _ | exact below_drewN HB2.out _⟩
      · have HN0 : Hid (N = 0) := hid (by rw [HN.out, HJ.out, List.drop_eq_nil_of_le (by omega)]; rfl)
        clear HJ
        go_wp2
        go_ret
        exact ⟨by rw [HN0.out]; rfl, below_drewN HB2.out _⟩
  · have e : fitN s a b = Ed.validN s a.length b.length := by unfold fitN; rw [if_neg hk]
    rw [e]
    generalize Ed.validN s a.length b.length = k at HC hk
    have hz : ((k : Int) == 0) = false := ine (by omega)
    clear hr hwf e hk ha hb
    go_enter Try.func19, Try.ntmps19
    go_wp2_with fail
    refine HC.out.mono ?_
    rintro e w1 ⟨rfl, hb1⟩
    have HB := hid hb1
    clear hb1
    go_wp2
    go_ret
    exact ⟨rfl, HB.out⟩
end Go.Proofs.Ytpedbnghhmnjjaa
