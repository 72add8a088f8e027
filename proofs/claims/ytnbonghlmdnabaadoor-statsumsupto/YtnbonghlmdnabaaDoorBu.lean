/-
  The document's Sum (ST6).
-/
import Derived.Test.YtnbonghlmdnabaaDoorBr
namespace Go.Proofs.YtnbonghlmdnabaaDoor.Sx
open Go.RowKit

theorem Tryd.infoCt16 : (Tryd.prog.info? 37).map (fun i => (i.zero, i.size, i.bytes)) = some (some (.agg #[.string .empty, .int .i64 0, .int .i64 0]), 3, 32) := by kernel_rfl
abbrev OwnR (w : World) (B : Nat) (v : Value) (l : List Ct) : Prop := w.ownsRow B 37 3 v l.length (ctsC l)
def sumN (l : List Ct) : Int := if okL l = true then 0 else 1
def sumS (l : List Ct) : List Ct := if okL l = true then sumK l else []
theorem wpList_append_ct {w : World} {ops : Array Oper} {rest : List Oper} {o : Oper} {a : Act} {Q : Exit → Act → World → Prop} (hgd : o.guard = none) (s x : Operand)
    (ho : o.op = .call { callee := .builtin .append, args := #[s, x], argTypes := #[22, 22] }) (B : Nat) (v : Value) (l : List Ct) (hs : a.eval s = v) (hown : OwnR w B v l)
    (g : Nat) (c : Ct) (hx : a.eval x = .slice (some ⟨g, 0, none⟩) 1 1) (hg : w.heap[g]? = some (.cells #[.string c.nm, .int .i64 c.a, .int .i64 c.d] 37)) (hfit : l.length ≤ 1000000000) (hB : B ≤ w.heap.size)
    (h : ∀ v' w', OwnR w' B v' (l ++ [c]) → Below B w w' → wpList Tryd.prog ops Q rest (a.put o.dst v') w') : wpList Tryd.prog ops Q (o :: rest) a w := by
  obtain ⟨i0, hi, hz0, hz1, hz2⟩ := info_parts Tryd.infoCt16
  refine wpList_append_lies _ hgd s x 22 ho B 37 i0 (.agg #[.string .empty, .int .i64 0, .int .i64 0]) 3 32 Tryd.underlying22 hi hz0 hz1 hz2 rfl (by decide) v l.length (ctsC l) hs hown ⟨g, 0, none⟩ 1 1 (ctC c) hx rfl ?_ ?_ ?_ ?_ ?_ hB w.heap.size rfl ?_
  · exact World.news_of_block (cs := #[.string c.nm, .int .i64 c.a, .int .i64 c.d]) hg
  · simp [ctC, Value.oneCell']
  · omega
  · unfold maxLen; omega
  · omega
  · intro g' cap w' g2 g3 _ _
    refine h _ w' ?_ ((Below.refl _ _).grown g3 hB (Cx.own_ge hown))
    show w'.ownsRow _ _ _ _ _ _
    rw [List.length_append, ctsC_append]
    exact g2
/-- an entry of the sums is no greater than all -/
theorem sum_small {l : List Ct} (h : okL l = true) (k : Nat) {y : Ct} (hy : y ∈ sumK (l.take k)) : (0 ≤ y.a ∧ y.a ≤ 2147483647) ∧ (0 ≤ y.d ∧ y.d ≤ 2147483647) := by
  obtain ⟨h1, h2, h3, h4⟩ := okL_iff.1 h
  rw [okN_iff] at h3 h4
  have hp : ∀ x ∈ l.take k, pos x := fun x hx => by
    have := okC_iff.1 (List.all_eq_true.1 h2 x (List.mem_of_mem_take hx))
    exact ⟨this.1.1, this.2.1⟩
  have hq := fold_pos (l.take k) [] (fun x hx => by cases hx) hp
  obtain ⟨q1, q2, q3⟩ := pos_le hq
  have sa := sumK_sumA (l.take k)
  have sd := sumK_sumD (l.take k)
  have hm := sumA_part k h2
  have := q3 y hy
  have hx2 := hq y hy
  unfold pos at hx2
  unfold sumK at sa sd
  omega
set_option maxHeartbeats 4000000 in
set_option maxRecDepth 100000 in
theorem rSum_any {w : World} {v : Value} {l : List Ct} (hr : RdK w v l) (hn : l.length ≤ 1099511627776) :
    Calls Tryd.prog 6 #[v] w fun e w' => ∃ v', e = .returned (.tuple #[v', .int .i64 (sumN l)]) ∧ OwnR w' w.heap.size v' (sumS l) ∧ Below w.heap.size w w' := by
  have HT := hid (rSums_any hr hn)
  have HR0 := hid hr
  obtain ⟨i0, hi, hz0, hz1, hz2⟩ := info_parts Tryd.infoCt16
  obtain ⟨a, c, rfl⟩ := hr.shape
  unfold sumN sumS
  cases hok : okL l with
  | false =>
    rw [sm_no hok] at HT
    obtain ⟨n, hnn⟩ : ∃ n, n = l.length := ⟨_, rfl⟩
    rw [← hnn] at HT ⊢
    clear hok hr hnn HR0
    go_enter Tryd.func6, Tryd.ntmps6
    go_wp2_with fail
    refine HT.out.mono ?_
    rintro e w1 ⟨rfl, rfl⟩
    go_wp2_with fail
    go_ret2
    exact ⟨_, rfl, World.ownsRow_nil _ _ _ _, Below.refl _ _⟩
  | true =>
    rw [sm_yes hok] at HT
    rw [if_pos rfl, if_pos rfl]
    have HOKL := hid hok
    have HALL := hid (okL_iff.1 hok).2.1
    have hlen := (okL_iff.1 hok).1
    obtain ⟨n, hnn⟩ : ∃ n, n = l.length := ⟨_, rfl⟩
    have HN := hid hnn
    rw [← hnn] at HT hlen HR0 ⊢
    obtain ⟨Z, hZZ⟩ : ∃ Z, Z = sumK l := ⟨_, rfl⟩
    have HZZ := hid hZZ
    rw [← hZZ]
    generalize sumA l = sa at HT
    generalize sumD l = sd at HT
    clear hok hr hnn hn hZZ
    go_enter Tryd.func6, Tryd.ntmps6
    go_wp2_with fail
    refine HT.out.mono ?_
    rintro e w1 ⟨rfl, hw1⟩
    rw [hw1]
    clear hw1 w1
    have HB1 := hid (Below.refl w.heap.size w)
    clear HT
    go_wp2_with fail
    go_loopw [7, 8, 9] (fun o i _ wr => ∃ k : Nat, k ≤ n ∧ i = .int .i64 k ∧ Hid (OwnR wr w.heap.size o (sumK (l.take k))) ∧ Hid (Below w.heap.size w wr)) (fun _ i _ _ => n - (intOf i).toNat)
    case atStart => exact ⟨0, Nat.zero_le _, rfl, hid (World.ownsRow_nil _ _ _ _), HB1⟩
    case round =>
      obtain ⟨k, hk, rfl, HO, HB⟩ := hrel
      clear HB1
      by_cases hlt : k < n
      · obtain ⟨x, hx⟩ : ∃ x, l[k]? = some x := ⟨_, List.getElem?_eq_getElem (by have := HN.out; omega)⟩
        have hxl := List.mem_of_getElem? hx
        obtain ⟨b1, o1, e1, hb1, g0, g1, g2⟩ := rdK_at HR0.out hx
        subst e1
        have HKL : Hid (∀ w', Below w.heap.size w w' → w'.cell? ⟨b1, o1 + k * 3, none⟩ = some (.string x.nm) ∧ w'.cell? ⟨b1, o1 + k * 3 + 1, none⟩ = some (.int .i64 x.a) ∧ w'.cell? ⟨b1, o1 + k * 3 + 2, none⟩ = some (.int .i64 x.d)) := hid (fun w' h => ⟨(h.cell (p := ⟨b1, _, none⟩) hb1).trans g0, (h.cell (p := ⟨b1, _, none⟩) hb1).trans g1, (h.cell (p := ⟨b1, _, none⟩) hb1).trans g2⟩)
        have HT1 := hid (sumK_take hx)
        have HXR := hid (okC_iff.1 (List.all_eq_true.1 HALL.out x hxl))
        have HSM := hid (fun y (hy : y ∈ sumK (l.take k)) => sum_small HOKL.out k hy)
        have hRl : (sumK (l.take k)).length ≤ 65536 := by have := sumK_len (l.take k); rw [List.length_take] at this; omega
        obtain ⟨R, hR⟩ : ∃ R, R = sumK (l.take k) := ⟨_, rfl⟩
        rw [← hR] at HO HT1 HSM hRl
        obtain ⟨ao, co, e⟩ := own_shape HO.out
        subst e
        obtain ⟨r, hr⟩ : ∃ r, r = R.length := ⟨_, rfl⟩
        have HRL := hid hr
        have HO0 : Hid (wr.ownsRow w.heap.size 37 3 (.slice ao r co) r (ctsC R)) := hid (by rw [hr]; exact HO.out)
        rw [← hr] at hRl ⊢
        have i1 : (0 : Int) ≤ (k : Int) := by omega
        have i2 : (k : Int) < (n : Int) := by omega
        clear hx hxl hb1 g0 g1 g2 hR HO hr
        obtain ⟨wo, hwo⟩ : ∃ wo, wo = wr := ⟨_, rfl⟩
        subst hwo
        have HB1 := HB
        clear HB
        go_wp2_with fail
        go_loopw [9] (fun kk wr => ∃ j : Nat, j ≤ r ∧ kk = .int .i64 j ∧ Hid (∀ i y, i < j → R[i]? = some y → y.nm ≠ x.nm) ∧ Hid (wr.ownsRow w.heap.size 37 3 (.slice ao r co) r (ctsC R)) ∧ Hid (Below w.heap.size w wr)) (fun kk _ => r - (intOf kk).toNat)
        case atStart => exact ⟨0, Nat.zero_le _, rfl, hid (fun i y h => by omega), HO0, HB1⟩
        case round =>
          obtain ⟨j, hj, rfl, HNO, HOw, HBw⟩ := hrel
          clear HO0 HB1
          have j1 : (0 : Int) ≤ (j : Int) := by omega
          obtain ⟨t0, t1, t2⟩ := HKL.out _ HBw.out
          by_cases hjr : j < r
          · have j2 : (j : Int) < (r : Int) := by omega
            obtain ⟨y, hy⟩ : ∃ y, R[j]? = some y := ⟨_, List.getElem?_eq_getElem (by have := HRL.out; omega)⟩
            obtain ⟨g, cc, eg, hg, hgl, e0, e1, e2, hfz⟩ := own_atK HOw.out hy
            cases eg
            by_cases hyx : y.nm = x.nm
            · have hne : (y.nm.toList == x.nm.toList) = true := by rw [hyx]; exact beq_self_eq_true _
              have hje : ¬ ((j : Int) = (r : Int)) := by omega
              have HSY := hid (HSM.out y (List.mem_of_getElem? hy))
              have HY := hid hy
              have HYX := hid hyx
              go_wp2_with fail
              go_quiet (fail)
              have HB1 := hid (below_drewN HBw.out nq)
              have HO1 := hid (Cx.own_stays HOw.out (below_drewN (Below.refl wr.heap.size wr) nq))
              clear e0 e1 e2 hfz hg hgl t0 t1 t2 HBw HOw hy hyx hne
              generalize wr.drewN nq = wt at HB1 HO1 ⊢
              go_wp2_with fail
              obtain ⟨ym, ya, yd⟩ := y
              obtain ⟨R1, hR1⟩ : ∃ R1, R1 = R := ⟨_, rfl⟩
              have HRR := hid hR1
              have HY_1 : Hid (R1[j]? = some ⟨ym, ya, yd⟩) := hid (by rw [hR1]; exact HY.out)
              rw [← hR1] at HO1
              clear hR1
              have HSa : Hid (IntKind.i64.wrap (ya + x.a) = ya + x.a) := hid (by have h1 := HSY.out; have h2 := HXR.out; dsimp only at h1; exact wrapI (by omega) (by omega))
              have HSd : Hid (IntKind.i64.wrap (yd + x.d) = yd + x.d) := hid (by have h1 := HSY.out; have h2 := HXR.out; dsimp only at h1; exact wrapI (by omega) (by omega))
              have hy9 := HY_1.out
              obtain ⟨g9, c9, eg9, hg9, hgl9, e0, e1, e2, hfz9⟩ := own_atK HO1.out hy9
              cases eg9
              have HGB9 := hid hg9
              obtain ⟨t0, t1, t2⟩ := HKL.out _ HB1.out
              have HOd := hid (Cx.own_stays HO1.out (below_drewN (Below.refl wt.heap.size wt) 1))
              have HBd := hid (below_drewN HB1.out 1)
              have s9 := HSa.out
              have f9 := hfz9 (j * 3 + 1)
              have HE9 := hid e1
              have HF9 := hid f9
              clear hy9 hg9 hgl9 hfz9 e0 t0
              go_wp2_with fail
              refine wp_region_qtail 15 (by kernel_rfl) (by kernel_rfl) ?_
              simp only [List.take_succ_cons, List.take_zero, List.drop_succ_cons, List.drop_zero]
              repeat go_big_quiet_step (fail)
              refine wpQuiet_nil ?_
              have d9 : (wt.drewN 1).cell? ⟨g, j * 3 + 1, none⟩ = some (.int .i64 ya) := HE9.out
              have f8 : (wt.drewN 1).frozen? ⟨g, j * 3 + 1, none⟩ = false := HF9.out
              have HO2 := hid (own_setA HOd.out HY_1.out (ya + x.a))
              have HB2 := hid (below_setX (j := j * 3 + 1) (u := .int .i64 (ya + x.a)) HBd.out HGB9.out)
              clear e1 e2 t1 t2 f9 HO1 HB1 HOd HBd HE9 HF9
              generalize wt.drewN 1 = wd at d9 f8 HO2 HB2 ⊢
              go_wp2_with fail
              clear d9 f8 s9 HGB9
              generalize wd.setCell ⟨g, j * 3 + 1, none⟩ (.int .i64 (ya + x.a)) = w4 at HO2 HB2 ⊢
              try dsimp only at HO2
              have HY_2 : Hid ((R1.set j ⟨ym, ya + x.a, yd⟩)[j]? = some ⟨ym, ya + x.a, yd⟩) := hid (by rw [List.getElem?_set_self (List.getElem?_eq_some_iff.1 HY_1.out).1])
              have hy9 := HY_2.out
              obtain ⟨g9, c9, eg9, hg9, hgl9, e0, e1, e2, hfz9⟩ := own_atK HO2.out hy9
              cases eg9
              have HGB9 := hid hg9
              obtain ⟨t0, t1, t2⟩ := HKL.out _ HB2.out
              have HOd := hid (Cx.own_stays HO2.out (below_drewN (Below.refl w4.heap.size w4) 1))
              have HBd := hid (below_drewN HB2.out 1)
              have s9 := HSd.out
              have f9 := hfz9 (j * 3 + 2)
              have HE9 := hid e2
              have HF9 := hid f9
              clear hy9 hg9 hgl9 hfz9 e0 t0
              go_wp2_with fail
              refine wp_region_qtail 15 (by kernel_rfl) (by kernel_rfl) ?_
              simp only [List.take_succ_cons, List.take_zero, List.drop_succ_cons, List.drop_zero]
              repeat go_big_quiet_step (fail)
              refine wpQuiet_nil ?_
              have d9 : (w4.drewN 1).cell? ⟨g, j * 3 + 2, none⟩ = some (.int .i64 yd) := HE9.out
              have f8 : (w4.drewN 1).frozen? ⟨g, j * 3 + 2, none⟩ = false := HF9.out
              have HO3 := hid (own_setD HOd.out HY_2.out (yd + x.d))
              have HB3 := hid (below_setX (j := j * 3 + 2) (u := .int .i64 (yd + x.d)) HBd.out HGB9.out)
              clear e1 e2 t1 t2 f9 HO2 HB2 HOd HBd HE9 HF9
              generalize w4.drewN 1 = wd at d9 f8 HO3 HB3 ⊢
              go_wp2_with fail
              clear d9 f8 s9 HGB9
              generalize wd.setCell ⟨g, j * 3 + 2, none⟩ (.int .i64 (yd + x.d)) = w5 at HO3 HB3 ⊢
              try dsimp only at HO3
              go_roundw
              case rel => exact ⟨k + 1, by omega, by go_num, hid (by
                  show World.ownsRow _ _ _ _ _ _ _
                  have h9 := HO3.out
                  rw [List.set_set, HRR.out] at h9
                  rw [HT1.out, addK_at HY.out HYX.out HNO.out, List.length_set, ← HRL.out]
                  exact h9), HB3⟩
              case measure => simp [intOf]; omega
            · have hne : (y.nm.toList == x.nm.toList) = false := by
                rw [beq_eq_false_iff_ne, ByteArray.toList_eq, ByteArray.toList_eq]
                exact fun e => hyx (ba_ext (by first | exact e | simpa using e))
              have HY := hid hy
              have HYX := hid hyx
              go_wp2_with fail
              go_quiet (fail)
              have HB1 := hid (below_drewN HBw.out nq)
              have HO1 := hid (Cx.own_stays HOw.out (below_drewN (Below.refl wr.heap.size wr) nq))
              clear e0 e1 e2 hfz hg hgl t0 t1 t2 HBw HOw hy hyx hne
              generalize wr.drewN nq = wt at HB1 HO1 ⊢
              go_wp2_with fail
              go_roundw
              case rel => exact ⟨j + 1, by omega, by go_num, hid (fun i z hi hz => by
                by_cases hij : i = j
                · subst hij
                  rw [HY.out] at hz
                  cases hz
                  exact HYX.out
                · exact HNO.out i z (by omega) hz), HO1, HB1⟩
              case measure => simp [intOf]; omega
          · have hje : j = r := by omega
            subst hje
            have j2 : ¬ ((j : Int) < (j : Int)) := by omega
            have HNM : Hid (x.nm ∉ nms R) := hid (fun hmem => by
              obtain ⟨y, hy, e⟩ := List.mem_map.1 hmem
              obtain ⟨i, hi9⟩ := List.mem_iff_getElem?.1 hy
              exact HNO.out i y (by have := (List.getElem?_eq_some_iff.1 hi9).1; have := HRL.out; omega) hi9 e)
            clear t0 t1 t2
            go_wp2_with fail
            go_quiet (fail)
            have HB0 := hid (below_drewN HBw.out nq)
            have HO0 := hid (Cx.own_stays HOw.out (below_drewN (Below.refl wr.heap.size wr) nq))
            clear HBw HOw
            generalize wr.drewN nq = w6 at HB0 HO0 ⊢
            obtain ⟨t0, t1, t2⟩ := HKL.out _ HB0.out
            have HBA := hid (HB0.out.alloc HB0.out.size (.cells #[.string x.nm, .int .i64 0, .int .i64 0] 37))
            have HOC : Hid (OwnR (w6.alloc (.cells #[.string x.nm, .int .i64 0, .int .i64 0] 37)) w.heap.size (.slice ao j co) R) := hid (by
              have h9 := Cx.own_stays HO0.out ((Below.refl w6.heap.size w6).alloc (Nat.le_refl _) (.cells #[.string x.nm, .int .i64 0, .int .i64 0] 37))
              show World.ownsRow _ _ _ _ _ _ _
              rw [← HRL.out]
              exact h9)
            have HFT : Hid (R.length ≤ 1000000000) := hid (by rw [← HRL.out]; omega)
            go_wp2_with (at_builtin; refine wpList_append_ct rfl _ _ rfl w.heap.size _ R rfl HOC.out w6.heap.size ⟨x.nm, 0, 0⟩ rfl (heap_alloc_new w6 _) HFT.out HBA.out.size ?_; intro v7 w7 ho7 hb7; obtain ⟨a7, c7, e7⟩ := own_shape ho7; subst e7; have HO7 := hid ho7; have HB1 := hid (HBA.out.trans hb7); obtain ⟨rr, hrr⟩ : ∃ rr, rr = (R ++ [(⟨x.nm, 0, 0⟩ : Ct)]).length := ⟨_, rfl⟩; rw [← hrr]; have HRQ := hid hrr; clear ho7 hb7 hrr)
            obtain ⟨ym, hym⟩ : ∃ ym, ym = x.nm := ⟨_, rfl⟩
            obtain ⟨ya, hya⟩ : ∃ ya : Int, ya = 0 := ⟨_, rfl⟩
            obtain ⟨yd, hyd⟩ : ∃ yd : Int, yd = 0 := ⟨_, rfl⟩
            obtain ⟨R1, hR1⟩ : ∃ R1, R1 = R ++ [(⟨ym, ya, yd⟩ : Ct)] := ⟨_, rfl⟩
            have HO1 : Hid (w7.ownsRow w.heap.size 37 3 (.slice a7 rr c7) rr (ctsC R1)) := hid (by
              rw [hR1, hym, hya, hyd, HRQ.out]
              exact HO7.out)
            have HY_1 : Hid (R1[j]? = some ⟨ym, ya, yd⟩) := hid (by rw [hR1, HRL.out]; simp)
            have j3 : (j : Int) < (rr : Int) := by
              have h9 := HRQ.out
              rw [List.length_append, List.length_singleton, ← HRL.out] at h9
              omega
            have HSa : Hid (IntKind.i64.wrap (ya + x.a) = ya + x.a) := hid (by have h2 := HXR.out; exact wrapI (by omega) (by omega))
            have HSd : Hid (IntKind.i64.wrap (yd + x.d) = yd + x.d) := hid (by have h2 := HXR.out; exact wrapI (by omega) (by omega))
            have HEQ : Hid (addK R x = (R1.set j ⟨ym, ya + x.a, yd⟩).set j ⟨ym, ya + x.a, yd + x.d⟩ ∧ rr = (addK R x).length) := hid (by
              have e9 : (⟨x.nm, x.a, x.d⟩ : Ct) = x := rfl
              have h1 : addK R x = (R1.set j ⟨ym, ya + x.a, yd⟩).set j ⟨ym, ya + x.a, yd + x.d⟩ := by
                rw [addK_new HNM.out, List.set_set, hR1, HRL.out, hym, hya, hyd, Int.zero_add, Int.zero_add, e9, List.set_append_right _ _ (Nat.le_refl _), Nat.sub_self]
                rfl
              refine ⟨h1, ?_⟩
              rw [addK_new HNM.out, HRQ.out, List.length_append, List.length_append]
              rfl)
            clear hR1 hym hya hyd HO7 HOC HBA HO0 HB0 t0 t1 t2
            obtain ⟨g, c8, e8, hg8, hgl8, e0, e1, e2, hfz8⟩ := own_atK HO1.out HY_1.out
            cases e8
            clear hg8 hgl8 e0 e1 e2 hfz8
            obtain ⟨wt, hwt⟩ : ∃ wt, wt = w7 := ⟨_, rfl⟩
            subst hwt
            have hy9 := HY_1.out
            obtain ⟨g9, c9, eg9, hg9, hgl9, e0, e1, e2, hfz9⟩ := own_atK HO1.out hy9
            cases eg9
            have HGB9 := hid hg9
            obtain ⟨t0, t1, t2⟩ := HKL.out _ HB1.out
            have HOd := hid (Cx.own_stays HO1.out (below_drewN (Below.refl wt.heap.size wt) 1))
            have HBd := hid (below_drewN HB1.out 1)
            have s9 := HSa.out
            have f9 := hfz9 (j * 3 + 1)
            have HE9 := hid e1
            have HF9 := hid f9
            clear hy9 hg9 hgl9 hfz9 e0 t0
            go_wp2_with fail
            refine wp_region_qtail 15 (by kernel_rfl) (by kernel_rfl) ?_
            simp only [List.take_succ_cons, List.take_zero, List.drop_succ_cons, List.drop_zero]
            repeat go_big_quiet_step (fail)
            refine wpQuiet_nil ?_
            have d9 : (wt.drewN 1).cell? ⟨g, j * 3 + 1, none⟩ = some (.int .i64 ya) := HE9.out
            have f8 : (wt.drewN 1).frozen? ⟨g, j * 3 + 1, none⟩ = false := HF9.out
            have HO2 := hid (own_setA HOd.out HY_1.out (ya + x.a))
            have HB2 := hid (below_setX (j := j * 3 + 1) (u := .int .i64 (ya + x.a)) HBd.out HGB9.out)
            clear e1 e2 t1 t2 f9 HO1 HB1 HOd HBd HE9 HF9
            generalize wt.drewN 1 = wd at d9 f8 HO2 HB2 ⊢
            go_wp2_with fail
            clear d9 f8 s9 HGB9
            generalize wd.setCell ⟨g, j * 3 + 1, none⟩ (.int .i64 (ya + x.a)) = w4 at HO2 HB2 ⊢
            try dsimp only at HO2
            have HY_2 : Hid ((R1.set j ⟨ym, ya + x.a, yd⟩)[j]? = some ⟨ym, ya + x.a, yd⟩) := hid (by rw [List.getElem?_set_self (List.getElem?_eq_some_iff.1 HY_1.out).1])
            have hy9 := HY_2.out
            obtain ⟨g9, c9, eg9, hg9, hgl9, e0, e1, e2, hfz9⟩ := own_atK HO2.out hy9
            cases eg9
            have HGB9 := hid hg9
            obtain ⟨t0, t1, t2⟩ := HKL.out _ HB2.out
            have HOd := hid (Cx.own_stays HO2.out (below_drewN (Below.refl w4.heap.size w4) 1))
            have HBd := hid (below_drewN HB2.out 1)
            have s9 := HSd.out
            have f9 := hfz9 (j * 3 + 2)
            have HE9 := hid e2
            have HF9 := hid f9
            clear hy9 hg9 hgl9 hfz9 e0 t0
            go_wp2_with fail
            refine wp_region_qtail 15 (by kernel_rfl) (by kernel_rfl) ?_
            simp only [List.take_succ_cons, List.take_zero, List.drop_succ_cons, List.drop_zero]
            repeat go_big_quiet_step (fail)
            refine wpQuiet_nil ?_
            have d9 : (w4.drewN 1).cell? ⟨g, j * 3 + 2, none⟩ = some (.int .i64 yd) := HE9.out
            have f8 : (w4.drewN 1).frozen? ⟨g, j * 3 + 2, none⟩ = false := HF9.out
            have HO3 := hid (own_setD HOd.out HY_2.out (yd + x.d))
            have HB3 := hid (below_setX (j := j * 3 + 2) (u := .int .i64 (yd + x.d)) HBd.out HGB9.out)
            clear e1 e2 t1 t2 f9 HO2 HB2 HOd HBd HE9 HF9
            generalize w4.drewN 1 = wd at d9 f8 HO3 HB3 ⊢
            go_wp2_with fail
            clear d9 f8 s9 HGB9
            generalize wd.setCell ⟨g, j * 3 + 2, none⟩ (.int .i64 (yd + x.d)) = w5 at HO3 HB3 ⊢
            try dsimp only at HO3
            go_roundw
            case rel => exact ⟨k + 1, by omega, by go_num, hid (by
                show World.ownsRow _ _ _ _ _ _ _
                have h9 := HO3.out
                rw [HT1.out, ← HEQ.out.2, HEQ.out.1]
                exact h9), HB3⟩
            case measure => simp [intOf]; omega
      · have hke : k = n := by omega
        subst hke
        have i2 : ¬ ((k : Int) < (k : Int)) := by omega
        have HE : Hid (sumK (l.take k) = Z) := hid (by rw [HZZ.out, List.take_of_length_le (Nat.le_of_eq HN.out.symm)])
        rw [HE.out] at HO
        go_wp2_with fail
        go_ret2
        exact ⟨_, rfl, HO.out, HB.out⟩
end Go.Proofs.YtnbonghlmdnabaaDoor.Sx
