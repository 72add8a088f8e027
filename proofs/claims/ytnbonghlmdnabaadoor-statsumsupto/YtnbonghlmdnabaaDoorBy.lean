/-
  The walk of the program's Sum (ST6).
-/
import Derived.Test.YtnbonghlmdnabaaDoorBv
import Derived.Test.YtnbonghlmdnabaaDoorBk
namespace Go.Proofs.YtnbonghlmdnabaaDoor.Sx
open Go.RowKit
open Go.Maps (Keyed Tidy)

def sumE (l : List Ct) : Value := if okL l = true then .nilIface else .iface 57 (.int .i64 1)
theorem wpList_append_ck {w : World} {ops : Array Oper} {rest : List Oper} {o : Oper} {a : Act} {Q : Exit → Act → World → Prop} (hgd : o.guard = none) (s x : Operand)
    (ho : o.op = .call { callee := .builtin .append, args := #[s, x], argTypes := #[23, 23] }) (B : Nat) (v : Value) (l : List Ct) (hs : a.eval s = v) (hown : OwnK w B v l)
    (g : Nat) (c : Ct) (hx : a.eval x = .slice (some ⟨g, 0, none⟩) 1 1) (hg : w.heap[g]? = some (.cells #[.string c.nm, .int .i64 c.a, .int .i64 c.d] 38)) (hfit : l.length ≤ 1000000000) (hB : B ≤ w.heap.size)
    (h : ∀ v' w', OwnK w' B v' (l ++ [c]) → Below B w w' → w.grownBy w' v.ownBlock → wpList Tryd.prog ops Q rest (a.put o.dst v') w') : wpList Tryd.prog ops Q (o :: rest) a w := by
  obtain ⟨i0, hi, hz0, hz1, hz2⟩ := info_parts Tryd.infoCt
  refine wpList_append_lies _ hgd s x 23 ho B 38 i0 (.agg #[.string .empty, .int .i64 0, .int .i64 0]) 3 32 Tryd.underlying23 hi hz0 hz1 hz2 rfl (by decide) v l.length (ctsC l) hs hown ⟨g, 0, none⟩ 1 1 (ctC c) hx rfl ?_ ?_ ?_ ?_ ?_ hB w.heap.size rfl ?_
  · exact World.news_of_block (cs := #[.string c.nm, .int .i64 c.a, .int .i64 c.d]) hg
  · simp [ctC, Value.oneCell']
  · omega
  · unfold maxLen; omega
  · omega
  · intro g' cap w' g2 g3 _ _
    refine h _ w' ?_ ((Below.refl _ _).grown g3 hB (Cx.own_ge hown)) g3
    show w'.ownsRow _ _ _ _ _ _
    rw [List.length_append, ctsC_append]
    exact g2
theorem grown_setX (w : World) (b k : Nat) (u : Value) : w.grownBy (w.setCell ⟨b, k, none⟩ u) (some b) := ⟨by simp [World.setCell], by simp [World.setCell], by simp [World.setCell], by simp [World.setCell], fun i _ hne => Below.heap_setCell _ _ _ _ (fun e => hne (by rw [e]))⟩
/-- a whole count written over another of the same name -/
theorem own_set3 {w : World} {B g n c k : Nat} {e : TypeId} {l : List Ct} {y : Ct} (h : w.ownsRow B e 3 (.slice (some ⟨g, 0, none⟩) n c) n (ctsC l)) (hy : l[k]? = some y) (za zd : Int) : (((w.setCell ⟨g, k * 3, none⟩ (.string y.nm)).setCell ⟨g, k * 3 + 1, none⟩ (.int .i64 za)).setCell ⟨g, k * 3 + 2, none⟩ (.int .i64 zd)).ownsRow B e 3 (.slice (some ⟨g, 0, none⟩) n c) n (ctsC (l.set k ⟨y.nm, za, zd⟩)) := by
  have hk := (List.getElem?_eq_some_iff.1 hy).1
  have h1 := own_setX (j := k * 3) h (.string y.nm)
  rw [ctsC_setN y.nm hy] at h1
  have h2 := own_setA h1 (x := ⟨y.nm, y.a, y.d⟩) (by rw [List.getElem?_set_self hk]) za
  have h3 := own_setD h2 (x := ⟨y.nm, za, y.d⟩) (by rw [List.getElem?_set_self (by rw [List.length_set]; exact hk)]) zd
  rw [List.set_set, List.set_set] at h3
  exact h3
set_option maxHeartbeats 4000000 in
set_option maxRecDepth 100000 in
theorem sum_any {w : World} {v : Value} {l : List Ct} (hr : RdK w v l) (hn : l.length ≤ 1099511627776) (hs : ∀ x ∈ l, x.nm.size ≤ maxLen) :
    Calls Tryd.prog 4 #[v] w fun e w' => ∃ v', e = .returned (.tuple #[v', sumE l]) ∧ OwnK w' w.heap.size v' (sumS l) ∧ Below w.heap.size w w' := by
  have HT := hid (inAll_any hr hn)
  have HR0 := hid hr
  obtain ⟨i0, hi, hz0, hz1, hz2⟩ := info_parts Tryd.infoCt
  obtain ⟨a, c, rfl⟩ := hr.shape
  unfold sumE sumS
  cases hok : okL l with
  | false =>
    rw [(all_no hok).1, (all_no hok).2] at HT
    obtain ⟨n, hnn⟩ : ∃ n, n = l.length := ⟨_, rfl⟩
    rw [← hnn] at HT ⊢
    clear hok hr hnn HR0 hs
    go_enter Tryd.func4, Tryd.ntmps4
    go_wp2_with fail
    refine HT.out.mono ?_
    rintro e w1 ⟨rfl, hb1⟩
    have HB := hid (hb1.alloc hb1.size (.cells #[.string ⟨#[]⟩, .int .i64 0, .int .i64 0] 38))
    clear hb1
    go_wp2_with fail
    go_ret2
    exact ⟨_, rfl, World.ownsRow_nil _ _ _ _, HB.out⟩
  | true =>
    rw [(all_yes hok).1, (all_yes hok).2] at HT
    rw [if_pos rfl, if_pos rfl]
    have HOKL := hid hok
    have HALL := hid (okL_iff.1 hok).2.1
    have hlen := (okL_iff.1 hok).1
    have HSN := hid hs
    obtain ⟨n, hnn⟩ : ∃ n, n = l.length := ⟨_, rfl⟩
    have HN := hid hnn
    rw [← hnn] at HT hlen HR0 ⊢
    obtain ⟨Z, hZZ⟩ : ∃ Z, Z = sumK l := ⟨_, rfl⟩
    have HZZ := hid hZZ
    rw [← hZZ]
    generalize sumA l = sa at HT
    generalize sumD l = sd at HT
    clear hok hr hnn hn hZZ hs
    have hmm := @run_makeMap Tryd.prog
    go_enter Tryd.func4, Tryd.ntmps4
    go_wp2_with fail
    refine HT.out.mono ?_
    rintro e w1 ⟨rfl, hb1⟩
    have hb2 := hb1.alloc hb1.size (.cells #[.string ⟨#[]⟩, .int .i64 sa, .int .i64 sd] 38)
    have HB2 := hid hb2
    have hs4 : (w1.alloc (.cells #[.string ⟨#[]⟩, .int .i64 sa, .int .i64 sd] 38)).heap.size = w1.heap.size + 1 := by simp
    have HMN := hid (MapAt.new (w1.alloc (.cells #[.string ⟨#[]⟩, .int .i64 sa, .int .i64 sd] 38)))
    have HNB := hid (one_new (w1.alloc (.cells #[.string ⟨#[]⟩, .int .i64 sa, .int .i64 sd] 38)) (.map #[] 0))
    clear hb1 hb2 HT
    go_wp2_with fail
    clear hmm
    rw [hs4] at HMN HNB
    obtain ⟨M, hM⟩ : ∃ M, M = w1.heap.size + 1 := ⟨_, rfl⟩
    have HBA : Hid (Below w.heap.size w ((w1.alloc (.cells #[.string ⟨#[]⟩, .int .i64 sa, .int .i64 sd] 38)).alloc (.map #[] 0))) := hid (HB2.out.trans (HNB.out.1.mono (by have := HB2.out.size; rw [hs4] at this; exact this)))
    have HMS : Hid (w.heap.size ≤ M ∧ M + 1 ≤ ((w1.alloc (.cells #[.string ⟨#[]⟩, .int .i64 sa, .int .i64 sd] 38)).alloc (.map #[] 0)).heap.size) := hid ⟨by have := HB2.out.size; rw [hs4] at this; omega, by rw [hM]; simp⟩
    rw [← hM] at HMN ⊢
    clear HNB HB2 hs4 hM
    generalize (w1.alloc (.cells #[.string ⟨#[]⟩, .int .i64 sa, .int .i64 sd] 38)).alloc (.map #[] 0) = w5 at HBA HMN HMS ⊢
    go_loopw [6, 23] (fun o i wr => ∃ k : Nat, k ≤ n ∧ i = .int .i64 k ∧ Hid (OwnK wr (M + 1) o (sumK (l.take k))) ∧ Hid (MapAt wr M (kys (sumK (l.take k)))) ∧ Hid (Below w.heap.size w wr) ∧ Hid (M + 1 ≤ wr.heap.size)) (fun _ i _ => n - (intOf i).toNat)
    case atStart => exact ⟨0, Nat.zero_le _, rfl, hid (World.ownsRow_nil _ _ _ _), HMN, HBA, hid HMS.out.2⟩
    case round =>
      obtain ⟨k, hk, rfl, HO, HMP, HB, HSZ⟩ := hrel
      clear HMN HBA
      by_cases hlt : k < n
      · obtain ⟨x, hx⟩ : ∃ x, l[k]? = some x := ⟨_, List.getElem?_eq_getElem (by have := HN.out; omega)⟩
        have hxl := List.mem_of_getElem? hx
        obtain ⟨b1, o1, e1, hb1, g0, g1, g2⟩ := rdK_at (by have := RdX.below HR0.out HB.out; exact this) hx
        subst e1
        have HT1 := hid (sumK_take hx)
        have HXR := hid (okC_iff.1 (List.all_eq_true.1 HALL.out x hxl))
        have HSM := hid (fun y (hy : y ∈ sumK (l.take k)) => sum_small HOKL.out k hy)
        have hRl : (sumK (l.take k)).length ≤ 65536 := by have := sumK_len (l.take k); rw [List.length_take] at this; omega
        obtain ⟨R, hR⟩ : ∃ R, R = sumK (l.take k) := ⟨_, rfl⟩
        rw [← hR] at HO HT1 HSM hRl HMP
        obtain ⟨ao, co, e⟩ := own_shape HO.out
        subst e
        obtain ⟨r, hr⟩ : ∃ r, r = R.length := ⟨_, rfl⟩
        have HRL := hid hr
        have HO0 : Hid (wr.ownsRow (M + 1) 38 3 (.slice ao r co) r (ctsC R)) := hid (by rw [hr]; exact HO.out)
        rw [← hr] at hRl ⊢
        have HKEY : Hid (keyOf Tryd.prog 9 (.string x.nm) = some (.string x.nm.data.toList)) := hid (by
          have h9 := Go.WideMaps.keyOf_string_mk (P := Tryd.prog) (s := x.nm) Tryd.underlying9 (HSN.out x hxl)
          exact h9)
        have HNB := hid (one_new wr (ctO x.nm x.a x.d))
        have i1 : (0 : Int) ≤ (k : Int) := by omega
        have i2 : (k : Int) < (n : Int) := by omega
        clear hx hxl hR HO hr
        have HE9 : Hid ((wr.alloc (ctO x.nm x.a x.d)).heap[wr.heap.size]? = some (ctO x.nm x.a x.d)) := hid HNB.out.2
        have HO6 := hid (Cx.own_stays HO0.out HNB.out.1)
        have HM6 := hid (HMP.out.stays HNB.out.1)
        have HB6 := hid (HB.out.trans (HNB.out.1.mono HB.out.size))
        have HS6 : Hid (M + 1 ≤ (wr.alloc (ctO x.nm x.a x.d)).heap.size) := hid (Nat.le_trans HSZ.out HNB.out.1.size)
        clear HNB HO0 HMP HB
        obtain ⟨D, hown, hkn⟩ := HM6.out
        have hhas := (hkn.2.2 x.nm.data.toList).1
        have HKN := hid hkn
        have hsz := hkn.2.1
        clear hkn
        have HKL := hid (kys_len R)
        generalize hks : kys R = ks at hown hhas hsz HKN HM6 HKL
        by_cases hmem : x.nm.data.toList ∈ ks
        · rw [decide_eq_true hmem] at hhas
          go_wp2_with (at_lookup; refine wpList_lookup_own_ok_int _ rfl _ _ 43 rfl 9 3 .i64 strLaw Tryd.underlying43 Tryd.underlying3 (zeroInt _) M ks.length D rfl hown _ _ rfl HKEY.out ?_; intro c9 hat hwc)
          have hc9 : c9 = ((kys R).idxOf x.nm.data.toList : Int) := by
            have h1 := (HKN.out.2.2 x.nm.data.toList).2 hmem
            rw [hat] at h1
            rw [hks]
            simpa using h1
          have hmm2 : x.nm ∈ nms R := kys_mem.1 (by rw [hks]; exact hmem)
          obtain ⟨j, y, hj, hy, hyx, hno⟩ := kys_at hmm2
          rw [hj] at hc9
          subst hc9
          have HNO := hid hno
          have HY := hid hy
          have HYX := hid hyx
          have HSY := hid (HSM.out y (List.mem_of_getElem? hy))
          have hjr : j < r := by have := (List.getElem?_eq_some_iff.1 hy).1; have := HRL.out; omega
          obtain ⟨g, c8, e8, hg8, hgl8, e0, e1, e2, hfz8⟩ := own_atK HO6.out hy
          cases e8
          clear e0 e1 e2 hg8 hgl8 hfz8 hy hyx hno hwc hat hown hhas hsz
          obtain ⟨ym, ya, yd⟩ := y
          have HP := hid (fun w' => ctPlus_any ⟨ym, ya, yd⟩ x w' (by have h1 := HSY.out; have h2 := HXR.out; dsimp only at h1 ⊢; omega) (by have h1 := HSY.out; have h2 := HXR.out; dsimp only at h1 ⊢; omega))
          unfold CtV at HP
          dsimp only at HP
          obtain ⟨E, hE⟩ : ∃ E, E = wr.heap.size := ⟨_, rfl⟩
          rw [← hE] at HE9 ⊢
          clear hE
          generalize wr.alloc (.cells #[.string x.nm, .int .i64 x.a, .int .i64 x.d] 38) = w6 at HE9 HO6 HM6 HB6 HS6 ⊢
          obtain ⟨g9, c9, e9, hg9, hgl9, e0, e1, e2, hfz9⟩ := own_atK HO6.out HY.out
          cases e9
          have z0 : w6.cell? ⟨E, 0, none⟩ = some (.string x.nm) := cell_of_blk HE9.out 0
          have z1 : w6.cell? ⟨E, 1, none⟩ = some (.int .i64 x.a) := cell_of_blk HE9.out 1
          have z2 : w6.cell? ⟨E, 2, none⟩ = some (.int .i64 x.d) := cell_of_blk HE9.out 2
          have j0 : (0 : Int) ≤ (j : Int) := by omega
          have j1 : (j : Int) < (r : Int) := by omega
          have HBd : Hid (Below w6.heap.size w6 w6.drew) := hid (below_drewN (Below.refl w6.heap.size w6) 1)
          have HGG := hid hg9
          clear hfz9 hg9 hgl9 hmem hmm2 hj
          go_region_with (go_at_call 12; refine (HP.out _).mono ?_; rintro e9 w7 ⟨rfl, hb7⟩; have HB7 := hid (HBd.out.trans (hb7.mono HBd.out.size)); have HO7 := hid (Cx.own_stays HO6.out HB7.out); obtain ⟨g9, c9, e9, _, _, f0, f1, f2, ff⟩ := own_atK HO7.out HY.out; cases e9; have ff0 := ff (j * 3); have ff1 := ff (j * 3 + 1); have ff2 := ff (j * 3 + 2); clear ff hb7)
          all_goals
            have HO8 := hid (own_set3 HO7.out HY.out (ya + x.a) (yd + x.d))
            have hwg : w.heap.size ≤ g := by have := HGG.out; have := HMS.out.1; omega
            have HB8 := hid (below_setX (j := j * 3 + 2) (u := .int .i64 (yd + x.d)) (below_setX (j := j * 3 + 1) (u := .int .i64 (ya + x.a)) (below_setX (j := j * 3) (u := .string ym) (HB6.out.trans (HB7.out.mono HB6.out.size)) hwg) hwg) hwg)
            have hgM : some M ≠ some g := fun e => by have := HGG.out; cases e; omega
            have HM8 := hid ((((HM6.out.stays HB7.out).kept (grown_setX w7 g (j * 3) (.string ym)) hgM).kept (grown_setX _ g (j * 3 + 1) (.int .i64 (ya + x.a))) hgM).kept (grown_setX _ g (j * 3 + 2) (.int .i64 (yd + x.d))) hgM)
            have HS8 : Hid (M + 1 ≤ (((w7.setCell ⟨g, j * 3, none⟩ (.string ym)).setCell ⟨g, j * 3 + 1, none⟩ (.int .i64 (ya + x.a))).setCell ⟨g, j * 3 + 2, none⟩ (.int .i64 (yd + x.d))).heap.size) := hid (by have h1 := HB7.out.size; have h2 := HS6.out; simp [World.setCell]; omega)
            dsimp only at HO8
            clear f0 f1 f2 ff0 ff1 ff2 hwg hgM HO7 HB7 HO6 HM6 HB6 HS6 HE9 e0 e1 e2 z0 z1 z2
            generalize ((w7.setCell ⟨g, j * 3, none⟩ (.string ym)).setCell ⟨g, j * 3 + 1, none⟩ (.int .i64 (ya + x.a))).setCell ⟨g, j * 3 + 2, none⟩ (.int .i64 (yd + x.d)) = w8 at HO8 HB8 HM8 HS8 ⊢
            go_wp2_with fail
            go_roundw
            case rel => exact ⟨k + 1, by omega, by go_num, hid (by
              show World.ownsRow _ _ _ _ _ _ _
              rw [HT1.out, addK_at HY.out HYX.out HNO.out, List.length_set, ← HRL.out]
              exact HO8.out), hid (by
              rw [HT1.out, kys_add (by rw [← HYX.out]; exact List.mem_map_of_mem (List.mem_of_getElem? HY.out)), hks]
              exact HM8.out), HB8, HS8⟩
            case measure => simp [intOf]; omega
        · rw [decide_eq_false hmem] at hhas
          have hmm2 : x.nm ∉ nms R := fun h => hmem (by rw [← hks]; exact kys_mem.2 h)
          have hkl : ks.length = r := by rw [HKL.out, ← HRL.out]
          have HMEM := hid hmem
          have HNM := hid hmm2
          have hEM : some wr.heap.size ≠ some M := fun e => by have := HSZ.out; cases e; omega
          have hnM : (Value.slice ao r co).ownBlock ≠ some M := fun e => by have := Cx.own_ge HO6.out M e; omega
          have hEl : wr.heap.size < (wr.alloc (.cells #[.string x.nm, .int .i64 x.a, .int .i64 x.d] 38)).heap.size := lt_of_heap HE9.out
          have hMw : w.heap.size ≤ M := HMS.out.1
          have HEM := hid hEM
          have HNB := hid hnM
          have HEL := hid hEl
          have HKL2 := hid hkl
          have HFT : Hid (R.length ≤ 1000000000) := hid (by rw [← HRL.out]; omega)
          have HRO : Hid (∀ W : World, W.ownsRow (M + 1) 38 3 (.slice ao r co) r (ctsC R) → OwnK W (M + 1) (.slice ao r co) R) := hid (fun W h => by
            show World.ownsRow _ _ _ _ _ _ _
            rw [← HRL.out]
            exact h)
          have HSS : Hid (∀ W : World, (wr.alloc (.cells #[.string x.nm, .int .i64 x.a, .int .i64 x.d] 38)).grownBy W (some M) → M + 1 ≤ (W.alloc (.cells #[.string x.nm, .int .i64 x.a, .int .i64 x.d] 38)).heap.size) := hid (fun W h => by
            have h2 := h.size
            have h3 := HS6.out
            have h4 := ((Below.refl W.heap.size W).alloc (Nat.le_refl _) (.cells #[.string x.nm, .int .i64 x.a, .int .i64 x.d] 38)).size
            exact Nat.le_trans h3 (Nat.le_trans h2 h4))
          have HMP2 : Hid (∀ W : World, W.ownsMap Tryd.prog 9 (plainElem Tryd.prog 3) M (ks.length + 1) (D.put (.string x.nm.data.toList) (.lit (.int .i64 r))) → MapAt W M (ks ++ [x.nm.data.toList])) := hid (fun W h => by
            rw [← HKL2.out] at h
            exact ⟨_, by rw [List.length_append]; exact h, HKN.out.put HMEM.out⟩)
          clear hmem hmm2 hEM hnM hEl
          go_wp2_with (first | (at_lookup; refine wpList_lookup_own_ok_int _ rfl _ _ 43 rfl 9 3 .i64 strLaw Tryd.underlying43 Tryd.underlying3 (zeroInt _) M ks.length D rfl hown _ _ rfl HKEY.out ?_; intro c9 hat hwc) | (at_mapUpdate; refine wpList_mapUpdate_own _ rfl _ _ _ 43 rfl 9 3 strLaw Tryd.underlying43 _ M ks.length D rfl hown (by unfold maxLen; have := HKL2.out; omega) _ _ _ rfl rfl HKEY.out (.lit (.int .i64 r)) [] (plainElem_int Tryd.underlying3 (WalkArith.wf_i64 (by omega))) ?_; intro w2 hown2 hg2; have z0 : w2.cell? ⟨wr.heap.size, 0, none⟩ = some (.string x.nm) := (hg2.cell_far ⟨wr.heap.size, 0, none⟩ HEL.out HEM.out).trans (cell_of_blk HE9.out 0); have z1 : w2.cell? ⟨wr.heap.size, 1, none⟩ = some (.int .i64 x.a) := (hg2.cell_far ⟨wr.heap.size, 1, none⟩ HEL.out HEM.out).trans (cell_of_blk HE9.out 1); have z2 : w2.cell? ⟨wr.heap.size, 2, none⟩ = some (.int .i64 x.d) := (hg2.cell_far ⟨wr.heap.size, 2, none⟩ HEL.out HEM.out).trans (cell_of_blk HE9.out 2); have HOC : Hid (OwnK (w2.alloc (.cells #[.string x.nm, .int .i64 x.a, .int .i64 x.d] 38)) (M + 1) (.slice ao r co) R) := hid (HRO.out _ ((World.ownsRow.kept HO6.out hg2 (Or.inr HNB.out)).alloc _)); have HBS : Hid (M + 1 ≤ (w2.alloc (.cells #[.string x.nm, .int .i64 x.a, .int .i64 x.d] 38)).heap.size) := hid (HSS.out w2 hg2); have HM2 := hid (HMP2.out w2 hown2); have HB2 := hid (HB6.out.grown hg2 HB6.out.size (fun k e => by cases e; exact hMw)); clear hg2 hown2) | (at_builtin; refine wpList_append_ck rfl _ _ rfl (M + 1) _ R rfl HOC.out w2.heap.size x rfl (heap_alloc_new w2 _) HFT.out HBS.out ?_; intro v7 w7 ho7 hb7 hg7; have HO7 := hid ho7; have HB7 := hid hb7; have HG7 := hid hg7; clear ho7 hb7 hg7))
          have HB8 := hid ((HB2.out.alloc HB2.out.size (.cells #[.string x.nm, .int .i64 x.a, .int .i64 x.d] 38)).trans (HB7.out.mono (by omega)))
          have HM8 := hid (((HM2.out.stays ((Below.refl w2.heap.size w2).alloc (Nat.le_refl _) (.cells #[.string x.nm, .int .i64 x.a, .int .i64 x.d] 38))).kept HG7.out (Ne.symm HNB.out)))
          have HS8 : Hid (M + 1 ≤ w7.heap.size) := hid (Nat.le_trans HBS.out HB7.out.size)
          go_wp2_with fail
          go_roundw
          case rel => exact ⟨k + 1, by omega, by go_num, hid (by rw [HT1.out, addK_new HNM.out]; exact HO7.out), hid (by rw [HT1.out, kys_new HNM.out, hks]; exact HM8.out), HB8, HS8⟩
          case measure => simp [intOf]; omega
      · have hke : k = n := by omega
        subst hke
        have HE : Hid (sumK (l.take k) = Z) := hid (by rw [HZZ.out, List.take_of_length_le (Nat.le_of_eq HN.out.symm)])
        rw [HE.out] at HO
        have i2 : ¬ ((k : Int) < (k : Int)) := by omega
        go_wp2_with fail
        go_ret2
        exact ⟨_, rfl, own_mono HO.out (Nat.le_trans HMS.out.1 (Nat.le_succ _)), HB.out⟩
end Go.Proofs.YtnbonghlmdnabaaDoor.Sx
