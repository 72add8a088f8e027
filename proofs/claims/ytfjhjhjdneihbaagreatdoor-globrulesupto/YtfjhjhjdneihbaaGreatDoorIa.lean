/-
  The walk of the document's Ignored.
-/
import Derived.Test.YtfjhjhjdneihbaaGreatDoorI9
namespace Go.Proofs.YtfjhjhjdneihbaaGreatDoor
open Go.RowKit

/-- rules that are read -/
def DrRd (w : World) (B : Nat) (v : Value) (ds : List DR) : Prop := (ds = [] ∧ ∃ a c, v = .slice a 0 c) ∨ ∃ b o c, v = .slice (some ⟨b, o, none⟩) ds.length c ∧ ds.length ≤ c ∧ b < w.heap.size ∧ ∀ (j : Nat) d, ds[j]? = some d →
  w.cell? ⟨b, o + j * 4, none⟩ = some (.bool d.back) ∧ w.cell? ⟨b, o + j * 4 + 1, none⟩ = some (.bool d.dir) ∧ w.cell? ⟨b, o + j * 4 + 2, none⟩ = some (.bool d.rooted) ∧ ∃ u, w.cell? ⟨b, o + j * 4 + 3, none⟩ = some u ∧ (∃ a n c, u = .slice a n c) ∧ DpRd w B u d.ps
theorem DrRd.later {w w' : World} {B : Nat} {v : Value} {ds : List DR} (h : DrRd w B v ds) (hb : Below w.heap.size w w') : DrRd w' B v ds := by
  rcases h with h | ⟨b, o, c, hv, hc, hlt, hX⟩
  · exact .inl h
  · refine .inr ⟨b, o, c, hv, hc, Nat.lt_of_lt_of_le hlt hb.size, fun j q hj => ?_⟩
    obtain ⟨e1, e2, e3, u, e4, e5, e6⟩ := hX j q hj
    exact ⟨(hb.cell (p := ⟨b, _, none⟩) hlt).trans e1, (hb.cell (p := ⟨b, _, none⟩) hlt).trans e2, (hb.cell (p := ⟨b, _, none⟩) hlt).trans e3, u, (hb.cell (p := ⟨b, _, none⟩) hlt).trans e4, e5, e6.later hb⟩
theorem OwnDr.read {w : World} {B : Nat} {v : Value} {ds : List DR} (h : OwnDr w B v ds) : DrRd w B v ds := by
  obtain ⟨cs, h1, h2⟩ := h
  rcases h1.2 with ⟨hv, hn⟩ | ⟨g, cap, cur, hv, hg, hh, hc, hm, hsz, ht⟩
  · exact .inl ⟨List.length_eq_zero_iff.1 hn, none, 0, hv⟩
  · refine .inr ⟨g, 0, cap, hv, hc, lt_of_heap hh, fun j q hj => ?_⟩
    obtain ⟨x0, x1, x2, x3, e0, e1, e2, e3, r0, r1, r2, r3, r4⟩ := h2 j q hj
    have hcell : ∀ i y, cs[i]? = some y → w.cell? ⟨g, i, none⟩ = some y := fun i y hy => by
      rw [← ht, List.getElem?_take] at hy
      split at hy
      · have := cell_of_blk hh i
        rw [this, ← Array.getElem?_toList]; exact hy
      · cases hy
    rw [Nat.zero_add]
    exact ⟨by rw [hcell _ _ e0, r0], by rw [hcell _ _ e1, r1], by rw [hcell _ _ e2, r2], x3, hcell _ _ e3, r3, r4.read⟩
theorem DrRd.shape {w : World} {B : Nat} {v : Value} {ds : List DR} (h : DrRd w B v ds) : ∃ a c, v = .slice a ds.length c := by
  rcases h with ⟨h1, a, c, h2⟩ | ⟨b, o, c, h, _⟩
  · subst h1; exact ⟨a, c, h2⟩
  · exact ⟨_, _, h⟩
theorem DrRd.at {w : World} {B : Nat} {v : Value} {ds : List DR} (h : DrRd w B v ds) {j : Nat} {d : DR} (hj : ds[j]? = some d) : ∃ b o c u, v = .slice (some ⟨b, o, none⟩) ds.length c ∧ b < w.heap.size ∧
    w.cell? ⟨b, o + j * 4, none⟩ = some (.bool d.back) ∧ w.cell? ⟨b, o + j * 4 + 1, none⟩ = some (.bool d.dir) ∧ w.cell? ⟨b, o + j * 4 + 2, none⟩ = some (.bool d.rooted) ∧ w.cell? ⟨b, o + j * 4 + 3, none⟩ = some u ∧ (∃ a n c, u = .slice a n c) ∧ DpRd w B u d.ps := by
  rcases h with ⟨h1, _⟩ | ⟨b, o, c, hv, hc, hlt, hX⟩
  · subst h1; simp at hj
  · obtain ⟨e1, e2, e3, u, e4, e5, e6⟩ := hX j d hj
    exact ⟨b, o, c, u, hv, hlt, e1, e2, e3, e4, e5, e6⟩
theorem pieces_le (l : List UInt8) : ∀ x ∈ Pp.pieces l, x.length ≤ l.length := fun x h => piece_le l x h
theorem pieces_len (l : List UInt8) : (Pp.pieces l).length ≤ l.length + 1 := Pp.pieces_length l
theorem digP_yes {ds : List DR} {p : List UInt8} {dir : Bool} {k : Nat} (h1 : 1 ≤ k) (h2 : k ≤ (nms p).length) (h : digS ds ((nms p).take k) (dir || decide (k < (nms p).length)) = true) : digP ds p dir = true := by
  unfold digP
  rw [List.any_eq_true]
  refine ⟨k - 1, List.mem_range.2 (by omega), ?_⟩
  rw [show k - 1 + 1 = k by omega]
  exact h
theorem digP_no {ds : List DR} {p : List UInt8} {dir : Bool} (h : ∀ k, 1 ≤ k → k ≤ (nms p).length → digS ds ((nms p).take k) (dir || decide (k < (nms p).length)) = false) : digP ds p dir = false := by
  unfold digP
  rw [List.any_eq_false]
  intro i hi
  rw [h (i + 1) (by omega) (by have := List.mem_range.1 hi; omega)]
  exact Bool.false_ne_true
theorem fold_take {ds : List DR} {ns : List (List UInt8)} {dir : Bool} {j : Nat} {d : DR} (h : ds[j]? = some d) : (ds.take (j + 1)).foldl (dst1 ns dir) false = if dmn d ns dir then !d.back else (ds.take j).foldl (dst1 ns dir) false := by
  rw [List.take_add_one, h, List.foldl_append]
  rfl

set_option maxHeartbeats 3000000 in
set_option maxRecDepth 100000 in
theorem refIgnored_any (ds : List DR) (hF : ∀ d ∈ ds, Fine d) (hdl : ds.length ≤ 100000000) (hpl : ∀ d ∈ ds, d.ps.length ≤ 100000000) (p : ByteArray) (hp : p.size ≤ 9000000) (dir : Bool) (B : Nat) (w : World) (v : Value) (hv : DrRd w B v ds) :
    Calls Tryz.prog 8 #[v, .string p, .bool dir] w fun e w' => e = .returned (.bool (digP ds p.data.toList dir)) ∧ Below w.heap.size w w' := by
  obtain ⟨A, hA⟩ : ∃ A, A = Pp.pieces p.data.toList := ⟨_, rfl⟩
  obtain ⟨ns, hns⟩ : ∃ ns, ns = nms p.data.toList := ⟨_, rfl⟩
  have HC := hid (refCut_any p A hA.symm w (by omega))
  have HNA : Hid (ns = A.filter fun x => !x.isEmpty) := hid (by rw [hns, hA]; rfl)
  have hAl : A.length ≤ 9000001 := by have := pieces_len p.data.toList; rw [size_data] at this; rw [hA]; omega
  have hNl : ns.length ≤ 9000001 := by rw [HNA.out]; exact Nat.le_trans (List.length_filter_le _ _) hAl
  have HSZ : Hid (∀ x ∈ A, x.length ≤ 9000000) := hid (fun x hx => by
    have := pieces_le p.data.toList x (by rw [← hA]; exact hx)
    rw [size_data] at this; omega)
  have HSN : Hid (∀ x ∈ ns, x.length ≤ 10000000) := hid (fun x hx => by
    have := HSZ.out x (by rw [HNA.out] at hx; exact (List.mem_filter.1 hx).1)
    omega)
  obtain ⟨R, hR⟩ : ∃ R, R = digP ds p.data.toList dir := ⟨_, rfl⟩
  have HRY : Hid (∀ k, 1 ≤ k → k ≤ ns.length → digS ds (ns.take k) (dir || decide (k < ns.length)) = true → R = true) := hid (fun k h1 h2 h => by rw [hns] at h2 h; rw [hR]; exact digP_yes h1 h2 h)
  have HRN : Hid ((∀ k, 1 ≤ k → k ≤ ns.length → digS ds (ns.take k) (dir || decide (k < ns.length)) = false) → R = false) := hid (fun h => by rw [hns] at h; rw [hR]; exact digP_no h)
  rw [← hR]
  have HV := hid hv
  have HF := hid hF
  have HPL := hid hpl
  obtain ⟨av, cv, rfl⟩ := hv.shape
  clear hA hns hR hv hF hpl
  obtain ⟨T, hT⟩ : ∃ T, T = ds.length := ⟨_, rfl⟩
  have HT := hid hT
  rw [← hT] at HV hdl ⊢
  clear hT
  go_enter Tryz.func8, Tryz.ntmps8
  go_wp2_with fail
  refine HC.out.mono ?_
  rintro e w1 ⟨v6, rfl, hO6, hb1⟩
  have HRL := hid (rd_own hO6)
  have HB1 := hid hb1
  obtain ⟨a6, c6, e6⟩ := hO6.shape
  subst e6
  have hw1 : w.heap.size ≤ w1.heap.size := hb1.size
  clear hO6 hb1 HC
  go_wp2
  go_loopw [7, 9] (fun v i wr => ∃ (j : Nat) (done : List (List UInt8)), j ≤ A.length ∧ i = .int .i64 j ∧ done.length ≤ j ∧ Hid (ns = done ++ (A.drop j).filter fun x => !x.isEmpty) ∧ Hid (OwnS wr w1.heap.size v done) ∧ Hid (Below w1.heap.size w1 wr)) (fun _ i _ => A.length - (intOf i).toNat)
  case atStart => exact ⟨0, [], Nat.zero_le _, rfl, Nat.zero_le _, HNA, hid (OwnS.nil _ _), hid (Below.refl _ _)⟩
  case round =>
    obtain ⟨j, done, hj, rfl, hdn, HN, HO, HB⟩ := hrel
    by_cases hlt : j < A.length
    · obtain ⟨x, hx⟩ : ∃ x, A[j]? = some x := ⟨_, List.getElem?_eq_getElem hlt⟩
      obtain ⟨b6, o6, c7, xb, e6, hxb, hlt6, _, d6⟩ := (HRL.out.below HB.out).at (k := j) (by rw [BL_length]; exact hlt)
      rw [BL_length] at e6
      cases e6
      have hxs := HSZ.out x (List.mem_of_getElem? hx)
      have HXB : Hid (xb.data.toList = x) := hid (by rw [BL_get hx] at hxb; rw [← Option.some.inj hxb])
      have hxbs : xb.size ≤ 9000000 := by rw [← size_data, HXB.out]; exact hxs
      have HDR : Hid (A.drop j = x :: A.drop (j + 1)) := hid (by
        rw [List.drop_eq_getElem_cons hlt]
        rw [List.getElem?_eq_getElem hlt] at hx
        rw [Option.some.inj hx])
      have j1 : (0 : Int) ≤ (j : Int) := by omega
      have j2 : (j : Int) < (A.length : Int) := by omega
      have j3 : IntKind.i64.wrap ((j : Int) + 1) = (j : Int) + 1 := by rw [IntKind.wrap_i64]; omega
      clear hx hxb hxs
      by_cases hx0 : xb.size = 0
      · have he := empty_yes xb hx0
        have HN2 : Hid (ns = done ++ (A.drop (j + 1)).filter fun x => !x.isEmpty) := hid (by
          have hxe : x = [] := by rw [← HXB.out]; exact List.length_eq_zero_iff.1 (by rw [size_data]; exact hx0)
          rw [HN.out, HDR.out, hxe]; rfl)
        clear hx0 HN HDR
        go_wp2
        exact ⟨⟨j + 1, done, by omega, by push_cast; rfl, by omega, HN2, HO, HB⟩, by simp [intOf]; omega⟩
      · have he := empty_no xb hx0
        have HN2 : Hid (ns = (done ++ [xb.data.toList]) ++ (A.drop (j + 1)).filter fun x => !x.isEmpty) := hid (by
          have hxe : x ≠ [] := fun e => hx0 (by rw [← size_data, HXB.out, e]; rfl)
          rw [HN.out, HDR.out, List.filter_cons_of_pos (by cases x with | nil => exact absurd rfl hxe | cons _ _ => rfl), HXB.out, List.append_assoc]; rfl)
        have HBE : Hid (∀ x, Below wr.heap.size wr (wr.alloc (.cells #[.string x] 9))) := hid (fun x => (Below.refl _ _).alloc (Nat.le_refl _) _)
        clear hx0 HN HDR
        go_wp2_with (at_builtin; refine wpList_append_str rfl _ _ rfl w1.heap.size _ done rfl (HO.out.stays (HBE.out _)) ⟨wr.heap.size, 0, none⟩ 1 xb rfl (by rw [Go.WideShapes.add_plain]; exact cell_of_blk (heap_alloc_new wr _) 0) (by omega) (Nat.le_trans HB.out.size (HBE.out _).size) ?_; intro v1 w2 hO1 hg1 _; have HO1 := hid hO1; have HB2 := hid ((HB.out.trans ((HBE.out xb).mono HB.out.size)).grown hg1 (Nat.le_trans HB.out.size (HBE.out xb).size) HO.out.ge); clear hO1 hg1)
        exact ⟨⟨j + 1, _, by omega, by push_cast; rfl, by rw [List.length_append, List.length_singleton]; omega, HN2, HO1, HB2⟩, by simp [intOf]; omega⟩
    · obtain rfl : j = A.length := by omega
      have HN2 : Hid (ns = done) := hid (by rw [HN.out, List.drop_length]; simp)
      obtain ⟨w5, hw5⟩ : ∃ w5, w5 = wr := ⟨_, rfl⟩
      subst hw5
      have HRN2 := hid (rd_own HO.out)
      rw [← HN2.out] at HRN2
      obtain ⟨a7, c7, e7, hc7⟩ := rd_shape_cap HRN2.out
      subst e7
      rw [BL_length] at hc7 HRN2
      have HBW : Hid (Below w.heap.size w w5) := hid (HB1.out.trans (HB.out.mono hw1))
      have HV2 := hid (HV.out.later HBW.out)
      obtain ⟨N, hN⟩ : ∃ N, N = ns.length := ⟨_, rfl⟩
      have HNN := hid hN
      have hWr : w.heap.size ≤ w5.heap.size := HBW.out.size
      rw [← hN] at HRY HRN hc7 HRN2 hNl
      simp only [BL_length, ← hN]
      clear HN HN2 HO HRL HB HB1 HV hN HSZ HNA hAl hj hdn
      go_wp2
      go_loopw [10, 11, 12] (fun nn is ii ws => ∃ k : Nat, 1 ≤ k ∧ k ≤ N + 1 ∧ nn = .int .i64 k ∧ Hid (∀ q, 1 ≤ q → q < k → digS ds (ns.take q) (dir || decide (q < N)) = false) ∧ Hid (Below w5.heap.size w5 ws)) (fun nn _ _ _ => N + 1 - (intOf nn).toNat)
      case atStart => exact ⟨1, Nat.le_refl _, by omega, rfl, hid (fun q h1 h2 => by omega), hid (Below.refl _ _)⟩
      case round =>
        obtain ⟨k, hk1, hk2, rfl, HQ, HBK⟩ := hrel
        by_cases hkN : k ≤ N
        · have k1 : (k : Int) ≤ (N : Int) := by omega
          have k2 : (0 : Int) ≤ (k : Int) := by omega
          have k3 : IntKind.i64.wrap ((k : Int) + 1) = (k : Int) + 1 := by rw [IntKind.wrap_i64]; omega
          have k4 : (N : Int) ≤ (c7 : Int) := by omega
          have k5 : (k : Int) ≤ (c7 : Int) := by omega
          obtain ⟨nk, hnk⟩ : ∃ nk, nk = ns.take k := ⟨_, rfl⟩
          have HTK : Hid (Rd w5 (.slice a7 k c7) (BL nk)) := hid (by
            have := rd_take HRN2.out k (by rw [BL_length, ← HNN.out]; exact hkN)
            rw [BL_take, ← hnk] at this
            exact this)
          have hnkl : nk.length ≤ 10000000 := by rw [hnk, List.length_take]; omega
          have HSK : Hid (∀ x ∈ nk, x.length ≤ 10000000) := hid (fun x hx => HSN.out x (by rw [hnk] at hx; exact List.mem_of_mem_take hx))
          have HN0 : Hid (nk ≠ []) := hid (fun e => by
            have := congrArg List.length e
            rw [hnk, List.length_take, ← HNN.out] at this
            simp at this
            omega)
          obtain ⟨dd, hdd⟩ : ∃ dd, dd = (dir || decide (k < N)) := ⟨_, rfl⟩
          have HDD := hid hdd
          have HNK := hid hnk
          clear hdd hnk
          go_wp2
          go_loopw [11, 12] (fun is ii ws2 => ∃ (j : Nat) (bb : Bool), j ≤ T ∧ ii = .int .i64 j ∧ is = .bool bb ∧ Hid (bb = (ds.take j).foldl (dst1 nk dd) false) ∧ Hid (Below w5.heap.size w5 ws2)) (fun _ ii _ => T - (intOf ii).toNat)
          case atStart => exact ⟨0, false, Nat.zero_le _, rfl, rfl, hid rfl, HBK⟩
          case round =>
            obtain ⟨j, bb, hj, rfl, rfl, HBB, HBJ⟩ := hrel
            by_cases hlt : j < T
            · obtain ⟨d, hd⟩ : ∃ d, ds[j]? = some d := ⟨_, List.getElem?_eq_getElem (by rw [← HT.out]; exact hlt)⟩
              obtain ⟨b, o, c, u, e, hlb, x0, x1, x2, x3, ⟨a3, n3, c3, rfl⟩, hD⟩ := HV2.out.at hd
              rw [← HT.out] at e
              cases e
              have hmem := List.mem_of_getElem? hd
              have HM := hid (fun (W : World) (hW : Below w5.heap.size w5 W) => means_any d (HF.out d hmem) dd B W _ _ nk (hD.later hW) (HTK.out.below hW) HSK.out hnkl HN0.out (HPL.out d hmem))
              have HFD := hid (fold_take (ns := nk) (dir := dd) hd)
              rw [← HBB.out] at HFD
              have HX0 := hid x0
              have HX1 := hid x1
              have HX2 := hid x2
              have HX3 := hid x3
              have HLB := hid hlb
              have j1 : (0 : Int) ≤ (j : Int) := by omega
              have j2 : (j : Int) < (T : Int) := by omega
              have j3 : IntKind.i64.wrap ((j : Int) + 1) = (j : Int) + 1 := by rw [IntKind.wrap_i64]; omega
              generalize dmn d nk dd = mm at HM HFD
              clear x0 x1 x2 x3 hlb hD hmem hd HBB
              cases dir with
              | true =>
                obtain rfl : dd = true := HDD.out
                go_wp2
                refine wp_region_class (C := fun w' => Below w5.heap.size w5 w') (by kernel_rfl) (by kernel_rfl) (below_drewN HBJ.out 1) ?_
                refine wpQuiet_step (fun K hK => ?_)
                go_simp
                refine ⟨_, fun _ _ => rfl, hK _ ?_⟩
                clear hK K
                refine wpQuiet_step (fun K hK => ?_)
                go_simp
                refine ⟨_, fun _ _ => rfl, hK _ ?_⟩
                clear hK K
                refine wpQuiet_step (fun K hK => ?_)
                go_simp
                refine ⟨_, fun _ _ => rfl, hK _ ?_⟩
                clear hK K
                refine wpQuiet_step (fun K hK => ?_)
                rw [if_pos (by rfl)]
                refine ⟨.agg #[.bool d.back, .bool d.dir, .bool d.rooted, .slice a3 n3 c3], fun w' hw' => ?_, hK _ ?_⟩
                · have y0 := (hw'.cell (p := ⟨b, o + j * 4, none⟩) HLB.out).trans HX0.out
                  have y1 := (hw'.cell (p := ⟨b, o + j * 4 + 1, none⟩) HLB.out).trans HX1.out
                  have y2 := (hw'.cell (p := ⟨b, o + j * 4 + 2, none⟩) HLB.out).trans HX2.out
                  have y3 := (hw'.cell (p := ⟨b, o + j * 4 + 3, none⟩) HLB.out).trans HX3.out
                  go_simp
                clear hK K
                refine wpQuiet_step (fun K hK => ?_)
                go_simp
                refine ⟨_, fun _ _ => rfl, hK _ ?_⟩
                clear hK K
                refine wpQuiet_step (fun K hK => ?_)
                go_simp
                refine ⟨_, fun _ _ => rfl, hK _ ?_⟩
                clear hK K
                refine wpQuiet_step (fun K hK => ?_)
                go_simp
                refine ⟨_, fun _ _ => rfl, hK _ ?_⟩
                clear hK K
                refine wpQuiet_step (fun K hK => ?_)
                go_simp
                refine ⟨_, fun _ _ => rfl, hK _ ?_⟩
                clear hK K
                refine wpQuiet_step (fun K hK => ?_)
                go_simp
                refine ⟨_, fun _ _ => rfl, hK _ ?_⟩
                clear hK K
                refine wpQuiet_step (fun K hK => ?_)
                go_simp
                refine hK _ ?_
                clear hK K
                refine wpQuiet_step (fun K hK => ?_)
                go_simp
                refine hK _ ?_
                clear hK K
                refine wpQuiet_step (fun K hK => ?_)
                go_simp
                refine hK _ ?_
                clear hK K
                refine wpQuiet_step (fun K hK => ?_)
                go_simp
                refine hK _ ?_
                clear hK K
                refine wpQuiet_step (fun K hK => ?_)
                go_simp
                refine ⟨_, fun _ _ => rfl, hK _ ?_⟩
                clear hK K
                refine wpQuiet_step (fun K hK => ?_)
                rw [if_pos (by rfl)]
                refine ⟨.bool mm, fun w' hw' => ?_, hK _ ?_⟩
                · go_simp
                  refine (HM.out w' hw').mono ?_
                  rintro r wn ⟨rfl, hbn⟩
                  exact ⟨rfl, hw'.trans (hbn.mono hw'.size)⟩
                clear hK K
                refine wpQuiet_nil ?_
                intro w2 hw2
                have HB2 := hid hw2
                clear hw2
                cases mm with
                | true =>
                  have y0 := (HB2.out.cell (p := ⟨b, o + j * 4, none⟩) HLB.out).trans HX0.out
                  go_wp2
                  exact ⟨⟨j + 1, !d.back, by omega, by push_cast; rfl, rfl, hid HFD.out.symm, HB2⟩, by simp [intOf]; omega⟩
                | false =>
                  go_wp2
                  exact ⟨⟨j + 1, bb, by omega, by push_cast; rfl, rfl, hid HFD.out.symm, HB2⟩, by simp [intOf]; omega⟩
              | false =>
                by_cases hkl : k < N
                · obtain rfl : dd = true := by rw [HDD.out, decide_eq_true hkl]; rfl
                  have hkli : (k : Int) < (N : Int) := by omega
                  go_wp2
                  refine wp_region_class (C := fun w' => Below w5.heap.size w5 w') (by kernel_rfl) (by kernel_rfl) (below_drewN HBJ.out 1) ?_
                  refine wpQuiet_step (fun K hK => ?_)
                  go_simp
                  refine ⟨_, fun _ _ => rfl, hK _ ?_⟩
                  clear hK K
                  refine wpQuiet_step (fun K hK => ?_)
                  go_simp
                  refine ⟨_, fun _ _ => rfl, hK _ ?_⟩
                  clear hK K
                  refine wpQuiet_step (fun K hK => ?_)
                  go_simp
                  refine ⟨_, fun _ _ => rfl, hK _ ?_⟩
                  clear hK K
                  refine wpQuiet_step (fun K hK => ?_)
                  rw [if_pos (by rfl)]
                  refine ⟨.agg #[.bool d.back, .bool d.dir, .bool d.rooted, .slice a3 n3 c3], fun w' hw' => ?_, hK _ ?_⟩
                  · have y0 := (hw'.cell (p := ⟨b, o + j * 4, none⟩) HLB.out).trans HX0.out
                    have y1 := (hw'.cell (p := ⟨b, o + j * 4 + 1, none⟩) HLB.out).trans HX1.out
                    have y2 := (hw'.cell (p := ⟨b, o + j * 4 + 2, none⟩) HLB.out).trans HX2.out
                    have y3 := (hw'.cell (p := ⟨b, o + j * 4 + 3, none⟩) HLB.out).trans HX3.out
                    go_simp
                  clear hK K
                  refine wpQuiet_step (fun K hK => ?_)
                  go_simp
                  refine ⟨_, fun _ _ => rfl, hK _ ?_⟩
                  clear hK K
                  refine wpQuiet_step (fun K hK => ?_)
                  go_simp
                  refine ⟨_, fun _ _ => rfl, hK _ ?_⟩
                  clear hK K
                  refine wpQuiet_step (fun K hK => ?_)
                  go_simp
                  refine ⟨_, fun _ _ => rfl, hK _ ?_⟩
                  clear hK K
                  refine wpQuiet_step (fun K hK => ?_)
                  go_simp
                  refine ⟨_, fun _ _ => rfl, hK _ ?_⟩
                  clear hK K
                  refine wpQuiet_step (fun K hK => ?_)
                  go_simp
                  refine ⟨_, fun _ _ => rfl, hK _ ?_⟩
                  clear hK K
                  refine wpQuiet_step (fun K hK => ?_)
                  go_simp
                  refine ⟨_, fun _ _ => rfl, hK _ ?_⟩
                  clear hK K
                  refine wpQuiet_step (fun K hK => ?_)
                  go_simp
                  refine ⟨_, fun _ _ => rfl, hK _ ?_⟩
                  clear hK K
                  refine wpQuiet_step (fun K hK => ?_)
                  go_simp
                  refine ⟨_, fun _ _ => rfl, hK _ ?_⟩
                  clear hK K
                  refine wpQuiet_step (fun K hK => ?_)
                  go_simp
                  refine ⟨_, fun _ _ => rfl, hK _ ?_⟩
                  clear hK K
                  refine wpQuiet_step (fun K hK => ?_)
                  go_simp
                  refine ⟨_, fun _ _ => rfl, hK _ ?_⟩
                  clear hK K
                  refine wpQuiet_step (fun K hK => ?_)
                  rw [if_pos (by rfl)]
                  refine ⟨.bool mm, fun w' hw' => ?_, hK _ ?_⟩
                  · go_simp
                    refine (HM.out w' hw').mono ?_
                    rintro r wn ⟨rfl, hbn⟩
                    exact ⟨rfl, hw'.trans (hbn.mono hw'.size)⟩
                  clear hK K
                  refine wpQuiet_nil ?_
                  intro w2 hw2
                  have HB2 := hid hw2
                  clear hw2
                  cases mm with
                  | true =>
                    have y0 := (HB2.out.cell (p := ⟨b, o + j * 4, none⟩) HLB.out).trans HX0.out
                    go_wp2
                    exact ⟨⟨j + 1, !d.back, by omega, by push_cast; rfl, rfl, hid HFD.out.symm, HB2⟩, by simp [intOf]; omega⟩
                  | false =>
                    go_wp2
                    exact ⟨⟨j + 1, bb, by omega, by push_cast; rfl, rfl, hid HFD.out.symm, HB2⟩, by simp [intOf]; omega⟩
                · obtain rfl : dd = false := by rw [HDD.out, decide_eq_false hkl]; rfl
                  have hkli : ¬ (k : Int) < (N : Int) := by omega
                  go_wp2
                  refine wp_region_class (C := fun w' => Below w5.heap.size w5 w') (by kernel_rfl) (by kernel_rfl) (below_drewN HBJ.out 1) ?_
                  refine wpQuiet_step (fun K hK => ?_)
                  go_simp
                  refine ⟨_, fun _ _ => rfl, hK _ ?_⟩
                  clear hK K
                  refine wpQuiet_step (fun K hK => ?_)
                  go_simp
                  refine ⟨_, fun _ _ => rfl, hK _ ?_⟩
                  clear hK K
                  refine wpQuiet_step (fun K hK => ?_)
                  go_simp
                  refine ⟨_, fun _ _ => rfl, hK _ ?_⟩
                  clear hK K
                  refine wpQuiet_step (fun K hK => ?_)
                  rw [if_pos (by rfl)]
                  refine ⟨.agg #[.bool d.back, .bool d.dir, .bool d.rooted, .slice a3 n3 c3], fun w' hw' => ?_, hK _ ?_⟩
                  · have y0 := (hw'.cell (p := ⟨b, o + j * 4, none⟩) HLB.out).trans HX0.out
                    have y1 := (hw'.cell (p := ⟨b, o + j * 4 + 1, none⟩) HLB.out).trans HX1.out
                    have y2 := (hw'.cell (p := ⟨b, o + j * 4 + 2, none⟩) HLB.out).trans HX2.out
                    have y3 := (hw'.cell (p := ⟨b, o + j * 4 + 3, none⟩) HLB.out).trans HX3.out
                    go_simp
                  clear hK K
                  refine wpQuiet_step (fun K hK => ?_)
                  go_simp
                  refine ⟨_, fun _ _ => rfl, hK _ ?_⟩
                  clear hK K
                  refine wpQuiet_step (fun K hK => ?_)
                  go_simp
                  refine ⟨_, fun _ _ => rfl, hK _ ?_⟩
                  clear hK K
                  refine wpQuiet_step (fun K hK => ?_)
                  go_simp
                  refine ⟨_, fun _ _ => rfl, hK _ ?_⟩
                  clear hK K
                  refine wpQuiet_step (fun K hK => ?_)
                  go_simp
                  refine ⟨_, fun _ _ => rfl, hK _ ?_⟩
                  clear hK K
                  refine wpQuiet_step (fun K hK => ?_)
                  go_simp
                  refine ⟨_, fun _ _ => rfl, hK _ ?_⟩
                  clear hK K
                  refine wpQuiet_step (fun K hK => ?_)
                  go_simp
                  refine ⟨_, fun _ _ => rfl, hK _ ?_⟩
                  clear hK K
                  refine wpQuiet_step (fun K hK => ?_)
                  go_simp
                  refine ⟨_, fun _ _ => rfl, hK _ ?_⟩
                  clear hK K
                  refine wpQuiet_step (fun K hK => ?_)
                  go_simp
                  refine ⟨_, fun _ _ => rfl, hK _ ?_⟩
                  clear hK K
                  refine wpQuiet_step (fun K hK => ?_)
                  go_simp
                  refine ⟨_, fun _ _ => rfl, hK _ ?_⟩
                  clear hK K
                  refine wpQuiet_step (fun K hK => ?_)
                  go_simp
                  refine ⟨_, fun _ _ => rfl, hK _ ?_⟩
                  clear hK K
                  refine wpQuiet_step (fun K hK => ?_)
                  rw [if_pos (by rfl)]
                  refine ⟨.bool mm, fun w' hw' => ?_, hK _ ?_⟩
                  · go_simp
                    refine (HM.out w' hw').mono ?_
                    rintro r wn ⟨rfl, hbn⟩
                    exact ⟨rfl, hw'.trans (hbn.mono hw'.size)⟩
                  clear hK K
                  refine wpQuiet_nil ?_
                  intro w2 hw2
                  have HB2 := hid hw2
                  clear hw2
                  cases mm with
                  | true =>
                    have y0 := (HB2.out.cell (p := ⟨b, o + j * 4, none⟩) HLB.out).trans HX0.out
                    go_wp2
                    exact ⟨⟨j + 1, !d.back, by omega, by push_cast; rfl, rfl, hid HFD.out.symm, HB2⟩, by simp [intOf]; omega⟩
                  | false =>
                    go_wp2
                    exact ⟨⟨j + 1, bb, by omega, by push_cast; rfl, rfl, hid HFD.out.symm, HB2⟩, by simp [intOf]; omega⟩
            · obtain rfl : j = T := by omega
              have HG : Hid (bb = digS ds nk dd) := hid (by rw [HBB.out, HT.out, List.take_length]; rfl)
              have HBR := hid (HBW.out.trans (HBJ.out.mono hWr))
              rw [HNK.out, HDD.out] at HG
              cases bb with
              | true =>
                have HRR : Hid (R = true) := hid (HRY.out k hk1 hkN HG.out.symm)
                go_wp2
                go_ret
                exact ⟨by rw [HRR.out]; rfl, HBR.out⟩
              | false =>
                have HQ2 : Hid (∀ q, 1 ≤ q → q < k + 1 → digS ds (ns.take q) (dir || decide (q < N)) = false) := hid (fun q h1 h2 => by
                  rcases Nat.lt_or_eq_of_le (Nat.lt_succ_iff.1 h2) with h | h
                  · exact HQ.out q h1 h
                  · rw [h]; exact HG.out.symm)
                go_wp2
                exact ⟨⟨k + 1, by omega, by omega, by push_cast; rfl, HQ2, HBJ⟩, by simp [intOf]; omega⟩
        · have k1 : ¬ (k : Int) ≤ (N : Int) := by omega
          have HRR : Hid (R = false) := hid (HRN.out (fun q h1 h2 => HQ.out q h1 (by omega)))
          have HBR := hid (HBW.out.trans (HBK.out.mono hWr))
          go_wp2
          go_ret
          exact ⟨by rw [HRR.out]; rfl, HBR.out⟩
end Go.Proofs.YtfjhjhjdneihbaaGreatDoor
