/-
  Rows of rules as the document holds them; the walk of its Read.
-/
import Derived.Test.YtfjhjhjdneihbaaGreatDoorI5
namespace Go.Proofs.YtfjhjhjdneihbaaGreatDoor
open Go.RowKit

theorem Tryz.infoRRule : (Tryz.prog.info? 52).map (fun i => (i.zero, i.size, i.bytes)) = some (some (.agg #[.bool false, .bool false, .bool false, .slice none 0 0]), 4, 32) := by kernel_rfl
/-- a rule by its four cells -/
def DrOk (w : World) (B : Nat) (x0 x1 x2 x3 : Value) (d : DR) : Prop := x0 = .bool d.back ∧ x1 = .bool d.dir ∧ x2 = .bool d.rooted ∧ (∃ a n c, x3 = .slice a n c) ∧ OwnDp w B x3 d.ps
def DrsC (w : World) (B : Nat) (cs : List Value) (ds : List DR) : Prop := ∀ (j : Nat) d, ds[j]? = some d → ∃ x0 x1 x2 x3, cs[j * 4]? = some x0 ∧ cs[j * 4 + 1]? = some x1 ∧ cs[j * 4 + 2]? = some x2 ∧ cs[j * 4 + 3]? = some x3 ∧ DrOk w B x0 x1 x2 x3 d
def OwnDr (w : World) (B : Nat) (v : Value) (ds : List DR) : Prop := ∃ cs, w.ownsRow B 52 4 v ds.length cs ∧ DrsC w B cs ds
theorem OwnDr.later {w w' : World} {B : Nat} {v : Value} {ds : List DR} (h : OwnDr w B v ds) (hb : Below w.heap.size w w') : OwnDr w' B v ds := by
  obtain ⟨cs, h1, h2⟩ := h
  exact ⟨cs, own_stays h1 hb, fun j d hj => by
    obtain ⟨x0, x1, x2, x3, e0, e1, e2, e3, f0, f1, f2, f3, f4⟩ := h2 j d hj
    exact ⟨x0, x1, x2, x3, e0, e1, e2, e3, f0, f1, f2, f3, f4.later hb⟩⟩
theorem OwnDr.nil (w : World) (B : Nat) : OwnDr w B (.slice none 0 0) [] := ⟨[], World.ownsRow_nil _ _ _ _, fun j d h => by simp at h⟩
theorem OwnDr.shape {w : World} {B : Nat} {v : Value} {ds : List DR} (h : OwnDr w B v ds) : ∃ a c, v = .slice a ds.length c := by
  obtain ⟨cs, h1, _⟩ := h
  rcases h1.2 with ⟨hv, hn⟩ | ⟨g, cap, cur, hv, _⟩
  · exact ⟨none, 0, by rw [hv, hn]⟩
  · exact ⟨_, cap, hv⟩
theorem OwnDp.grown {w w' : World} {B B2 n s : Nat} {e : TypeId} {xs : List Value} {v u : Value} {ps : List Pg.Pi} (h : OwnDp w B u ps) (ho : w.ownsRow B2 e s v n xs) (he1 : 130 ≠ e) (he2 : 74 ≠ e) (hg : w.grownBy w' v.ownBlock) : OwnDp w' B u ps := by
  obtain ⟨cs, h1, h2⟩ := h
  exact ⟨cs, own_by_type h1 ho he2 hg, h2.grown ho he1 hg⟩
theorem OwnDr.mono {w : World} {B B' : Nat} {v : Value} {ds : List DR} (h : OwnDr w B v ds) (hb : B' ≤ B) : OwnDr w B' v ds := by
  obtain ⟨cs, h1, h2⟩ := h
  refine ⟨cs, ⟨h1.1, ?_⟩, fun j d hj => ?_⟩
  · rcases h1.2 with q | ⟨g, cap, cur, hv, hg, r⟩
    · exact .inl q
    · exact .inr ⟨g, cap, cur, hv, Nat.le_trans hb hg, r⟩
  · obtain ⟨x0, x1, x2, x3, e0, e1, e2, e3, f0, f1, f2, f3, f4⟩ := h2 j d hj
    exact ⟨x0, x1, x2, x3, e0, e1, e2, e3, f0, f1, f2, f3, f4.mono hb⟩
/-- a rule more -/
theorem wpList_append_dr {w : World} {ops : Array Oper} {rest : List Oper} {o : Oper} {a : Act} {Q : Exit → Act → World → Prop} (hgd : o.guard = none) (s x : Operand)
    (ho : o.op = .call { callee := .builtin .append, args := #[s, x], argTypes := #[28, 28] }) (B : Nat) (v : Value) (ds : List DR) (hs : a.eval s = v) (hown : OwnDr w B v ds)
    (g : Nat) (x0 x1 x2 x3 : Value) (d : DR) (hx : a.eval x = .slice (some ⟨g, 0, none⟩) 1 1) (hg : w.heap[g]? = some (.cells #[x0, x1, x2, x3] 52 (0, 0))) (hq : DrOk w B x0 x1 x2 x3 d) (hfit : ds.length ≤ 1000000000) (hB : B ≤ w.heap.size)
    (h : ∀ v' w', OwnDr w' B v' (ds ++ [d]) → w.grownBy w' v.ownBlock → (∀ i, v.ownBlock = some i → B ≤ i) → wpList Tryz.prog ops Q rest (a.put o.dst v') w') : wpList Tryz.prog ops Q (o :: rest) a w := by
  obtain ⟨i0, hi, hz0, hz1, hz2⟩ := info_parts Tryz.infoRRule
  obtain ⟨cs, h1, h2⟩ := hown
  obtain ⟨f0, f1, f2, f3, f4⟩ := hq
  have hcl : cs.length = ds.length * 4 := h1.1
  refine wpList_append_lies _ hgd s x 28 ho B 52 i0 (.agg #[.bool false, .bool false, .bool false, .slice none 0 0]) 4 32 Tryz.underlying28 hi hz0 hz1 hz2 rfl (by decide) v ds.length cs hs h1 ⟨g, 0, none⟩ 1 1 [x0, x1, x2, x3] hx rfl ?_ ?_ (by decide) ?_ ?_ hB w.heap.size rfl ?_
  · exact World.news_of_block (cs := #[x0, x1, x2, x3]) hg
  · intro y hy
    simp at hy
    rcases hy with rfl | rfl | rfl | rfl
    · rw [f0]; rfl
    · rw [f1]; rfl
    · rw [f2]; rfl
    · obtain ⟨a', n, c, rfl⟩ := f3; rfl
  · unfold maxLen; omega
  · omega
  · intro g' cap w' g2 g3 _ _
    refine h _ w' ⟨cs ++ [x0, x1, x2, x3], by rw [List.length_append]; exact g2, fun j p hj => ?_⟩ g3 (fun i hi => (own_ge' h1 i hi).1)
    rcases Nat.lt_or_ge j ds.length with r | r
    · rw [List.getElem?_append_left r] at hj
      obtain ⟨y0, y1, y2, y3, e0, e1, e2, e3, k0, k1, k2, k3, k4⟩ := h2 j p hj
      exact ⟨y0, y1, y2, y3, by rw [List.getElem?_append_left (by omega)]; exact e0, by rw [List.getElem?_append_left (by omega)]; exact e1, by rw [List.getElem?_append_left (by omega)]; exact e2, by rw [List.getElem?_append_left (by omega)]; exact e3, k0, k1, k2, k3, k4.grown h1 (by decide) (by decide) g3⟩
    · rw [List.getElem?_append_right r] at hj
      have hj0 : j - ds.length = 0 := by
        rcases Nat.eq_zero_or_pos (j - ds.length) with z | z
        · exact z
        · rw [List.getElem?_eq_none (by simp; omega)] at hj; cases hj
      rw [hj0] at hj
      simp at hj
      subst hj
      refine ⟨x0, x1, x2, x3, ?_, ?_, ?_, ?_, f0, f1, f2, f3, f4.grown h1 (by decide) (by decide) g3⟩
      · rw [List.getElem?_append_right (by omega), show j * 4 - cs.length = 0 by omega]; rfl
      · rw [List.getElem?_append_right (by omega), show j * 4 + 1 - cs.length = 1 by omega]; rfl
      · rw [List.getElem?_append_right (by omega), show j * 4 + 2 - cs.length = 2 by omega]; rfl
      · rw [List.getElem?_append_right (by omega), show j * 4 + 3 - cs.length = 3 by omega]; rfl
theorem lns_le : ∀ (f : Nat) (l x : List UInt8), x ∈ lnF f l → x.length ≤ l.length
  | 0, l, x, h => by cases h
  | f + 1, l, x, h => by
    unfold lnF at h
    by_cases e : l = []
    · rw [if_pos e] at h; cases h
    · rw [if_neg e] at h
      rcases List.mem_cons.1 h with rfl | h
      · exact cut_first l
      · have h1 := cut_rest l e
        have h2 := lns_le f _ x h
        omega
/-- what the document's Read answers -/
def DReadP (x : Sum (Nat × Nat) (List DR)) (B : Nat) (e : Ending) (w' : World) : Prop :=
  (∃ k n : Nat, x = .inl (k, n) ∧ (n = 2 ∨ n = 40) ∧ e = .returned (.tuple #[.slice none 0 0, .int .i64 k, .int .i64 n])) ∨
  ∃ ds v, x = .inr ds ∧ e = .returned (.tuple #[v, .int .i64 0, .int .i64 0]) ∧ OwnDr w' B v ds

set_option maxHeartbeats 8000000 in
set_option maxRecDepth 100000 in
theorem refRead_any (s : ByteArray) (w : World) (hs : s.size ≤ 4194304) :
    Calls Tryz.prog 5 #[.string s] w fun e w' => DReadP (ddL (lns s.data.toList) 1 []) w.heap.size e w' ∧ Below w.heap.size w w' := by
  obtain ⟨L, hL⟩ : ∃ L, L = lns s.data.toList := ⟨_, rfl⟩
  have HLN := hid (refLines_any s L hL.symm w (by omega))
  have HSM : Hid (∀ x ∈ L, x.length ≤ 4194304) := hid (fun x hx => by
    rw [hL] at hx
    have := lns_le _ _ x hx
    rw [size_data] at this
    omega)
  have hLl : L.length ≤ 4194304 := by
    have h1 := lns_len s.data.toList.length s.data.toList
    have h2 := size_data s
    rw [hL]
    show (lnF _ _).length ≤ _
    omega
  rw [← hL]
  obtain ⟨R, hR⟩ : ∃ R, R = ddL L 1 [] := ⟨_, rfl⟩
  rw [← hR]
  have HR := hid hR
  have hlong : ¬ (s.size : Int) > 4194304 := by omega
  clear hL hR
  go_enter Tryz.func5, Tryz.ntmps5
  go_wp2_with fail
  refine HLN.out.mono ?_
  rintro e w1 ⟨v6, rfl, hO6, hb1⟩
  have HRL := hid (rd_own hO6)
  have HB1 := hid hb1
  obtain ⟨a6, c6, e6⟩ := hO6.shape
  subst e6
  have hw1 : w.heap.size ≤ w1.heap.size := hb1.size
  clear hO6 hb1
  go_wp2
  go_loopw [5, 7] (fun v5 i wr => ∃ (j : Nat) (ds : List DR), j ≤ L.length ∧ i = .int .i64 j ∧ ds.length ≤ j ∧ Hid (R = ddL (L.drop j) (j + 1) ds) ∧ Hid (OwnDr wr w1.heap.size v5 ds) ∧ Hid (Below w1.heap.size w1 wr)) (fun _ i _ => L.length - (intOf i).toNat)
  case atStart => exact ⟨0, [], Nat.zero_le _, rfl, Nat.zero_le _, HR, hid (OwnDr.nil _ _), hid (Below.refl _ _)⟩
  case round =>
    obtain ⟨j, ds, hj, rfl, hdl, HD, HO, HB⟩ := hrel
    have HBW : Hid (Below w.heap.size w wr) := hid (HB1.out.trans (HB.out.mono hw1))
    by_cases hlt : j < L.length
    · obtain ⟨x, hx⟩ : ∃ x, L[j]? = some x := ⟨_, List.getElem?_eq_getElem hlt⟩
      obtain ⟨b6, o6, c7, xb, e6, hxb, _, _, d6⟩ := (HRL.out.below HB.out).at (k := j) (by rw [BL_length]; exact hlt)
      rw [BL_length] at e6
      cases e6
      have hxs := HSM.out x (List.mem_of_getElem? hx)
      have HXB : Hid (xb.data.toList = x) := hid (by rw [BL_get hx] at hxb; rw [← Option.some.inj hxb])
      have hxbs : xb.size ≤ 4194304 := by rw [← size_data, HXB.out]; exact hxs
      have HDR : Hid (L.drop j = x :: L.drop (j + 1)) := hid (by
        rw [List.drop_eq_getElem_cons hlt]
        rw [List.getElem?_eq_getElem hlt] at hx
        rw [Option.some.inj hx])
      obtain ⟨y, hy⟩ : ∃ y, y = trm x := ⟨_, rfl⟩
      have HD2 : Hid (R = if y = [] ∨ Lib.hasPrefix y [35] = true then ddL (L.drop (j + 1)) (j + 1 + 1) ds else match drP y with
          | none => .inl (j + 1, ruN y)
          | some q => ddL (L.drop (j + 1)) (j + 1 + 1) (ds ++ [q])) := hid (by rw [HD.out, HDR.out, ddL, ← hy]; cases drP y <;> rfl)
      have hyl : y.length ≤ 4194304 := by rw [hy]; have := trm_len x; omega
      have HTM := hid (refTrimmed_any xb wr (by omega))
      rw [HXB.out, ← hy] at HTM
      obtain ⟨yb, hyb⟩ : ∃ yb : ByteArray, yb = ⟨y.toArray⟩ := ⟨_, rfl⟩
      rw [← hyb] at HTM
      have HYB : Hid (yb.data.toList = y) := hid (by rw [hyb])
      have hybs : yb.size ≤ 4194304 := by rw [← size_data, HYB.out]; exact hyl
      have j1 : (0 : Int) ≤ (j : Int) := by omega
      have j2 : (j : Int) < (L.length : Int) := by omega
      have j3 : IntKind.i64.wrap ((j : Int) + 1) = (j : Int) + 1 := by rw [IntKind.wrap_i64]; omega
      clear hx hxb hy hyb HD hxs
      go_wp2_with fail
      refine HTM.out.mono ?_
      rintro e w2 ⟨rfl, hw2⟩
      rw [hw2]
      clear hw2 w2 d6
      by_cases hy0 : yb.size = 0
      · have he := empty_yes yb hy0
        have HN : Hid (R = ddL (L.drop (j + 1)) (j + 1 + 1) ds) := hid (by rw [HD2.out, if_pos (.inl (by rw [← HYB.out]; exact List.length_eq_zero_iff.1 (by rw [size_data]; exact hy0)))])
        clear hy0 HD2
        go_wp2
        exact ⟨⟨j + 1, ds, by omega, by push_cast; rfl, by omega, HN, HO, HB⟩, by simp [intOf]; omega⟩
      · have he := empty_no yb hy0
        have hyp : 0 < yb.size := by omega
        have HAT := hid (at_data yb 0 hyp)
        have HHP : Hid (Lib.hasPrefix y [35] = decide ((35 : UInt8) = yb[0])) := hid (by
          have h := HAT.out
          rw [HYB.out] at h
          cases hyy : y with
          | nil => rw [hyy] at h; simp at h
          | cons c r =>
            rw [hyy] at h
            simp at h
            rw [pre_cons, ← h])
        have HYN : Hid (y ≠ []) := hid (fun e => hy0 (by rw [← size_data, HYB.out, e]; rfl))
        have jp : (0 : Int) < (yb.size : Int) := by omega
        by_cases h35 : yb[0] = 35
        · have z1 : ((yb[0].toNat : Int) == 35) = true := beq_iff_eq.2 ((c35_iff _).2 h35)
          have HN : Hid (R = ddL (L.drop (j + 1)) (j + 1 + 1) ds) := hid (by rw [HD2.out, if_pos (.inr (by rw [HHP.out]; exact decide_eq_true h35.symm))])
          clear h35 HD2 HHP HAT hy0
          go_wp2
          exact ⟨⟨j + 1, ds, by omega, by push_cast; rfl, by omega, HN, HO, HB⟩, by simp [intOf]; omega⟩
        · have z1 : ((yb[0].toNat : Int) == 35) = false := beq_eq_false_iff_ne.2 (fun e => h35 ((c35_iff _).1 e))
          have HD3 : Hid (R = match drP y with
              | none => .inl (j + 1, ruN y)
              | some q => ddL (L.drop (j + 1)) (j + 1 + 1) (ds ++ [q])) := hid (by
            rw [HD2.out, if_neg]
            rintro (h | h)
            · exact HYN.out h
            · rw [HHP.out] at h; exact h35 (of_decide_eq_true h).symm)
          clear h35 HD2 HHP HAT hy0
          go_wp2_with fail
          refine (refRule_any yb wr hyp hybs).mono ?_
          rintro e w3 ⟨hr, hb3⟩
          unfold RlP at hr
          rw [HYB.out] at hr
          have HO3 := hid (HO.out.later hb3)
          have HB3 := hid (HB.out.trans (hb3.mono HB.out.size))
          rcases hr with ⟨h1, h2, b0, b1, b2, a, n, c, rfl⟩ | ⟨d, v, h1, rfl, h3⟩
          · have HN : Hid (R = .inl (j + 1, ruN y)) := hid (by rw [HD3.out, h1])
            obtain ⟨K, hK⟩ : ∃ K, K = ruN y := ⟨_, rfl⟩
            rw [← hK] at HN h2 ⊢
            have zk : ((K : Int) == 0) = false := beq_eq_false_iff_ne.2 (by omega)
            have H2 := hid h2
            clear h1 hK HD3 hb3 h2
            go_wp2
            refine bodyPost_ret (v := .tuple #[.slice none 0 0, .int .i64 ((j : Int) + 1), .int .i64 K]) (by simp [results, Tryz.results5, go_sem]) rfl ⟨.inl ⟨j + 1, K, HN.out, H2.out, by push_cast; rfl⟩, ?_⟩
            exact (HB1.out.trans (HB3.out.mono hw1)).alloc (Nat.le_trans hw1 HB3.out.size) _
          · have HN : Hid (R = ddL (L.drop (j + 1)) (j + 1 + 1) (ds ++ [d])) := hid (by rw [HD3.out, h1])
            have HDP : Hid (OwnDp w3 w1.heap.size v d.ps) := hid (h3.mono HB.out.size)
            obtain ⟨a, c, e⟩ := h3.shape
            subst e
            clear h1 h3 HD3 hb3
            obtain ⟨O, hO⟩ : ∃ O, O = Obj.cells #[.bool d.back, .bool d.dir, .bool d.rooted, .slice a d.ps.length c] 52 (0, 0) := ⟨_, rfl⟩
            have hbA : Below w3.heap.size w3 ((w3.alloc O).alloc O) := ((Below.refl _ _).alloc (Nat.le_refl _) _).alloc (by simp) _
            have HOA := hid (HO3.out.later hbA)
            have HBA := hid (HB3.out.trans (hbA.mono HB3.out.size))
            have HHA : Hid (((w3.alloc O).alloc O).heap[w3.heap.size + 1]? = some O) := hid (by simpa using heap_alloc_new (w3.alloc O) O)
            have HHB : Hid ((w3.alloc O).heap[w3.heap.size]? = some O) := hid (heap_alloc_new w3 O)
            have HDA : Hid (DrOk ((w3.alloc O).alloc O) w1.heap.size (.bool d.back) (.bool d.dir) (.bool d.rooted) (.slice a d.ps.length c) d) := hid ⟨rfl, rfl, rfl, ⟨_, _, _, rfl⟩, HDP.out.later hbA⟩
            rw [hO] at HOA HBA HHA HDA HHB
            have m0 := cell_of_blk HHB.out 0
            have m1 := cell_of_blk HHB.out 1
            have m2 := cell_of_blk HHB.out 2
            have m3 := cell_of_blk HHB.out 3
            clear hbA hO
            go_wp2_with (at_builtin; refine wpList_append_dr rfl _ _ rfl w1.heap.size _ ds rfl HOA.out (w3.heap.size + 1) (.bool d.back) (.bool d.dir) (.bool d.rooted) (.slice a d.ps.length c) d rfl HHA.out HDA.out (by omega) HBA.out.size ?_; intro v8 w8 hO8 hg8 hge; have HO8 := hid hO8; have HB8 := hid (HBA.out.grown hg8 HBA.out.size hge); clear hO8 hg8 hge)
            exact ⟨⟨j + 1, ds ++ [d], by omega, by push_cast; rfl, by rw [List.length_append, List.length_singleton]; omega, HN, HO8, HB8⟩, by simp [intOf]; omega⟩
    · obtain rfl : j = L.length := by omega
      have HN : Hid (R = .inr ds) := hid (by rw [HD.out, List.drop_length]; rfl)
      obtain ⟨a5, c5, e5⟩ := HO.out.shape
      subst e5
      clear HD
      go_wp2
      refine bodyPost_ret (v := .tuple #[.slice a5 ds.length c5, .int .i64 0, .int .i64 0]) (by simp [results, Tryz.results5, go_sem]) rfl ⟨.inr ⟨ds, _, HN.out, rfl, HO.out.mono hw1⟩, HBW.out⟩
end Go.Proofs.YtfjhjhjdneihbaaGreatDoor
