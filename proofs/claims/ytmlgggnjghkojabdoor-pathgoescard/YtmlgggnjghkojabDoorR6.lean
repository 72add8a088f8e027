/-
  The walk of the document's Rel.
-/
import Derived.Test.YtmlgggnjghkojabDoorP12
namespace Go.Proofs.YtmlgggnjghkojabDoor
open Go.RowKit

theorem ext_drop1 (s : ByteArray) : s.extract 1 s.size = ⟨(s.data.toList.drop 1).toArray⟩ := bytes_ext (by rw [Lib.extract_to_end])
theorem rd_block {w : World} {a : Option Addr} {c : Nat} {xs : List ByteArray} (h : Rd w (.slice a xs.length c) xs) (hl : 0 < xs.length) :
    ∃ g o, a = some ⟨g, o, none⟩ ∧ ∀ (j : Nat) x, xs[j]? = some x → w.cell? ⟨g, o + j, none⟩ = some (.string x) := by
  rcases h with ⟨h, _⟩ | ⟨g, o, c', hv, _, _, hc⟩
  · rw [h] at hl; cases hl
  · obtain ⟨ha, _, _⟩ := Value.slice.inj hv
    exact ⟨g, o, ha, hc⟩
theorem tails_snoc (l : List (List UInt8)) (x : List UInt8) : Pp.tails (l ++ [x]) = Pp.tails l ++ 47 :: x := by unfold Pp.tails; simp
theorem tails_glue (l : List (List UInt8)) (h : l ≠ []) : (Pp.tails l).drop 1 = Pp.glue l ∧ Pp.tails l ≠ [] := by
  cases l with
  | nil => exact absurd rfl h
  | cons x r => exact ⟨by simp [Pp.tails, Pp.glue], by simp [Pp.tails]⟩
theorem tails_take_len (l : List (List UInt8)) (k : Nat) : (Pp.tails (l.take k)).length ≤ (Pp.tails l).length := by
  have e : Pp.tails l = Pp.tails (l.take k) ++ Pp.tails (l.drop k) := by
    unfold Pp.tails
    rw [← List.flatten_append, ← List.map_append, List.take_append_drop]
  rw [e, List.length_append]
  omega

theorem steps_tails_len (a b : List (List UInt8)) (ha : a.length ≤ 64) (hb : b.length ≤ 64) (hbb : b.any Pp.bad = false) : (Pp.tails (Pp.steps a b)).length ≤ 32768 := by
  have hall : ∀ x ∈ Pp.steps a b, x.length ≤ 255 := by
    intro x hx
    unfold Pp.steps at hx
    rcases List.mem_append.1 hx with h | h
    · rw [List.eq_of_mem_replicate h]; decide
    · exact (Pp.bad_false (Pp.any_bad_false hbb x (List.mem_of_mem_drop h))).2.2.2.1
  have hlen : (Pp.steps a b).length ≤ 128 := by
    unfold Pp.steps
    rw [List.length_append, List.length_replicate, List.length_drop]
    omega
  have := tails_len _ hall
  omega
theorem way_snoc (a b : List (List UInt8)) (k p : Nat) (x : List UInt8) (hkp : k ≤ p) (hx : b[p]? = some x) :
    List.replicate (a.length - k) [46, 46] ++ (b.drop k).take (p + 1 - k) = (List.replicate (a.length - k) [46, 46] ++ (b.drop k).take (p - k)) ++ [x] := by
  have e : p + 1 - k = (p - k) + 1 := by omega
  have hx' : (b.drop k)[p - k]? = some x := by rw [List.getElem?_drop, show k + (p - k) = p by omega]; exact hx
  rw [e, List.take_add_one, hx', List.append_assoc]
  rfl
theorem way_len (a b : List (List UInt8)) (k j : Nat) (h : Pp.steps a b = List.replicate (a.length - k) [46, 46] ++ b.drop k) (ha : a.length ≤ 64) (hb : b.length ≤ 64) (hbb : b.any Pp.bad = false) :
    (Pp.tails (List.replicate (a.length - k) [46, 46] ++ (b.drop k).take j)).length ≤ 32768 := by
  have h1 := tails_take_len (Pp.steps a b) (a.length - k + j)
  have e : (Pp.steps a b).take (a.length - k + j) = List.replicate (a.length - k) [46, 46] ++ (b.drop k).take j := by
    rw [h, List.take_append, List.take_of_length_le (by simp), List.length_replicate]
    congr 2
    omega
  rw [e] at h1
  have h2 := steps_tails_len a b ha hb hbb
  omega

set_option maxHeartbeats 8000000 in
set_option maxRecDepth 100000 in
theorem refRel_any (f t : ByteArray) (w : World) :
    Calls Tryd.prog 6 #[.string f, .string t] w fun e w' => e = .returned (.tuple #[.string ⟨(Pp.rel f.data.toList t.data.toList).1.toArray⟩, .int .i64 (Pp.rel f.data.toList t.data.toList).2]) ∧ Below w.heap.size w w' := by
  obtain ⟨A, hA⟩ : ∃ A, (Pp.parts f.data.toList).1 = A := ⟨_, rfl⟩
  obtain ⟨E, hE⟩ : ∃ E, (Pp.parts f.data.toList).2 = E := ⟨_, rfl⟩
  obtain ⟨B, hB⟩ : ∃ B, (Pp.parts t.data.toList).1 = B := ⟨_, rfl⟩
  obtain ⟨F, hF⟩ : ∃ F, (Pp.parts t.data.toList).2 = F := ⟨_, rfl⟩
  have HA := hid hA
  have HE := hid hE
  have HB := hid hB
  have HF := hid hF
  have hAl : E = 0 → A.length ≤ 64 := fun h => by rw [← hA]; exact (Pp.parts_ok (hE.trans h)).2.1
  have hBl : F = 0 → B.any Pp.bad = false ∧ B.length ≤ 64 := fun h => by rw [← hB]; exact ⟨(Pp.parts_ok (hF.trans h)).1, (Pp.parts_ok (hF.trans h)).2.1⟩
  clear hA hE hB hF
  go_enter Tryd.func6, Tryd.ntmps6
  go_wp2_with fail
  refine (refParts_any f _).mono ?_
  rintro e w1 ⟨v1, rfl, hown1, hb1⟩
  rw [HE.out]
  rw [HA.out] at hown1
  by_cases hz : E = 0
  · subst hz
    have hAl' := hAl rfl
    clear hAl
    have HR1 := hid (rd_own hown1)
    obtain ⟨a1, c1, rfl⟩ := hown1.shape
    clear hown1
    go_wp2_with fail
    refine (refParts_any t _).mono ?_
    rintro e w2 ⟨v2, rfl, hown2, hb2⟩
    rw [HF.out]
    rw [HB.out] at hown2
    have hB2 := hb1.trans (hb2.mono hb1.size)
    have hr1 := HR1.out.below hb2
    have hr2 := rd_own hown2
    clear HR1 hb1 hb2
    by_cases hz2 : F = 0
    · subst hz2
      obtain ⟨hBb, hBl'⟩ := hBl rfl
      obtain ⟨a2, c2, rfl⟩ := hown2.shape
      have HBB := hid hBb
      rw [← BL_length A] at hr1
      rw [← BL_length B] at hr2
      have HR1 := hid hr1
      have HR2 := hid hr2
      clear hBl hown2 hBb hr1 hr2
      go_wp2
      go_loopw [9] (fun i wr => ∃ k : Nat, k ≤ A.length ∧ i = .int .i64 k ∧ Hid (Pp.common A B = k + Pp.common (A.drop k) (B.drop k)) ∧ ∃ m, wr = w2.drewN m) (fun i _ => A.length - (intOf i).toNat)
      case atStart => exact ⟨0, Nat.zero_le _, rfl, hid (by simp), 0, rfl⟩
      case round =>
        obtain ⟨k, hk, rfl, HT, m, rfl⟩ := hrel
        by_cases hgo : (∃ x, A[k]? = some x ∧ B[k]? = some x)
        · obtain ⟨x, dx, dy⟩ := hgo
          have hlx : k < A.length := by
            rcases Nat.lt_or_ge k A.length with q | q
            · exact q
            · rw [List.getElem?_eq_none q] at dx; cases dx
          have hly : k < B.length := by
            rcases Nat.lt_or_ge k B.length with q | q
            · exact q
            · rw [List.getElem?_eq_none q] at dy; cases dy
          have t1 : decide (k < A.length) = true := decide_eq_true hlx
          have t2 : decide (k < B.length) = true := decide_eq_true hly
          obtain ⟨X, hX⟩ : ∃ X : ByteArray, X = ⟨x.toArray⟩ := ⟨_, rfl⟩
          have bx : (BL A)[k]? = some X := by unfold BL; rw [List.getElem?_map, dx, hX]; rfl
          have by' : (BL B)[k]? = some X := by unfold BL; rw [List.getElem?_map, dy, hX]; rfl
          obtain ⟨g1, o1, rfl, hc1⟩ := rd_block HR1.out (by rw [BL_length]; omega)
          obtain ⟨g2, o2, rfl, hc2⟩ := rd_block HR2.out (by rw [BL_length]; omega)
          have cx := hc1 k X bx
          have cy := hc2 k X by'
          have hxx : (X.toList == X.toList) = true := beq_iff_eq.2 rfl
          have HT2 := hid (common_succ dx dy HT.out)
          clear hX bx by' hc1 hc2 dx dy
          go_wp2
          go_quiet (fail)
          go_wp2
          go_roundw
          case rel => exact ⟨k + 1, by omega, by go_num, HT2, _, rfl⟩
          case measure => simp [intOf]; omega
        · have HQ : Hid (Pp.common A B = k) := hid (by
            by_cases hlx : k < A.length
            · by_cases hly : k < B.length
              · exact common_stop (List.getElem?_eq_getElem hlx) (List.getElem?_eq_getElem hly) (fun e => hgo ⟨A[k], List.getElem?_eq_getElem hlx, by rw [e]; exact List.getElem?_eq_getElem hly⟩) HT.out
              · exact common_end (.inr (by omega)) HT.out
            · exact common_end (.inl (by omega)) HT.out)
          obtain ⟨_, hkB⟩ := Pp.common_le A B
          rw [HQ.out] at hkB
          have HST : Hid (Pp.steps A B = List.replicate (A.length - k) [46, 46] ++ B.drop k) := hid (by unfold Pp.steps; rw [HQ.out])
          by_cases hlx : k < A.length
          · have t1 : decide (k < A.length) = true := decide_eq_true hlx
            by_cases hly : k < B.length
            · have t2 : decide (k < B.length) = true := decide_eq_true hly
              obtain ⟨x, dx⟩ : ∃ x, A[k]? = some x := ⟨_, List.getElem?_eq_getElem hlx⟩
              obtain ⟨y, dy⟩ : ∃ y, B[k]? = some y := ⟨_, List.getElem?_eq_getElem hly⟩
              have hxy : x ≠ y := fun e => hgo ⟨x, dx, by rw [dy, e]⟩
              obtain ⟨X, hX⟩ : ∃ X : ByteArray, X = ⟨x.toArray⟩ := ⟨_, rfl⟩
              obtain ⟨Y, hY⟩ : ∃ Y : ByteArray, Y = ⟨y.toArray⟩ := ⟨_, rfl⟩
              have bx : (BL A)[k]? = some X := by unfold BL; rw [List.getElem?_map, dx, hX]; rfl
              have by' : (BL B)[k]? = some Y := by unfold BL; rw [List.getElem?_map, dy, hY]; rfl
              obtain ⟨g1, o1, rfl, hc1⟩ := rd_block HR1.out (by rw [BL_length]; omega)
              obtain ⟨g2, o2, ha2, hc2⟩ := rd_block HR2.out (by rw [BL_length]; omega)
              subst ha2
              have cx := hc1 k X bx
              have cy := hc2 k Y by'
              have hbe := bytes_eq X Y
              rw [decide_eq_false (by rw [hX, hY]; exact hxy)] at hbe
              clear hX hY bx by' hc1 hc2 dx dy hxy hgo
              go_wp2
              go_quiet (fail)
              have hBW : Below w2.heap.size w2 ((w2.drewN m).drewN nq) := (below_drewN w2 m).trans ((below_drewN (w2.drewN m) nq).mono (Nat.le_refl _))
              have HR2W := hid (HR2.out.below hBW)
              have hBW2 := hB2.trans (hBW.mono hB2.size)
              clear hBW
              generalize (w2.drewN m).drewN nq = W at HR2W hBW2 ⊢
              go_wp2
              go_loop [10, 11] (fun s i => ∃ (p : Nat) (g : ByteArray), k ≤ p ∧ p ≤ A.length ∧ i = .int .i64 p ∧ s = .string g ∧ g.size = 3 * (p - k) ∧ Hid (g.data.toList = Pp.tails (List.replicate (p - k) [46, 46]))) (fun _ i => A.length - (intOf i).toNat)
              case atStart => exact ⟨k, ⟨#[]⟩, Nat.le_refl _, hk, rfl, rfl, by simp; rfl, hid (by simp [Pp.tails])⟩
              case round =>
                obtain ⟨p, g, hkp, hpA, rfl, rfl, hgs, HGd⟩ := hrel
                by_cases hpl : p < A.length
                · have HG2 : Hid ((g ++ ⟨#[47, 46, 46]⟩).data.toList = Pp.tails (List.replicate (p + 1 - k) [46, 46])) := hid (by
                    rw [show p + 1 - k = (p - k) + 1 by omega, List.replicate_succ', tails_snoc, ← HGd.out, cat_data])
                  have hs2 : (g ++ ⟨#[47, 46, 46]⟩).size = 3 * (p + 1 - k) := by rw [cat_size, hgs]; show 3 * (p - k) + 3 = _; omega
                  go_wp2
                  go_round
                  case rel => exact ⟨p + 1, _, by omega, by omega, by go_num, rfl, hs2, HG2⟩
                  case measure => simp [intOf]; omega
                · obtain rfl : p = A.length := by omega
                  clear hpl hkp hpA
                  go_wp2
                  go_loop [10, 12] (fun s i => ∃ (p : Nat) (g : ByteArray), k ≤ p ∧ p ≤ B.length ∧ i = .int .i64 p ∧ s = .string g ∧ g.size ≤ 32768 ∧ Hid (g.data.toList = Pp.tails (List.replicate (A.length - k) [46, 46] ++ (B.drop k).take (p - k)))) (fun _ i => B.length - (intOf i).toNat)
                  case atStart => exact ⟨k, g, Nat.le_refl _, hkB, rfl, rfl, by omega, hid (by rw [Nat.sub_self, List.take_zero, List.append_nil]; exact HGd.out)⟩
                  case round =>
                    obtain ⟨p, g, hkp, hpB, rfl, rfl, hgs, HGd⟩ := hrel
                    by_cases hpl : p < B.length
                    · obtain ⟨x, dx⟩ : ∃ x, B[p]? = some x := ⟨_, List.getElem?_eq_getElem hpl⟩
                      obtain ⟨X, hX⟩ : ∃ X : ByteArray, X = ⟨x.toArray⟩ := ⟨_, rfl⟩
                      have hXd : X.data.toList = x := by rw [hX]
                      have bx : (BL B)[p]? = some X := by unfold BL; rw [List.getElem?_map, dx, hX]; rfl
                      obtain ⟨g3, o3, ha3, hc2⟩ := rd_block HR2W.out (by rw [BL_length]; omega)
                      cases ha3
                      have cx := hc2 p X bx
                      have HG2 : Hid (((g ++ ⟨#[47]⟩) ++ X).data.toList = Pp.tails (List.replicate (A.length - k) [46, 46] ++ (B.drop k).take (p + 1 - k))) := hid (by
                        rw [way_snoc A B k p x hkp dx, tails_snoc, ← HGd.out, cat_data, cat_data, hXd]; simp)
                      have hs2 : ((g ++ ⟨#[47]⟩) ++ X).size ≤ 32768 := by
                        rw [← size_data, HG2.out]
                        exact way_len A B k _ HST.out hAl' hBl' HBB.out
                      have hsx : g.size + 1 + X.size ≤ 32768 := by
                        have := hs2
                        rw [cat_size, cat_size] at this
                        exact this
                      clear hX hXd bx hc2 dx
                      go_wp2
                      go_round
                      case rel => exact ⟨p + 1, _, by omega, by omega, by go_num, rfl, hs2, HG2⟩
                      case measure => simp [intOf]; omega
                    · obtain rfl : p = B.length := by omega
                      have HGf : Hid (g.data.toList = Pp.tails (Pp.steps A B)) := hid (by
                        rw [HST.out, HGd.out, List.take_of_length_le (by rw [List.length_drop]; exact Nat.le_refl _)])
                      clear hpl HGd
                      by_cases h0 : g.size = 0
                      · have t0 := empty_yes g h0
                        have HG := hid (rel_here HE.out HF.out (by
                          rw [HA.out, HB.out]
                          by_cases hs : Pp.steps A B = []
                          · exact hs
                          · exact absurd (HGf.out.symm.trans (nil_data g h0)) (tails_glue _ hs).2))
                        clear h0
                        go_wp2
                        go_ret2
                        exact ⟨by rw [HG.out]; rfl, hBW2⟩
                      · have t0 := empty_no g h0
                        have hsn : Pp.steps A B ≠ [] := fun e => h0 (data_nil g (by rw [HGf.out, e]; rfl))
                        have HG : Hid (Pp.rel f.data.toList t.data.toList = (g.data.toList.drop 1, 0)) := hid (by
                          have h := rel_way HE.out HF.out (by rw [HA.out, HB.out]; exact hsn)
                          rw [HA.out, HB.out, ← (tails_glue _ hsn).1, ← HGf.out] at h
                          exact h)
                        have h1 : (1 : Int) ≤ (g.size : Int) := by omega
                        clear h0 hsn
                        go_wp2
                        go_ret2
                        exact ⟨by rw [HG.out, ← ext_drop1]; rfl, hBW2⟩
            · have t2 : decide (k < B.length) = false := decide_eq_false hly
              clear hgo
              go_wp2
              go_quiet (fail)
              have hBW : Below w2.heap.size w2 ((w2.drewN m).drewN nq) := (below_drewN w2 m).trans ((below_drewN (w2.drewN m) nq).mono (Nat.le_refl _))
              have HR2W := hid (HR2.out.below hBW)
              have hBW2 := hB2.trans (hBW.mono hB2.size)
              clear hBW
              generalize (w2.drewN m).drewN nq = W at HR2W hBW2 ⊢
              go_wp2
              go_loop [10, 11] (fun s i => ∃ (p : Nat) (g : ByteArray), k ≤ p ∧ p ≤ A.length ∧ i = .int .i64 p ∧ s = .string g ∧ g.size = 3 * (p - k) ∧ Hid (g.data.toList = Pp.tails (List.replicate (p - k) [46, 46]))) (fun _ i => A.length - (intOf i).toNat)
              case atStart => exact ⟨k, ⟨#[]⟩, Nat.le_refl _, hk, rfl, rfl, by simp; rfl, hid (by simp [Pp.tails])⟩
              case round =>
                obtain ⟨p, g, hkp, hpA, rfl, rfl, hgs, HGd⟩ := hrel
                by_cases hpl : p < A.length
                · have HG2 : Hid ((g ++ ⟨#[47, 46, 46]⟩).data.toList = Pp.tails (List.replicate (p + 1 - k) [46, 46])) := hid (by
                    rw [show p + 1 - k = (p - k) + 1 by omega, List.replicate_succ', tails_snoc, ← HGd.out, cat_data])
                  have hs2 : (g ++ ⟨#[47, 46, 46]⟩).size = 3 * (p + 1 - k) := by rw [cat_size, hgs]; show 3 * (p - k) + 3 = _; omega
                  go_wp2
                  go_round
                  case rel => exact ⟨p + 1, _, by omega, by omega, by go_num, rfl, hs2, HG2⟩
                  case measure => simp [intOf]; omega
                · obtain rfl : p = A.length := by omega
                  clear hpl hkp hpA
                  go_wp2
                  go_loop [10, 12] (fun s i => ∃ (p : Nat) (g : ByteArray), k ≤ p ∧ p ≤ B.length ∧ i = .int .i64 p ∧ s = .string g ∧ g.size ≤ 32768 ∧ Hid (g.data.toList = Pp.tails (List.replicate (A.length - k) [46, 46] ++ (B.drop k).take (p - k)))) (fun _ i => B.length - (intOf i).toNat)
                  case atStart => exact ⟨k, g, Nat.le_refl _, hkB, rfl, rfl, by omega, hid (by rw [Nat.sub_self, List.take_zero, List.append_nil]; exact HGd.out)⟩
                  case round =>
                    obtain ⟨p, g, hkp, hpB, rfl, rfl, hgs, HGd⟩ := hrel
                    by_cases hpl : p < B.length
                    · omega
                    · obtain rfl : p = B.length := by omega
                      have HGf : Hid (g.data.toList = Pp.tails (Pp.steps A B)) := hid (by
                        rw [HST.out, HGd.out, List.take_of_length_le (by rw [List.length_drop]; exact Nat.le_refl _)])
                      clear hpl HGd
                      by_cases h0 : g.size = 0
                      · have t0 := empty_yes g h0
                        have HG := hid (rel_here HE.out HF.out (by
                          rw [HA.out, HB.out]
                          by_cases hs : Pp.steps A B = []
                          · exact hs
                          · exact absurd (HGf.out.symm.trans (nil_data g h0)) (tails_glue _ hs).2))
                        clear h0
                        go_wp2
                        go_ret2
                        exact ⟨by rw [HG.out]; rfl, hBW2⟩
                      · have t0 := empty_no g h0
                        have hsn : Pp.steps A B ≠ [] := fun e => h0 (data_nil g (by rw [HGf.out, e]; rfl))
                        have HG : Hid (Pp.rel f.data.toList t.data.toList = (g.data.toList.drop 1, 0)) := hid (by
                          have h := rel_way HE.out HF.out (by rw [HA.out, HB.out]; exact hsn)
                          rw [HA.out, HB.out, ← (tails_glue _ hsn).1, ← HGf.out] at h
                          exact h)
                        have h1 : (1 : Int) ≤ (g.size : Int) := by omega
                        clear h0 hsn
                        go_wp2
                        go_ret2
                        exact ⟨by rw [HG.out, ← ext_drop1]; rfl, hBW2⟩
          · have t1 : decide (k < A.length) = false := decide_eq_false hlx
            clear hgo
            go_wp2
            go_quiet (fail)
            have hBW : Below w2.heap.size w2 ((w2.drewN m).drewN nq) := (below_drewN w2 m).trans ((below_drewN (w2.drewN m) nq).mono (Nat.le_refl _))
            have HR2W := hid (HR2.out.below hBW)
            have hBW2 := hB2.trans (hBW.mono hB2.size)
            clear hBW
            generalize (w2.drewN m).drewN nq = W at HR2W hBW2 ⊢
            go_wp2
            go_loop [10, 11] (fun s i => ∃ (p : Nat) (g : ByteArray), k ≤ p ∧ p ≤ A.length ∧ i = .int .i64 p ∧ s = .string g ∧ g.size = 3 * (p - k) ∧ Hid (g.data.toList = Pp.tails (List.replicate (p - k) [46, 46]))) (fun _ i => A.length - (intOf i).toNat)
            case atStart => exact ⟨k, ⟨#[]⟩, Nat.le_refl _, hk, rfl, rfl, by simp; rfl, hid (by simp [Pp.tails])⟩
            case round =>
              obtain ⟨p, g, hkp, hpA, rfl, rfl, hgs, HGd⟩ := hrel
              by_cases hpl : p < A.length
              · omega
              · obtain rfl : p = A.length := by omega
                clear hpl hkp hpA
                go_wp2
                go_loop [10, 12] (fun s i => ∃ (p : Nat) (g : ByteArray), k ≤ p ∧ p ≤ B.length ∧ i = .int .i64 p ∧ s = .string g ∧ g.size ≤ 32768 ∧ Hid (g.data.toList = Pp.tails (List.replicate (A.length - k) [46, 46] ++ (B.drop k).take (p - k)))) (fun _ i => B.length - (intOf i).toNat)
                case atStart => exact ⟨k, g, Nat.le_refl _, hkB, rfl, rfl, by omega, hid (by rw [Nat.sub_self, List.take_zero, List.append_nil]; exact HGd.out)⟩
                case round =>
                  obtain ⟨p, g, hkp, hpB, rfl, rfl, hgs, HGd⟩ := hrel
                  by_cases hpl : p < B.length
                  · obtain ⟨x, dx⟩ : ∃ x, B[p]? = some x := ⟨_, List.getElem?_eq_getElem hpl⟩
                    obtain ⟨X, hX⟩ : ∃ X : ByteArray, X = ⟨x.toArray⟩ := ⟨_, rfl⟩
                    have hXd : X.data.toList = x := by rw [hX]
                    have bx : (BL B)[p]? = some X := by unfold BL; rw [List.getElem?_map, dx, hX]; rfl
                    obtain ⟨g2, o2, rfl, hc2⟩ := rd_block HR2W.out (by rw [BL_length]; omega)
                    have cx := hc2 p X bx
                    have HG2 : Hid (((g ++ ⟨#[47]⟩) ++ X).data.toList = Pp.tails (List.replicate (A.length - k) [46, 46] ++ (B.drop k).take (p + 1 - k))) := hid (by
                      rw [way_snoc A B k p x hkp dx, tails_snoc, ← HGd.out, cat_data, cat_data, hXd]; simp)
                    have hs2 : ((g ++ ⟨#[47]⟩) ++ X).size ≤ 32768 := by
                      rw [← size_data, HG2.out]
                      exact way_len A B k _ HST.out hAl' hBl' HBB.out
                    have hsx : g.size + 1 + X.size ≤ 32768 := by
                      have := hs2
                      rw [cat_size, cat_size] at this
                      exact this
                    clear hX hXd bx hc2 dx
                    go_wp2
                    go_round
                    case rel => exact ⟨p + 1, _, by omega, by omega, by go_num, rfl, hs2, HG2⟩
                    case measure => simp [intOf]; omega
                  · obtain rfl : p = B.length := by omega
                    have HGf : Hid (g.data.toList = Pp.tails (Pp.steps A B)) := hid (by
                      rw [HST.out, HGd.out, List.take_of_length_le (by rw [List.length_drop]; exact Nat.le_refl _)])
                    clear hpl HGd
                    by_cases h0 : g.size = 0
                    · have t0 := empty_yes g h0
                      have HG := hid (rel_here HE.out HF.out (by
                        rw [HA.out, HB.out]
                        by_cases hs : Pp.steps A B = []
                        · exact hs
                        · exact absurd (HGf.out.symm.trans (nil_data g h0)) (tails_glue _ hs).2))
                      clear h0
                      go_wp2
                      go_ret2
                      exact ⟨by rw [HG.out]; rfl, hBW2⟩
                    · have t0 := empty_no g h0
                      have hsn : Pp.steps A B ≠ [] := fun e => h0 (data_nil g (by rw [HGf.out, e]; rfl))
                      have HG : Hid (Pp.rel f.data.toList t.data.toList = (g.data.toList.drop 1, 0)) := hid (by
                        have h := rel_way HE.out HF.out (by rw [HA.out, HB.out]; exact hsn)
                        rw [HA.out, HB.out, ← (tails_glue _ hsn).1, ← HGf.out] at h
                        exact h)
                      have h1 : (1 : Int) ≤ (g.size : Int) := by omega
                      clear h0 hsn
                      go_wp2
                      go_ret2
                      exact ⟨by rw [HG.out, ← ext_drop1]; rfl, hBW2⟩
    · have HG := hid (rel_to HE.out (by rw [HF.out]; exact hz2))
      have hne : ((F : Int) != 0) = true := by rw [bne_iff_ne]; omega
      clear hown2 hBl hz2 hr1 hr2
      go_wp2
      go_ret2
      exact ⟨by rw [HG.out, HF.out]; rfl, hB2⟩
  · have HG := hid (rel_from (t := t.data.toList) (by rw [HE.out]; exact hz))
    have hne : ((E : Int) != 0) = true := by rw [bne_iff_ne]; omega
    clear hown1 hAl hz
    go_wp2
    go_ret2
    exact ⟨by rw [HG.out, HE.out]; rfl, hb1⟩
end Go.Proofs.YtmlgggnjghkojabDoor
