/-
  The document's kinded, Sorted.
-/
import Derived.Test.YtnamioihapnefaaGreatDoorUm
import Derived.Laws.AppendOwnNone
namespace Go.Proofs.YtnamioihapnefaaGreatDoor
open Go.RowKit
open Hu (Rw Hk)

/-- append of rows, maybe of none, to a row of the call's own -/
theorem wpList_append_rws {w : World} {ops : Array Oper} {rest : List Oper} {o : Oper} {a : Act} {Q : Exit → Act → World → Prop} (hgd : o.guard = none) (s x : Operand)
    (ho : o.op = .call { callee := .builtin .append, args := #[s, x], argTypes := #[27, 27] }) (B : Nat) (v : Value) (l : List Rw) (hs : a.eval s = v) (hown : OwnW w B v l)
    (B2 : Nat) (u : Value) (m : List Rw) (hx : a.eval x = u) (hm : OwnW w B2 u m) (hnil : m = [] → u = .slice none 0 0) (hfit : l.length + m.length < 5864062014800) (hB : B ≤ w.heap.size)
    (h : ∀ v' w', OwnW w' B v' (l ++ m) → w.grownBy w' v.ownBlock → Lies w v v' → Below B w w' → wpList Tryz.prog ops Q rest (a.put o.dst v') w') : wpList Tryz.prog ops Q (o :: rest) a w := by
  obtain ⟨i0, hi, hz0, hz1, hz2⟩ := info_parts Tryz.infoRow
  by_cases hne : m = []
  · have hu := hnil hne
    subst hu
    refine wpList_append_own_none hgd s x 27 ho B 63 i0 2 Tryz.underlying27 hi v l.length (rwsC l) hs hown hx ?_
    have := h v w (by rw [hne, List.append_nil]; exact hown) ⟨rfl, rfl, rfl, Nat.le_refl _, fun _ _ _ => rfl⟩ (fun k hk => .inl hk) (Below.refl _ _)
    exact this
  · have hml : 0 < m.length := List.length_pos_iff.2 hne
    rcases own_rd hm with ⟨h0, _⟩ | ⟨b, o', c, hv, hc, hb, hX⟩
    · omega
    subst hv
    refine wpList_append_lies _ hgd s x 27 ho B 63 i0 (.agg #[.int .i64 0, .string .empty]) 2 24 Tryz.underlying27 hi hz0 hz1 hz2 rfl (by decide) v l.length (rwsC l) hs hown ⟨b, o', none⟩ m.length c (rwsC m) hx (rwsC_length m) ?_ (rwsC_one m) hml ?_ ?_ hB w.heap.size rfl ?_
    · intro j u hj
      rw [Go.WideShapes.add_plain]
      exact hX j u hj
    · unfold maxLen; omega
    · omega
    · intro g' cap w' g2 g3 g4 _
      refine h _ w' ?_ g3 ?_ ((Below.refl _ _).grown g3 hB (own_ge hown))
      · show w'.ownsRow _ _ _ _ _ _
        rw [List.length_append, rwsC_append]
        exact g2
      · intro k hk
        cases hk
        rcases g4 with g4 | g4
        · exact .inl g4
        · exact .inr (Nat.le_of_eq g4.symm)
theorem kin_more {l : List Rw} {k : Nat} {x : Rw} {kk : Int} (h : l[k]? = some x) : Hu.kin kk (l.take (k + 1)) = Hu.kin kk (l.take k) ++ if x.k == kk then [x] else [] := filter_more h
set_option maxHeartbeats 1000000 in
set_option maxRecDepth 100000 in
theorem rKinded_any {w : World} {v : Value} {l : List Rw} {kk : Int} (hv : RdW w v l) (hl : l.length < 5864062014800) :
    Calls Tryz.prog 99 #[v, .int .i64 kk] w fun e w' => ∃ v', e = .returned v' ∧ OwnW w' w.heap.size v' (Hu.kin kk l) ∧ (Hu.kin kk l = [] → v' = .slice none 0 0) ∧ Below w.heap.size w w' := by
  obtain ⟨av, cv, rfl⟩ := hv.shape
  have HV := hid hv
  obtain ⟨n, hn⟩ : ∃ n, n = l.length := ⟨_, rfl⟩
  have HN := hid hn
  rw [← hn] at HV hl ⊢
  clear hv hn
  go_enter Tryz.func99, Tryz.ntmps99
  go_wp2_with fail
  go_loopw [5, 6] (fun vo ii wr => ∃ (k : Nat) (X : List Rw), k ≤ n ∧ ii = .int .i64 k ∧ Hid (X = Hu.kin kk (l.take k)) ∧ Hid (X.length ≤ k) ∧ Hid (OwnW wr w.heap.size vo X) ∧ Hid (X = [] → vo = .slice none 0 0) ∧ Hid (Below w.heap.size w wr)) (fun _ ii _ => n - (intOf ii).toNat)
  case atStart => exact ⟨0, [], Nat.zero_le _, rfl, hid rfl, hid (Nat.le_refl _), hid (World.ownsRow_nil _ _ _ _), hid (fun _ => rfl), Below.refl _ _⟩
  case round =>
    obtain ⟨k, X, hk, rfl, HX, HXL, HO, HNI, HB⟩ := hrel
    obtain ⟨ao, co, eo⟩ := own_shape HO.out
    subst eo
    by_cases hlt : k < n
    · obtain ⟨x, hx⟩ : ∃ x, l[k]? = some x := ⟨_, List.getElem?_eq_getElem (by have := HN.out; omega)⟩
      obtain ⟨b1, o1, e1, hb1, d0, d1⟩ := rdW_at (HV.out.below HB.out) hx
      subst e1
      have HM := hid (kin_more (kk := kk) hx)
      have i1 : (0 : Int) ≤ (k : Int) := by omega
      have i2 : (k : Int) < (n : Int) := by omega
      have hXl : X.length < 5864062014800 := by have := HXL.out; omega
      clear hx hb1
      cases hq : x.k == kk with
      | true =>
        have HX2 : Hid (X ++ [x] = Hu.kin kk (l.take (k + 1))) := hid (by rw [HM.out, hq, HX.out]; rfl)
        have hbn := (Below.refl wr.heap.size wr).alloc (Nat.le_refl _) (.cells #[.int .i64 x.k, .string x.t] 63)
        have HO2 := hid (own_stays HO.out hbn)
        have HB2 := hid (HB.out.trans (hbn.mono HB.out.size))
        clear hbn
        go_wp2_with (at_builtin; refine wpList_append_row rfl _ _ rfl w.heap.size _ X rfl HO2.out wr.heap.size x.k x.t rfl (heap_alloc_new wr _) hXl HB2.out.size ?_; intro v8 w8 hO8 hg8 hl8 hb8; have HO8 : Hid (OwnW w8 w.heap.size v8 (X ++ [x])) := hid hO8; have HB8 := hid (HB2.out.trans hb8); clear hO8 hg8 hl8 hb8)
        go_roundw
        case rel => exact ⟨k + 1, X ++ [x], by omega, by go_num, HX2, hid (by have := HXL.out; rw [List.length_append, List.length_singleton]; omega), HO8, hid (fun h => by simp at h), HB8⟩
        case measure => simp [intOf]; omega
      | false =>
        have HX2 : Hid (X = Hu.kin kk (l.take (k + 1))) := hid (by rw [HM.out, hq, HX.out]; simp)
        go_wp2_with fail
        go_roundw
        case rel => exact ⟨k + 1, X, by omega, by go_num, HX2, hid (by have := HXL.out; omega), HO, HNI, HB⟩
        case measure => simp [intOf]; omega
    · obtain rfl : k = n := by omega
      have HE : Hid (X = Hu.kin kk l) := hid (by rw [HX.out, List.take_of_length_le (by have := HN.out; omega)])
      go_wp2_with fail
      go_ret
      exact ⟨_, rfl, by rw [← HE.out]; exact HO.out, by rw [← HE.out]; exact HNI.out, HB.out⟩
theorem apart_none (v : Value) (n c : Nat) : Apart v (.slice none n c) := fun k _ h => by cases h
theorem kin_len (kk : Int) (l : List Rw) : (Hu.kin kk l).length ≤ l.length := List.length_filter_le _ _
theorem kin_both (l : List Rw) : (Hu.kin 2 l).length + (Hu.kin 3 l).length ≤ l.length := by
  induction l with
  | nil => exact Nat.le_refl _
  | cons r l ih =>
    unfold Hu.kin at ih ⊢
    rw [List.filter_cons, List.filter_cons, List.length_cons]
    by_cases h2 : r.k = 2
    · rw [h2]; simp; omega
    · by_cases h3 : r.k = 3
      · rw [h3]; simp; omega
      · simp [h2, h3]; omega
set_option maxHeartbeats 2000000 in
set_option maxRecDepth 100000 in
theorem rSorted_any {w : World} {v : Value} {l : List Rw} (hv : RdW w v l) (hl : l.length < 5864062014800) :
    Calls Tryz.prog 67 #[v] w fun e w' => ∃ v', e = .returned v' ∧ OwnW w' w.heap.size v' (Hu.srtD l []) ∧ Below w.heap.size w w' := by
  obtain ⟨av, cv, rfl⟩ := hv.shape
  have HV := hid hv
  obtain ⟨n, hn⟩ : ∃ n, n = l.length := ⟨_, rfl⟩
  have HN := hid hn
  rw [← hn] at HV hl ⊢
  have HKI := hid (fun w1 v1 (R : List Rw) (kk : Int) (hr : RdW w1 v1 R) (hR : R.length < 5864062014800) => rKinded_any (kk := kk) hr hR)
  clear hv hn
  go_enter Tryz.func67, Tryz.ntmps67
  go_wp2_with fail
  go_loopw [3, 4, 5] (fun vo vr ii wr => ∃ (k : Nat) (O R : List Rw), k ≤ n ∧ ii = .int .i64 k ∧ Hid (O ++ Hu.srtD (l.drop k) R = Hu.srtD l []) ∧ Hid (O.length + R.length ≤ k) ∧ Hid (OwnW wr w.heap.size vo O) ∧ Hid (OwnW wr w.heap.size vr R) ∧ Hid (Apart vo vr) ∧ Hid (Below w.heap.size w wr)) (fun _ _ ii _ => n - (intOf ii).toNat)
  case atStart => exact ⟨0, [], [], Nat.zero_le _, rfl, hid rfl, hid (Nat.le_refl _), hid (World.ownsRow_nil _ _ _ _), hid (World.ownsRow_nil _ _ _ _), hid (apart_none _ _ _), Below.refl _ _⟩
  case round =>
    obtain ⟨k, O, R, hk, rfl, HI, HLN, HO, HR, HAP, HB⟩ := hrel
    obtain ⟨ao, co, eo⟩ := own_shape HO.out
    subst eo
    obtain ⟨ar, cr, er⟩ := own_shape HR.out
    subst er
    have hLN := HLN.out
    have HK2 := hid (HKI.out wr _ R 2 (own_rd HR.out) (by omega))
    have hk2 := kin_len 2 R
    have hk3 := kin_len 3 R
    have hkb := kin_both R
    have HFT2 : Hid (O.length + (Hu.kin 2 R).length < 5864062014800) := hid (by omega)
    obtain ⟨OL, hOL⟩ : ∃ OL, OL = O ++ Hu.kin 2 R := ⟨_, rfl⟩
    obtain ⟨OM, hOM⟩ : ∃ OM, OM = OL ++ Hu.kin 3 R := ⟨_, rfl⟩
    have HFT3 : Hid (OL.length + (Hu.kin 3 R).length < 5864062014800) := hid (by rw [hOL, List.length_append]; omega)
    have HLM : Hid (OM.length ≤ k) := hid (by rw [hOM, hOL, List.length_append, List.length_append]; omega)
    have HOL := hid hOL
    have HOM := hid hOM
    clear hOL hOM
    by_cases hlt : k < n
    · obtain ⟨x, hx⟩ : ∃ x, l[k]? = some x := ⟨_, List.getElem?_eq_getElem (by have := HN.out; omega)⟩
      obtain ⟨b1, o1, e1, hb1, d0, d1⟩ := rdW_at HV.out hx
      subst e1
      have HCE := hid (fun w1 (h : Below w.heap.size w w1) => And.intro ((h.cell (p := ⟨b1, _, none⟩) hb1).trans d0) ((h.cell (p := ⟨b1, _, none⟩) hb1).trans d1))
      have HDR := hid (dropW hx)
      have i1 : (0 : Int) ≤ (k : Int) := by omega
      have i2 : (k : Int) < (n : Int) := by omega
      clear hx hb1 d0 d1
      obtain ⟨d0, d1⟩ := HCE.out _ HB.out
      cases hq : Hu.isC x with
      | true =>
        have HI2 : Hid (O ++ Hu.srtD (l.drop (k + 1)) (R ++ [x]) = Hu.srtD l []) := hid (by have h := HI.out; rwa [HDR.out, Hu.srtD, if_pos hq] at h)
        have hbn := (Below.refl wr.heap.size wr).alloc (Nat.le_refl _) (.cells #[.int .i64 x.k, .string x.t] 63)
        have HO2 := hid (own_stays HO.out hbn)
        have HR2 := hid (own_stays HR.out hbn)
        have HB2 := hid (HB.out.trans (hbn.mono HB.out.size))
        have hRl : R.length < 5864062014800 := by omega
        have hz : (x.k == 2) = true ∨ ((x.k == 2) = false ∧ (x.k == 3) = true) := by
          unfold Hu.isC at hq
          cases h2 : x.k == 2 with
          | true => exact .inl rfl
          | false => rw [h2] at hq; exact .inr ⟨rfl, by simpa using hq⟩
        clear hbn hq HK2 HKI
        rcases hz with z1 | ⟨z1, z2⟩
        all_goals
          go_wp2_with (at_builtin; refine wpList_append_row rfl _ _ rfl w.heap.size _ R rfl HR2.out wr.heap.size x.k x.t rfl (heap_alloc_new wr _) hRl HB2.out.size ?_; intro v8 w8 hO8 hg8 hl8 hb8; have HR8 : Hid (OwnW w8 w.heap.size v8 (R ++ [x])) := hid hO8; have HO8 := hid (kept_row HO2.out hg8 HAP.out.symm); have HA8 := hid (apart_new HO2.out HAP.out.symm hl8).symm; have HB8 := hid (HB2.out.trans hb8); clear hO8 hg8 hl8 hb8)
          go_roundw
          case rel => exact ⟨k + 1, O, R ++ [x], by omega, by go_num, HI2, hid (by rw [List.length_append, List.length_singleton]; omega), HO8, HR8, HA8, HB8⟩
          case measure => simp [intOf]; omega
      | false =>
        have HI2 : Hid ((OM ++ [x]) ++ Hu.srtD (l.drop (k + 1)) [] = Hu.srtD l []) := hid (by have h := HI.out; rw [HDR.out, Hu.srtD, if_neg (by rw [hq]; simp)] at h; rw [← h, HOM.out, HOL.out]; simp)
        have hz : (x.k == 2) = false ∧ (x.k == 3) = false := by unfold Hu.isC at hq; simpa using hq
        obtain ⟨z1, z2⟩ := hz
        clear hq
        go_wp2_with fail
        refine HK2.out.mono ?_
        rintro e w2 ⟨v2, rfl, hO2, hn2, hb2⟩
        obtain ⟨a2, c2, e2⟩ := own_shape hO2
        subst e2
        have HS2 := hid hO2
        have HN2 := hid hn2
        have HB2 := hid (HB.out.trans (hb2.mono HB.out.size))
        have HO2 := hid (own_stays HO.out hb2)
        have HR2 := hid (own_stays HR.out hb2)
        clear hO2 hn2 hb2 HK2 d0 d1
        go_wp2_with (at_builtin; refine wpList_append_rws rfl _ _ rfl w.heap.size _ O rfl HO2.out wr.heap.size _ (Hu.kin 2 R) rfl HS2.out HN2.out HFT2.out HB2.out.size ?_; intro v3 w3 hO3 hg3 hl3 hb3; rw [← HOL.out] at hO3; obtain ⟨a3, c3, e3⟩ := own_shape hO3; subst e3; have HO3 := hid hO3; have HR3 := hid (kept_row HR2.out hg3 HAP.out); have HB3 := hid (HB2.out.trans hb3); clear hO3 hg3 hl3 hb3)
        refine (HKI.out w3 _ R 3 (own_rd HR3.out) (by omega)).mono ?_
        rintro e w4 ⟨v4, rfl, hO4, hn4, hb4⟩
        obtain ⟨a4, c4, e4⟩ := own_shape hO4
        subst e4
        have HS4 := hid hO4
        have HN4 := hid hn4
        have HB4 := hid (HB3.out.trans (hb4.mono HB3.out.size))
        have HO4 := hid (own_stays HO3.out hb4)
        clear hO4 hn4 hb4 HKI
        obtain ⟨d0, d1⟩ := HCE.out _ HB4.out
        have hOMl : OM.length < 5864062014800 := by have := HLM.out; omega
        go_wp2_with (first | (at_builtin; refine wpList_append_rws rfl _ _ rfl w.heap.size _ OL rfl HO4.out w3.heap.size _ (Hu.kin 3 R) rfl HS4.out HN4.out HFT3.out HB4.out.size ?_; intro v5 w5 hO5 hg5 hl5 hb5; rw [← HOM.out] at hO5; obtain ⟨a5, c5, e5⟩ := own_shape hO5; subst e5; have HO5 := hid hO5; have HB5 := hid (HB4.out.trans hb5); clear hO5 hg5 hl5 hb5; obtain ⟨d0, d1⟩ := HCE.out _ HB5.out; have hbn := (Below.refl w5.heap.size w5).alloc (Nat.le_refl _) (.cells #[.int .i64 x.k, .string x.t] 63); have HO6 := hid (own_stays HO5.out hbn); have HB6 := hid (HB5.out.trans (hbn.mono HB5.out.size)); clear hbn) | (at_builtin; refine wpList_append_row rfl _ _ rfl w.heap.size _ OM rfl HO6.out w5.heap.size x.k x.t rfl (heap_alloc_new w5 _) hOMl HB6.out.size ?_; intro v8 w8 hO8 hg8 hl8 hb8; have HO8 : Hid (OwnW w8 w.heap.size v8 (OM ++ [x])) := hid hO8; have HB8 := hid (HB6.out.trans hb8); clear hO8 hg8 hl8 hb8))
        go_roundw
        case rel => exact ⟨k + 1, OM ++ [x], [], by omega, by go_num, HI2, hid (by have := HLM.out; rw [List.length_append, List.length_singleton, List.length_nil]; omega), HO8, hid (World.ownsRow_nil _ _ _ _), hid (apart_none _ _ _), HB8⟩
        case measure => simp [intOf]; omega
    · obtain rfl : k = n := by omega
      have HE : Hid (OM = Hu.srtD l []) := hid (by have h := HI.out; rw [List.drop_of_length_le (by have := HN.out; omega), Hu.srtD] at h; rw [← h, HOM.out, HOL.out]; simp)
      go_wp2_with fail
      refine HK2.out.mono ?_
      rintro e w2 ⟨v2, rfl, hO2, hn2, hb2⟩
      obtain ⟨a2, c2, e2⟩ := own_shape hO2
      subst e2
      have HS2 := hid hO2
      have HN2 := hid hn2
      have HB2 := hid (HB.out.trans (hb2.mono HB.out.size))
      have HO2 := hid (own_stays HO.out hb2)
      have HR2 := hid (own_stays HR.out hb2)
      clear hO2 hn2 hb2 HK2
      go_wp2_with (at_builtin; refine wpList_append_rws rfl _ _ rfl w.heap.size _ O rfl HO2.out wr.heap.size _ (Hu.kin 2 R) rfl HS2.out HN2.out HFT2.out HB2.out.size ?_; intro v3 w3 hO3 hg3 hl3 hb3; rw [← HOL.out] at hO3; obtain ⟨a3, c3, e3⟩ := own_shape hO3; subst e3; have HO3 := hid hO3; have HR3 := hid (kept_row HR2.out hg3 HAP.out); have HB3 := hid (HB2.out.trans hb3); clear hO3 hg3 hl3 hb3)
      refine (HKI.out w3 _ R 3 (own_rd HR3.out) (by omega)).mono ?_
      rintro e w4 ⟨v4, rfl, hO4, hn4, hb4⟩
      obtain ⟨a4, c4, e4⟩ := own_shape hO4
      subst e4
      have HS4 := hid hO4
      have HN4 := hid hn4
      have HB4 := hid (HB3.out.trans (hb4.mono HB3.out.size))
      have HO4 := hid (own_stays HO3.out hb4)
      clear hO4 hn4 hb4 HKI
      go_wp2_with (at_builtin; refine wpList_append_rws rfl _ _ rfl w.heap.size _ OL rfl HO4.out w3.heap.size _ (Hu.kin 3 R) rfl HS4.out HN4.out HFT3.out HB4.out.size ?_; intro v5 w5 hO5 hg5 hl5 hb5; rw [← HOM.out] at hO5; obtain ⟨a5, c5, e5⟩ := own_shape hO5; subst e5; have HO5 := hid hO5; have HB5 := hid (HB4.out.trans hb5); clear hO5 hg5 hl5 hb5)
      go_ret
      exact ⟨_, rfl, by rw [← HE.out]; exact HO5.out, HB5.out⟩
end Go.Proofs.YtnamioihapnefaaGreatDoor
