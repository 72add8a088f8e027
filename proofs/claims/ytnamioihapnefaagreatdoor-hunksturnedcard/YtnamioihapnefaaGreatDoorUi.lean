/-
  The walk of putOldAhead.
-/
import Derived.Test.YtnamioihapnefaaGreatDoorUh
namespace Go.Proofs.YtnamioihapnefaaGreatDoor
open Go.RowKit
open Hu (Rw Hk)

theorem filter_more {M : List Rw} {k : Nat} {x : Rw} {p : Rw → Bool} (h : M[k]? = some x) : (M.take (k + 1)).filter p = (M.take k).filter p ++ if p x then [x] else [] := by
  rw [List.take_add_one, h, List.filter_append]
  cases hp : p x <;> simp [hp]
theorem filter_le {M : List Rw} {k : Nat} {p : Rw → Bool} (hk : k ≤ M.length) : ((M.take k).filter p).length ≤ k := by
  have h1 : (M.take k).length = k := by rw [List.length_take]; omega
  have h2 := List.length_filter_le p (M.take k)
  omega
theorem win_rest {M O : List Rw} {k : Nat} (hO : O.length ≤ k) : (O ++ M.drop O.length)[k]? = M[k]? := by
  rw [List.getElem?_append_right hO, List.getElem?_drop, show O.length + (k - O.length) = k by omega]
theorem run_copy_zero {w : World} {ty : TypeId} {d : Option Addr} {dLen dCap fc : Nat} {fa : Option Addr} : (Builtin.copy_ #[27, 27] ty #[.slice d dLen dCap, .slice fa 0 fc]).run Tryz.prog w = .ok (goInt 0) w := by
  obtain ⟨i0, hi, hz0, hz1, hz2⟩ := info_parts Tryz.infoRow
  have hm : Nat.min 0 dLen = 0 := Nat.zero_min dLen
  cases d <;> cases fa <;> simp [Builtin.copy_, run_underlying Tryz.underlying27, Builtin.lenOf, Builtin.firstCells, sizeOf, typeInfo, hi, storeCells, loadCells, loadCellsFrom, hm]
set_option maxHeartbeats 2000000 in
set_option maxRecDepth 100000 in
theorem putOld_any {w : World} {b c : Nat} {A C : List Value} {M : List Rw} (hW : Win w b A M C) (hne : M ≠ []) (hc : M.length ≤ c) (hl : M.length < 5864062014800) :
    Calls Tryz.prog 66 #[.slice (some ⟨b, A.length, none⟩) M.length c] w fun e w' => e = .returned (.tuple #[]) ∧ Kept (fun g => g = b) w w' ∧ Win w' b A (Hu.srt2 M) C := by
  have HW := hid hW
  have hbl := hW.lt
  obtain ⟨n, hn⟩ : ∃ n, n = M.length := ⟨_, rfl⟩
  have HN := hid hn
  have hn0 : 0 < n := by rw [hn]; exact List.length_pos_iff.2 hne
  obtain ⟨AL, hAL⟩ : ∃ AL, AL = A.length := ⟨_, rfl⟩
  have HAL := hid hAL
  rw [← hn] at hc hl ⊢
  rw [← hAL]
  clear hW hn hne hAL
  go_enter Tryz.func66, Tryz.ntmps66
  go_wp2_with fail
  go_loopw [2, 3, 10] (fun oo ff ii wr => ∃ (k : Nat) (O F : List Rw) (ol : Nat), k ≤ n ∧ ii = .int .i64 k ∧ oo = .slice (some ⟨b, AL, none⟩) ol c ∧ ol ≤ k ∧ Hid (ol = O.length) ∧ Hid (O = (M.take k).filter (fun r => r.k == 2) ∧ F = (M.take k).filter (fun r => !(r.k == 2))) ∧ Hid (Win wr b A (O ++ M.drop O.length) C) ∧ Hid (OwnW wr w.heap.size ff F) ∧ Hid (Kept (fun g => g = b) w wr)) (fun _ _ ii _ => n - (intOf ii).toNat)
  case atStart => exact ⟨0, [], [], 0, Nat.zero_le _, rfl, rfl, Nat.le_refl _, hid rfl, hid ⟨rfl, rfl⟩, HW, hid (World.ownsRow_nil _ _ _ _), hid ⟨rfl, rfl, rfl, Nat.le_refl _, fun _ _ _ => rfl⟩⟩
  case round =>
    obtain ⟨k, O, F, ol, hk, rfl, rfl, holk, HOL, HOF, HWr, HO, HK⟩ := hrel
    obtain ⟨fa, fc, ef⟩ := own_shape HO.out
    subst ef
    have hFl : F.length ≤ k := by rw [HOF.out.2]; exact filter_le (by have := HN.out; omega)
    by_cases hlt : k < n
    · obtain ⟨x, hx⟩ : ∃ x, M[k]? = some x := ⟨_, List.getElem?_eq_getElem (by have := HN.out; omega)⟩
      obtain ⟨d0, d1⟩ := HWr.out.at ((win_rest (by have := HOL.out; omega)).trans hx)
      rw [← HAL.out] at d0 d1
      have HX := hid hx
      have i1 : (0 : Int) ≤ (k : Int) := by omega
      have i2 : (k : Int) < (n : Int) := by omega
      have hbG := (Below.refl wr.heap.size wr).alloc (Nat.le_refl _) (.cells #[.int .i64 x.k, .string x.t] 63)
      obtain ⟨t1, t2, t3, t4⟩ := two' wr (.cells #[.int .i64 x.k, .string x.t] 63) (.cells #[.int .i64 x.k, .string x.t] 63)
      have HT := hid (And.intro t1 (And.intro t2 (And.intro t3 t4)))
      have HK2 := hid (HK.out.on t1)
      have HW2 := hid (HWr.out.keep (t1.block b HWr.out.lt))
      have HO2 := hid (own_stays HO.out t1)
      obtain ⟨FL, hFL⟩ : ∃ FL, FL = F.length := ⟨_, rfl⟩
      have HFL := hid hFL
      have hsz : w.heap.size ≤ ((wr.alloc (.cells #[.int .i64 x.k, .string x.t] 63)).alloc (.cells #[.int .i64 x.k, .string x.t] 63)).heap.size := HK2.out.size
      clear hx hbG t1 t2 t3 t4
      cases h2 : x.k == 2 with
      | true =>
        have HOF2 : Hid (O ++ [x] = (M.take (k + 1)).filter (fun r => r.k == 2) ∧ F = (M.take (k + 1)).filter (fun r => !(r.k == 2))) := hid ⟨by rw [filter_more HX.out, ← HOF.out.1, if_pos h2], by rw [filter_more HX.out, ← HOF.out.2, if_neg (by simp [h2]), List.append_nil]⟩
        obtain ⟨y, hy⟩ : ∃ y, M[O.length]? = some y := ⟨_, List.getElem?_eq_getElem (by have := HN.out; have := HOL.out; omega)⟩
        have HD : Hid (M.drop O.length = y :: M.drop (O.length + 1)) := hid (dropW hy)
        have HW3 := hid (Win.put (r := x) (m := ol) (HD.out ▸ HW2.out) HOL.out.symm)
        have HWE : Hid (O ++ x :: M.drop (O.length + 1) = (O ++ [x]) ++ M.drop (O ++ [x]).length) := hid (by rw [List.length_append, List.length_singleton, List.append_assoc]; rfl)
        rw [HWE.out, ← HAL.out] at HW3
        obtain ⟨cur, hcu, hcl⟩ := HW2.out
        have HCU := hid hcu
        have hfit : AL + ol * 2 + 2 ≤ cur.size := by
          have h1 := congrArg List.length hcl
          have h3 : (O ++ M.drop O.length).length = n := by rw [List.length_append, List.length_drop]; have := HN.out; have := HOL.out; omega
          rw [List.length_append, List.length_append, rwsC_length, h3, Array.length_toList, ← HAL.out] at h1
          omega
        have HK3 := hid (Kept.set (k := AL + ol * 2 + 1) (u := .string x.t) (Kept.set (k := AL + ol * 2) (u := .int .i64 x.k) HK2.out (.inl rfl)) (.inl rfl))
        have HO3 : Hid (OwnW ((((wr.alloc (.cells #[.int .i64 x.k, .string x.t] 63)).alloc (.cells #[.int .i64 x.k, .string x.t] 63)).setCell ⟨b, AL + ol * 2, none⟩ (.int .i64 x.k)).setCell ⟨b, AL + ol * 2 + 1, none⟩ (.string x.t)) w.heap.size (.slice fa F.length fc) F) := hid (own_far (own_far HO2.out (fun i hi => set_other _ (fun e => by have := own_ge HO2.out i hi; omega))) (fun i hi => set_other _ (fun e => by have := own_ge HO2.out i hi; omega)))
        have hoc : ol < c := by omega
        clear hcu hcl hy
        rw [← hFL] at HO3 ⊢
        clear hFL
        go_wp2_with (at_builtin; refine wpList_append_in rfl _ _ rfl b AL ol c rfl hoc (wr.heap.size + 1) x rfl HT.out.2.2.1 cur HCU.out hfit ?_)
        go_roundw
        case rel => exact ⟨k + 1, O ++ [x], F, ol + 1, by omega, by go_num, rfl, by omega, hid (by rw [List.length_append, List.length_singleton, HOL.out]), HOF2, HW3, hid (by have h := HO3.out; rw [HFL.out] at h ⊢; exact h), HK3⟩
        case measure => simp [intOf]; omega
      | false =>
        have HOF2 : Hid (O = (M.take (k + 1)).filter (fun r => r.k == 2) ∧ F ++ [x] = (M.take (k + 1)).filter (fun r => !(r.k == 2))) := hid ⟨by rw [filter_more HX.out, ← HOF.out.1, if_neg (by simp [h2]), List.append_nil], by rw [filter_more HX.out, ← HOF.out.2, if_pos (by simp [h2])]⟩
        have hfl : F.length < 5864062014800 := by omega
        have HBL := hid hbl
        clear hFL
        go_wp2_with (at_builtin; refine wpList_append_row rfl _ _ rfl w.heap.size _ F rfl HO2.out (wr.heap.size + 1) x.k x.t rfl HT.out.2.2.1 hfl hsz ?_; intro v8 w8 hO8 hg8 hl8 hb8; have HO8 : Hid (OwnW w8 w.heap.size v8 (F ++ [x])) := hid hO8; have HK8 := hid (HK2.out.grown hg8 (fun g hg => .inr (own_ge HO2.out g hg))); have HW8 := hid (HW2.out.keep (hg8.block b HW2.out.lt (fun e => by have := own_ge HO2.out b e.symm; have := HBL.out; omega))); clear hO8 hg8 hl8 hb8)
        go_roundw
        case rel => exact ⟨k + 1, O, F ++ [x], ol, by omega, by go_num, rfl, by omega, HOL, HOF2, HW8, HO8, HK8⟩
        case measure => simp [intOf]; omega
    · obtain rfl : k = n := by omega
      have htk : M.take k = M := List.take_of_length_le (by have := HN.out; omega)
      have HE : Hid (Hu.srt2 M = O ++ F) := hid (by unfold Hu.srt2; rw [HOF.out.1, HOF.out.2, htk])
      have HLN : Hid (ol + F.length = k) := hid (by
        have h1 := congrArg List.length HE.out
        rw [Hu.srt2_len, List.length_append] at h1
        have := HN.out
        have := HOL.out
        omega)
      have hln := HLN.out
      have j1 : (ol : Int) ≤ (k : Int) := by omega
      by_cases hF : F = []
      · have HWE : Hid (Win wr b A (Hu.srt2 M) C) := hid (by
          have h := HWr.out
          rw [HE.out, hF, List.append_nil]
          rwa [List.drop_of_length_le (by rw [hF, List.length_nil] at hln; have := HOL.out; have := HN.out; omega), List.append_nil] at h)
        have HFN := hid hF
        have hol : ol = k := by rw [hF, List.length_nil] at hln; omega
        subst hF
        subst hol
        have HRUN := hid (fun ty d1 d2 d3 => run_copy_zero (w := wr) (ty := ty) (d := d1) (dLen := d2) (dCap := d3) (fa := fa) (fc := fc))
        clear HOL HOF HLN hln htk HWr HE
        by_cases hcf : c = ol
        all_goals
          go_wp2_with fail
          rw [HRUN.out]
          simp only [Result.andThen_ok]
          rw [Oper.upon_value]
          go_wp2_with fail
          exact bodyPost_end (v := .tuple #[]) (by simp [results, Tryz.results66]) rfl ⟨rfl, HK.out, HWE.out⟩
      · obtain ⟨FL, hFL⟩ : ∃ FL, FL = F.length := ⟨_, rfl⟩
        have hFp : 0 < FL := by rw [hFL]; exact List.length_pos_iff.2 hF
        obtain ⟨g, fo, hfa, hfb, hfX⟩ : ∃ g fo, fa = some ⟨g, fo, none⟩ ∧ g < wr.heap.size ∧ ∀ j u, (rwsC F)[j]? = some u → wr.cell? ⟨g, fo + j, none⟩ = some u := by
          rcases own_rd HO.out with ⟨h0, _⟩ | ⟨g, fo, c', hv, _, hb', hX⟩
          · omega
          · injection hv with e1 e2 e3
            exact ⟨g, fo, e1, hb', hX⟩
        subst hfa
        obtain ⟨cur, hcu, hcl⟩ := HWr.out
        have hOl : (rwsC O).length = ol * 2 := by rw [rwsC_length, ← HOL.out]
        have hDl : (rwsC (M.drop O.length)).length = FL * 2 := by rw [rwsC_length, List.length_drop]; have := HN.out; have := HOL.out; omega
        have hFr : (rwsC F).length = FL * 2 := by rw [rwsC_length, hFL]
        have hcl2 : cur.toList = (A ++ rwsC O) ++ (rwsC (M.drop O.length) ++ C) := by rw [hcl, rwsC_append]; simp only [List.append_assoc]
        have hAO : (A ++ rwsC O).length = AL + ol * 2 := by rw [List.length_append, hOl, HAL.out]
        have hsz : AL + ol * 2 + FL * 2 ≤ cur.size := by
          have h1 := congrArg List.length hcl2
          simp only [List.length_append, Array.length_toList] at h1
          have := HAL.out
          omega
        have hko : k - ol = FL := by omega
        have HRUN := hid (fun ty => run_copy_rows (w := wr) (ty := ty) (g := b) (o := AL + ol * 2) (dLen := k - ol) (dCap := c - ol) (a := ⟨g, fo, none⟩) (sLen := FL) (sCap := fc) (cs := rwsC F) hcu (by rw [hFr, hko]; show FL * 2 = min FL FL * 2; rw [Nat.min_self]) (fun j u hj => by rw [Go.WideShapes.add_plain]; exact hfX j u hj) (by rw [hFr]; exact hsz) (rwsC_one F))
        have hnew : (cur.toList.take (AL + ol * 2) ++ rwsC F ++ cur.toList.drop (AL + ol * 2 + (rwsC F).length)) = A ++ (rwsC (O ++ F) ++ C) := by
          rw [hcl2, hFr, List.take_left' hAO]
          have e1 : ((A ++ rwsC O) ++ (rwsC (M.drop O.length) ++ C)).drop (AL + ol * 2 + FL * 2) = C := by
            rw [← List.append_assoc]
            exact List.drop_left' (by rw [List.length_append, hAO, hDl])
          rw [e1, rwsC_append]
          simp only [List.append_assoc]
        have hgn : g ≠ b := fun e => by have := own_ge HO.out g rfl; omega
        have HWE : Hid (Win (wr.setRow b (cur.toList.take (AL + ol * 2) ++ rwsC F ++ cur.toList.drop (AL + ol * 2 + (rwsC F).length)).toArray) b A (Hu.srt2 M) C) := hid ⟨_, setRow_heap wr b _ _ _ hcu, by rw [List.toList_toArray, hnew, HE.out]⟩
        have HKE : Hid (Kept (fun g => g = b) w (wr.setRow b (cur.toList.take (AL + ol * 2) ++ rwsC F ++ cur.toList.drop (AL + ol * 2 + (rwsC F).length)).toArray)) := hid ⟨HK.out.os, HK.out.tape, HK.out.output, by rw [setRow_size]; exact HK.out.size, fun j hj hx => (setRow_other _ _ hx).trans (HK.out.block j hj hx)⟩
        generalize wr.setRow b (cur.toList.take (AL + ol * 2) ++ rwsC F ++ cur.toList.drop (AL + ol * 2 + (rwsC F).length)).toArray = w9 at HRUN HWE HKE
        have hcf : ¬ c = ol := by omega
        rw [← hFL]
        clear HOL HOF HLN hln htk HWr HE hcu hcl hOl hDl hFr hcl2 hAO hsz hko hnew hfX hFL hF
        go_wp2_with fail
        rw [HRUN.out]
        simp only [Result.andThen_ok]
        rw [Oper.upon_value]
        go_wp2_with fail
        exact bodyPost_end (v := .tuple #[]) (by simp [results, Tryz.results66]) rfl ⟨rfl, HKE.out, HWE.out⟩
end Go.Proofs.YtnamioihapnefaaGreatDoor
