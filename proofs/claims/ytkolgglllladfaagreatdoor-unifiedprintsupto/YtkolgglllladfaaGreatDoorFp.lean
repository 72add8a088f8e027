/-
  Unified diffs, plain: what is printed, and that it is read as it was.
-/
import Derived.Test.YtkolgglllladfaaGreatDoorFh
import Derived.Lib.ItoaNum
namespace Go.Proofs.YtkolgglllladfaaGreatDoor.Un
open Hu (Rw Hk)

/-! ### numbers -/
theorem dec_dg : ∀ (m u : Nat), u ≤ m → (Lib.decDigits u).all dg = true ∧ Lib.decDigits u ≠ [] ∧ val (Lib.decDigits u) = u
  | 0, u, h => by
    have : u = 0 := by omega
    subst this
    rw [Lib.decDigits_one (by omega)]
    decide
  | m + 1, u, h => by
    by_cases hu : u < 10
    · rw [Lib.decDigits_one hu]
      have : ∀ i : Nat, i < 10 → ([UInt8.ofNat (48 + i)].all dg = true ∧ [UInt8.ofNat (48 + i)] ≠ [] ∧ val [UInt8.ofNat (48 + i)] = i) := by decide
      exact this u hu
    · rw [Lib.decDigits, dif_neg hu]
      obtain ⟨h1, h2, h3⟩ := dec_dg m (u / 10) (by omega)
      have hd : ∀ i : Nat, i < 10 → (dg (UInt8.ofNat (48 + i)) = true ∧ (UInt8.ofNat (48 + i)).toNat - 48 = i) := by decide
      have h4 := hd (u % 10) (Nat.mod_lt _ (by omega))
      refine ⟨?_, by simp, ?_⟩
      · rw [List.all_append, h1, List.all_cons, h4.1]
        rfl
      · unfold val at h3 ⊢
        rw [List.foldl_append, h3]
        simp only [List.foldl_cons, List.foldl_nil]
        rw [h4.2]
        omega
def dec (n : Int) : Bs := Lib.itoa n
theorem dec_nat (u : Nat) : dec u = Lib.decDigits u := by
  unfold dec Lib.itoa
  rw [if_neg (by omega)]
  simp
theorem num_dec {u : Nat} (h : u ≤ 2147483647) : numP (dec u) = some u := by
  rw [dec_nat]
  obtain ⟨h1, h2, h3⟩ := dec_dg u u (Nat.le_refl _)
  unfold numP
  rw [if_pos ⟨h2, h1, by rw [h3]; exact h⟩, h3]
theorem dec_no {u : Nat} {c : UInt8} (h : dg c = false) : c ∉ dec u := fun hm => by
  rw [dec_nat] at hm
  have := List.all_eq_true.1 (dec_dg u u (Nat.le_refl _)).1 c hm
  rw [h] at this
  cases this
def rngT (a n : Int) : Bs := if n = 1 then dec a else dec a ++ 44 :: dec n
theorem rng_T {a n : Nat} (ha : a ≤ 2147483647) (hn : n ≤ 2147483647) : rngP (rngT a n) = some (a, n) := by
  unfold rngT rngP
  by_cases h1 : (n : Int) = 1
  · have : n = 1 := by omega
    subst this
    rw [if_pos (by rfl), cut_none (dec_no dg_44)]
    simp only
    rw [num_dec ha]
    rfl
  · rw [if_neg h1]
    have := cut_at (d := 44) (sep := []) (x := dec a) (dec n) (dec_no dg_44)
    rw [show dec (a : Int) ++ 44 :: dec n = dec a ++ ([44] ++ dec n) from rfl]
    rw [show ([44] : Bs) = 44 :: [] from rfl, this]
    simp only
    rw [num_dec ha, num_dec hn]
theorem rng_no {a n : Nat} {c : UInt8} (h : dg c = false) (h44 : c ≠ 44) : c ∉ rngT a n := by
  unfold rngT
  split
  · exact dec_no h
  · intro hm
    rcases List.mem_append.1 hm with hm | hm
    · exact dec_no h hm
    · rcases List.mem_cons.1 hm with hm | hm
      · exact h44 hm
      · exact dec_no h hm
/-! ### texts -/
def miss : Bs := [92, 32, 78, 111, 32, 110, 101, 119, 108, 105, 110, 101, 32, 97, 116, 32, 101, 110, 100, 32, 111, 102, 32, 102, 105, 108, 101]
def tailT (t : Bs) : Bs := if Pl.wh t = true then t else t ++ 10 :: (miss ++ [10])
def mkR (k : Int) : UInt8 := if k = 1 then 32 else if k = 2 then 45 else 43
def rowT (r : Rw) : Bs := mkR r.k :: tailT r.t.data.toList
def headT (h : Bs) : Bs := if h = [] then [] else 32 :: h
def placeT (h : Hk) : Bs := mkB ++ (rngT h.a h.n ++ (mkM ++ (rngT h.b h.m ++ (mkC ++ headT h.head.data.toList))))
def hunkT (h : Hk) : Bs := placeT h ++ 10 :: h.rows.flatMap rowT
def nameT (mark : Bs) (n : Bs × Bs) : Bs := mark ++ (Pq.quote n.1 ++ (if n.2 = [] then [] else 9 :: n.2))
def printT (o q : Bs × Bs) (hs : List Hk) : Bs := nameT mkOld o ++ 10 :: (nameT mkNew q ++ 10 :: hs.flatMap hunkT)
def nameOk (n : Bs × Bs) : Bool := !n.1.isEmpty && (!n.1.contains 0 && (!n.2.contains 9 && (!n.2.contains 10 && !n.2.contains 0)))
theorem nx_app {p q : Bs} (h : (10 : UInt8) ∉ p) : nx (p ++ 10 :: q) = p ++ [10] := by
  unfold nx
  rw [if_pos (.inl (by simp)), Pl.fl_hit p q h, List.take_append, List.take_of_length_le (by omega), show p.length + 1 - p.length = 1 by omega]
  rfl
theorem adv_app {p q : Bs} (h : (10 : UInt8) ∉ p) : adv (p ++ 10 :: q) = q := by
  unfold adv
  rw [Pl.fl_hit p q h, List.drop_append, List.drop_of_length_le (by omega), show p.length + 1 - p.length = 1 by omega]
  rfl
theorem placeT_back {h : Hk} {a n b m : Nat} (ha : h.a = a) (hn : h.n = n) (hb : h.b = b) (hm : h.m = m) (la : a ≤ 2147483647) (ln : n ≤ 2147483647) (lb : b ≤ 2147483647) (lm : m ≤ 2147483647) : placeP (placeT h) = some ⟨a, n, b, m, h.head.data.toList⟩ := by
  rw [place_eq]
  unfold placeD placeT
  rw [pre_some.2 rfl, ha, hn, hb, hm]
  simp only
  rw [spD_of (rng_T la ln) (z := mkM ++ (rngT b m ++ (mkC ++ headT h.head.data.toList))) (off_32 _)]
  simp only
  rw [pre_some.2 rfl]
  simp only
  rw [spD_of (rng_T lb lm) (z := mkC ++ headT h.head.data.toList) (off_32 _)]
  simp only
  rw [pre_some.2 rfl]
  simp only
  unfold headT
  cases h.head.data.toList with
  | nil => rfl
  | cons c t => rfl
theorem placeT_10 {h : Hk} {a n b m : Nat} (ha : h.a = a) (hn : h.n = n) (hb : h.b = b) (hm : h.m = m) (hh : (10 : UInt8) ∉ h.head.data.toList) : (10 : UInt8) ∉ placeT h := by
  have d10 : dg 10 = false := by decide
  unfold placeT
  rw [ha, hn, hb, hm]
  intro hx
  simp only [List.mem_append] at hx
  rcases hx with hx | hx | hx | hx | hx | hx
  · revert hx; decide
  · exact rng_no d10 (by decide) hx
  · revert hx; decide
  · exact rng_no d10 (by decide) hx
  · revert hx; decide
  · unfold headT at hx
    split at hx
    · cases hx
    · rcases List.mem_cons.1 hx with hx | hx
      · cases hx
      · exact hh hx
theorem nameT_back {mark : Bs} {n : Bs × Bs} (h : nameOk n = true) : hdrP mark (nameT mark n ++ [10]) = some n := by
  unfold hdrP nameT
  rw [List.append_assoc, pre_some.2 rfl]
  simp only
  rw [List.append_assoc, ← List.append_assoc, bare_end]
  have he : Pq.ends (if n.2 = [] then [] else 9 :: n.2) := by
    unfold Pq.ends
    split
    · simp
    · simp
  rw [Pq.back _ _ (.inr he)]
  simp only
  obtain ⟨a, st⟩ := n
  cases st with
  | nil => rfl
  | cons c t => rfl
theorem nameT_10 {mark : Bs} {n : Bs × Bs} (hk : (10 : UInt8) ∉ mark) (h : nameOk n = true) : (10 : UInt8) ∉ nameT mark n := by
  unfold nameOk at h
  simp only [Bool.and_eq_true, Bool.not_eq_true', List.contains_eq_mem, decide_eq_false_iff_not] at h
  unfold nameT
  intro hx
  simp only [List.mem_append] at hx
  rcases hx with hx | hx | hx
  · exact hk hx
  · have := (Pq.quote_seen n.1 10 hx).1
    revert this; decide
  · split at hx
    · cases hx
    · rcases List.mem_cons.1 hx with hx | hx
      · cases hx
      · exact h.2.2.2.1 hx
/-! ### rows -/
theorem mkR_end (k : Int) (t : Bs) : isEnd (mkR k :: t) = false := by
  unfold isEnd mkR
  split
  · rfl
  · split <;> rfl
theorem nx_cons (c : UInt8) (t : Bs) : ∃ u, nx (c :: t) = c :: u := by
  unfold nx
  split
  · have := Pl.fl_pos (c :: t) (by simp)
    cases hf : Pl.fl (c :: t) with
    | zero => omega
    | succ k => exact ⟨t.take k, by simp⟩
  · exact ⟨t ++ [10], rfl⟩
theorem isEnd_nx (c : UInt8) (t : Bs) : isEnd (nx (c :: t)) = (c == 92) := by
  obtain ⟨u, hu⟩ := nx_cons c t
  rw [hu]
  unfold isEnd
  simp
theorem isEnd_rows (l : List Rw) {z : Bs} (hz : isEnd (nx z) = false) : isEnd (nx (l.flatMap rowT ++ z)) = false := by
  cases l with
  | nil => exact hz
  | cons r l =>
    rw [List.flatMap_cons]
    unfold rowT
    rw [List.cons_append, List.cons_append, isEnd_nx]
    unfold mkR
    split
    · rfl
    · split <;> rfl
theorem mark_row {k : Int} (hk : k = 1 ∨ k = 2 ∨ k = 3) (t : Bs) : mark (mkR k :: t) = some (k, 1) := by
  rcases hk with rfl | rfl | rfl <;> (unfold mark mkR; simp)
theorem ok_parts {t : ByteArray} (h : Hu.okT t = true) : (Pl.wh t.data.toList = true ∧ ∃ p, t.data.toList = p ++ [10] ∧ (10 : UInt8) ∉ p) ∨ (Pl.wh t.data.toList = false ∧ (10 : UInt8) ∉ t.data.toList) := by
  unfold Hu.okT Pl.ok1 at h
  rcases Pl.parts t.data.toList 10 with hm | ⟨p, q, e, hp⟩
  · right
    refine ⟨?_, hm⟩
    cases hw : Pl.wh t.data.toList with
    | false => rfl
    | true =>
      unfold Pl.wh at hw
      rw [beq_iff_eq] at hw
      exact absurd (List.mem_of_getLast? hw) hm
  · left
    rw [e] at h ⊢
    have hq : q = [] := by
      cases q with
      | nil => rfl
      | cons c q =>
        exfalso
        rw [Pl.fl_hit p _ hp] at h
        simp at h
    subst hq
    exact ⟨by unfold Pl.wh; simp, p, rfl, hp⟩
def cntO (l : List Rw) : Nat := (Hu.olds l).length
def cntF (l : List Rw) : Nat := (Hu.fres l).length
theorem less_row {r : Rw} {l : List Rw} (hk : r.k = 1 ∨ r.k = 2 ∨ r.k = 3) : less r.k (cntO (r :: l)) (cntF (r :: l)) = some (cntO l, cntF l) ∧ ¬ (cntO (r :: l) = 0 ∧ cntF (r :: l) = 0) := by
  unfold cntO cntF
  rw [Hu.olds_cons, Hu.fres_cons]
  unfold less Hu.isO Hu.isF
  rcases hk with h | h | h <;> (rw [h]; simp)
def rwB (r : Rw) : Int × Bs := (r.k, r.t.data.toList)
theorem toR_rwB (r : Rw) : toR (rwB r) = r := by
  obtain ⟨k, t⟩ := r
  unfold toR rwB
  simp
/-- rows that are printed are read -/
theorem rows_back : ∀ (l : List Rw) (z : Bs) (c : Nat), (∀ r ∈ l, (r.k = 1 ∨ r.k = 2 ∨ r.k = 3) ∧ Hu.okT r.t = true) → isEnd (nx z) = false →
    ∃ c', c ≤ c' ∧ rowsP (lns (l.flatMap rowT ++ z)) (cntO l) (cntF l) c = .ok (l.map rwB) (lns z) c' ∧ advN (c' - c) (l.flatMap rowT ++ z) = z
  | [], z, c, _, hz => ⟨c, Nat.le_refl _, by
    rw [List.flatMap_nil, List.nil_append]
    show rowsP (lns z) 0 0 c = _
    rw [rowsP_stop, hz]
    rfl, by rw [Nat.sub_self]; rfl⟩
  | r :: l, z, c, hl, hz => by
    obtain ⟨hk, hok⟩ := hl r List.mem_cons_self
    have hl' : ∀ r ∈ l, (r.k = 1 ∨ r.k = 2 ∨ r.k = 3) ∧ Hu.okT r.t = true := fun q hq => hl q (List.mem_cons_of_mem _ hq)
    obtain ⟨hle, hne⟩ := less_row (l := l) hk
    have hm10 : (10 : UInt8) ≠ mkR r.k := by unfold mkR; rcases hk with h | h | h <;> (rw [h]; decide)
    have hez := isEnd_rows l hz
    rw [rowsP_step _ _ _ _ hne, List.flatMap_cons, List.append_assoc]
    rcases ok_parts hok with ⟨hw, p, ht, hp⟩ | ⟨hw, ht⟩
    · have e : rowT r ++ (l.flatMap rowT ++ z) = (mkR r.k :: p) ++ 10 :: (l.flatMap rowT ++ z) := by
        unfold rowT tailT
        rw [if_pos hw, ht]
        simp
      have hp' : (10 : UInt8) ∉ mkR r.k :: p := fun hm => by
        rcases List.mem_cons.1 hm with hm | hm
        · exact hm10 hm
        · exact hp hm
      rw [e, nx_app hp', adv_app hp', List.cons_append, mark_row hk]
      simp only
      rw [hle]
      simp only
      rw [hez]
      obtain ⟨c', h1, h2, h3⟩ := rows_back l z (c + 1) hl' hz
      refine ⟨c', by omega, ?_, ?_⟩
      · rw [h2]
        simp only [Bool.false_eq_true, if_false, Rd.cons, List.map_cons]
        unfold rwB
        rw [ht]
        rfl
      · rw [show c' - c = (c' - (c + 1)) + 1 by omega]
        show advN _ (adv ((mkR r.k :: p) ++ 10 :: (l.flatMap rowT ++ z))) = _
        rw [adv_app hp']
        exact h3
    · have e : rowT r ++ (l.flatMap rowT ++ z) = (mkR r.k :: r.t.data.toList) ++ 10 :: (miss ++ 10 :: (l.flatMap rowT ++ z)) := by
        unfold rowT tailT
        rw [if_neg (by rw [hw]; simp)]
        simp
      have hp' : (10 : UInt8) ∉ mkR r.k :: r.t.data.toList := fun hm => by
        rcases List.mem_cons.1 hm with hm | hm
        · exact hm10 hm
        · exact ht hm
      have hm' : (10 : UInt8) ∉ miss := by decide
      rw [e, nx_app hp', adv_app hp', List.cons_append, mark_row hk]
      simp only
      rw [hle]
      simp only
      rw [nx_app hm', adv_app hm']
      have hem : isEnd (miss ++ [10]) = true := by decide
      rw [hem]
      obtain ⟨c', h1, h2, h3⟩ := rows_back l z (c + 2) hl' hz
      refine ⟨c', by omega, ?_, ?_⟩
      · rw [h2]
        simp only [if_true, Rd.cons, List.map_cons]
        rw [List.drop_succ_cons, List.drop_zero, bare_end]
        rfl
      · rw [show c' - c = (c' - (c + 2)) + 1 + 1 by omega]
        show advN _ (adv (adv ((mkR r.k :: r.t.data.toList) ++ 10 :: (miss ++ 10 :: (l.flatMap rowT ++ z))))) = _
        rw [adv_app hp', adv_app hm']
        exact h3
/-! ### hunks -/
theorem vld_parts {h : Hk} (hv : Hu.vld h = true) : ∃ a n b m : Nat, h.a = a ∧ h.n = n ∧ h.b = b ∧ h.m = m ∧ n = cntO h.rows ∧ m = cntF h.rows ∧ a ≤ 2147483647 ∧ n ≤ 2147483647 ∧ b ≤ 2147483647 ∧ m ≤ 2147483647 ∧ (∀ r ∈ h.rows, (r.k = 1 ∨ r.k = 2 ∨ r.k = 3) ∧ Hu.okT r.t = true) ∧ (10 : UInt8) ∉ h.head.data.toList := by
  unfold Hu.vld Hu.areR Hu.side Hu.headOk at hv
  simp only [Bool.and_eq_true, beq_iff_eq, decide_eq_true_eq, Bool.not_eq_true', List.contains_eq_mem, decide_eq_false_iff_not] at hv
  obtain ⟨⟨hall, _⟩, ⟨hn, ha1, ha2, hvo⟩, ⟨hm, hb1, hb2, hvf⟩, _, hh⟩ := hv
  refine ⟨h.a.toNat, h.n.toNat, h.b.toNat, h.m.toNat, by omega, by omega, by omega, by omega, by unfold cntO; omega, by unfold cntF; omega, by omega, by omega, by omega, by omega, fun r hr => ?_, hh⟩
  have hk := List.all_eq_true.1 hall r hr
  have hk3 : r.k = 1 ∨ r.k = 2 ∨ r.k = 3 := by
    unfold Hu.isC at hk
    simp only [Bool.or_eq_true, beq_iff_eq] at hk
    exact hk
  refine ⟨hk3, ?_⟩
  have key : ∀ (xs : List ByteArray), Hu.valS xs = true → ∀ x ∈ xs, Hu.okT x = true := by
    intro xs
    induction xs with
    | nil => intro _ x hx; cases hx
    | cons y xs ih =>
      intro h x hx
      rw [Hu.valS_cons, Bool.and_eq_true, Bool.and_eq_true] at h
      rcases List.mem_cons.1 hx with rfl | hx
      · exact h.1.1
      · exact ih h.2 x hx
  rcases hk3 with h1 | h1 | h1
  · exact key _ hvo r.t (by unfold Hu.olds; exact List.mem_map.2 ⟨r, List.mem_filter.2 ⟨hr, by unfold Hu.isO; rw [h1]; rfl⟩, rfl⟩)
  · exact key _ hvo r.t (by unfold Hu.olds; exact List.mem_map.2 ⟨r, List.mem_filter.2 ⟨hr, by unfold Hu.isO; rw [h1]; rfl⟩, rfl⟩)
  · exact key _ hvf r.t (by unfold Hu.fres; exact List.mem_map.2 ⟨r, List.mem_filter.2 ⟨hr, by unfold Hu.isF; rw [h1]; rfl⟩, rfl⟩)
/-- hunks that may stand behind others -/
def ordU : List Hk → List Hk → Bool
  | _, [] => true
  | acc, h :: l => okO acc h && ordU (acc ++ [h]) l
theorem begs_T (h : Hk) (z : Bs) : begs (placeT h ++ z) = true := by
  unfold begs placeT
  rw [List.append_assoc]
  exact List.isPrefixOf_iff_prefix.2 (List.prefix_append _ _)
theorem mk_back {h : Hk} {a n b m : Nat} (ha : h.a = a) (hn : h.n = n) (hb : h.b = b) (hm : h.m = m) : mkHk ⟨a, n, b, m, h.head.data.toList⟩ (h.rows.map rwB) = h := by
  unfold mkHk
  rw [List.map_map]
  have e : (toR ∘ rwB) = id := funext toR_rwB
  rw [e, List.map_id, ← ha, ← hn, ← hb, ← hm]
theorem isEnd_hunks (l : List Hk) : isEnd (nx (l.flatMap hunkT)) = false := by
  cases l with
  | nil => rfl
  | cons h l =>
    rw [List.flatMap_cons]
    unfold hunkT placeT mkB
    simp only [List.cons_append]
    rw [isEnd_nx]
    rfl
theorem hunks_back : ∀ (l : List Hk) (f c : Nat) (acc : List Hk), l.length < f → l.all Hu.vld = true → ordU acc l = true → ∃ c', c ≤ c' ∧ hunksF f (lns (l.flatMap hunkT)) c acc = .fin c' (acc ++ l) ∧ advN (c' - c) (l.flatMap hunkT) = []
  | [], f, c, acc, hf, _, _ => by
    obtain ⟨f', rfl⟩ : ∃ f', f = f' + 1 := ⟨f - 1, by simp at hf; omega⟩
    exact ⟨c, Nat.le_refl _, by rw [List.append_nil]; rfl, by rw [Nat.sub_self]; rfl⟩
  | h :: l, f, c, acc, hf, hv, ho => by
    obtain ⟨f', rfl⟩ : ∃ f', f = f' + 1 := ⟨f - 1, by simp at hf; omega⟩
    rw [List.all_cons, Bool.and_eq_true] at hv
    unfold ordU at ho
    rw [Bool.and_eq_true] at ho
    obtain ⟨a, n, b, m, ea, en, eb, em, cn, cm, la, ln, lb, lm, hr, hh⟩ := vld_parts hv.1
    have hp := placeT_10 ea en eb em hh
    have e : (h :: l).flatMap hunkT = placeT h ++ 10 :: (h.rows.flatMap rowT ++ l.flatMap hunkT) := by
      rw [List.flatMap_cons]
      unfold hunkT
      simp
    rw [e, hunksF_step, nx_app hp, begs_T, if_pos rfl, bare_end, placeT_back ea en eb em la ln lb lm, adv_app hp]
    simp only
    obtain ⟨c1, h1, h2, h3⟩ := rows_back h.rows (l.flatMap hunkT) (c + 1) hr (isEnd_hunks l)
    rw [cn, cm, h2]
    simp only
    rw [← cn, ← cm, mk_back ea en eb em, hv.1, if_pos rfl, ho.1, if_pos rfl]
    obtain ⟨c2, h4, h5, h6⟩ := hunks_back l f' c1 (acc ++ [h]) (by simp at hf; omega) hv.2 ho.2
    refine ⟨c2, by omega, ?_, ?_⟩
    · rw [h5, List.append_assoc]; rfl
    · rw [show c2 - c = (1 + (c1 - (c + 1))) + (c2 - c1) by omega, advN_add, advN_add]
      show advN _ (advN _ (adv _)) = _
      rw [adv_app hp, h3]
      exact h6
/-- U3: what is printed is read as it was -/
theorem print_back {o q : Bs × Bs} {hs : List Hk} (ho : nameOk o = true) (hq : nameOk q = true) (hne : hs ≠ []) (hv : hs.all Hu.vld = true) (hord : ordU [] hs = true) (hl : (printT o q hs).length ≤ 4194304) : parse (printT o q hs) = .ok o q hs [] := by
  have h1 := nameT_10 (mark := mkOld) (by decide) ho
  have h2 := nameT_10 (mark := mkNew) (by decide) hq
  unfold parse
  rw [if_neg (by omega)]
  unfold printT
  have e2 : advN 2 (nameT mkOld o ++ 10 :: (nameT mkNew q ++ 10 :: hs.flatMap hunkT)) = hs.flatMap hunkT := by
    show adv (adv _) = _
    rw [adv_app h1, adv_app h2]
  rw [e2, nx_app h1, adv_app h1, nx_app h2, nameT_back ho, nameT_back hq]
  simp only
  have hlen : ∀ l : List Hk, l.length ≤ (l.flatMap hunkT).length := by
    intro l
    induction l with
    | nil => exact Nat.zero_le _
    | cons h l ih =>
      rw [List.flatMap_cons, List.length_append, List.length_cons]
      have : 1 ≤ (hunkT h).length := by unfold hunkT; simp; omega
      omega
  have hlen := hlen hs
  obtain ⟨c', h4, h5, h6⟩ := hunks_back hs ((nameT mkOld o ++ 10 :: (nameT mkNew q ++ 10 :: hs.flatMap hunkT)).length + 1) 3 [] (by
    simp only [List.length_append, List.length_cons]
    omega) hv hord
  rw [h5]
  unfold Pr.fin
  rw [List.nil_append, if_neg hne]
  simp only
  rw [show c' - 1 = 2 + (c' - 3) by omega, advN_add, e2, h6]
end Go.Proofs.YtkolgglllladfaaGreatDoor.Un
