/-
  The walk of readPieces.
-/
import Derived.Test.YtfjhjhjdneihbaaGreatDoorGx
import Derived.Test.YtfjhjhjdneihbaaGreatDoorPl
namespace Go.Proofs.YtfjhjhjdneihbaaGreatDoor
open Go.RowKit

theorem index_mem (l : List UInt8) (c : UInt8) : decide (0 ≤ Lib.indexByte l c) = decide (c ∈ l) := by
  rcases Pl.parts l c with h | ⟨p, q, rfl, hp⟩
  · rw [Pl.index_miss l c h, decide_eq_false h]; rfl
  · rw [Pl.index_hit p q c hp, decide_eq_true (Int.natCast_nonneg _), decide_eq_true (by simp)]

set_option maxHeartbeats 2000000 in
theorem readPieces_one (s : ByteArray) (w : World) (h : (47 : UInt8) ∉ s.data.toList) :
    Calls Tryz.prog 34 #[.string s] w fun e w' => PctP w.heap.size s.data.toList e w' ∧ Below w.heap.size w w' := by
  have HI : Hid (decide (0 ≤ Lib.indexByte s.data.toList 47) = false) := hid (by rw [index_mem]; exact decide_eq_false h)
  have HP : Hid (pctP s.data.toList = (cmp s.data.toList).map (fun P => [none, some P]) ∧ pctN s.data.toList = cmpN s.data.toList) := hid ⟨by unfold pctP; rw [if_neg h], by unfold pctN; rw [if_neg h]⟩
  clear h
  go_enter Tryz.func34, Tryz.ntmps34
  go_wp2_with fail
  refine (Tryz.strings_Contains_one s 47 _).mono ?_
  rintro e w0 ⟨rfl, h0⟩
  obtain rfl : w = w0 := h0.symm
  rw [HI.out]
  go_wp2_with fail
  refine (compile_allF s _).mono ?_
  rintro e w1 ⟨hc, hb⟩
  rcases hc with ⟨h1, h2, rfl⟩ | ⟨P, bg, h1, h2, rfl, h3⟩
  · have HC : Hid (pctP s.data.toList = none ∧ (pctN s.data.toList = 2 ∨ pctN s.data.toList = 40)) := hid ⟨by rw [HP.out.1, h1]; rfl, by rw [HP.out.2]; exact h2⟩
    rw [← HP.out.2]
    clear h1 h2
    go_wp2
    go_ret2
    exact ⟨.inl ⟨HC.out.1, HC.out.2, _, _, _, rfl⟩, hb.trans ((Below.refl _ _).alloc hb.size _)⟩
  · have HC : Hid (pctP s.data.toList = some [none, some P]) := hid (by rw [HP.out.1, h1]; rfl)
    have HG := hid h3
    clear h1 h2 h3
    go_wp2
    go_ret2
    refine ⟨.inr ⟨_, w1.heap.size, _, HC.out, rfl, by simp, hb.size, ?_⟩, hb.trans ((Below.refl _ _).alloc hb.size _)⟩
    intro j q hj
    match j, hj with
    | 0, hj =>
      have e : none = q := by simpa using hj
      subst e
      exact ⟨by simp, fun P hP => by cases hP⟩
    | 1, hj =>
      have e : some P = q := by simpa using hj
      subst e
      refine ⟨by simp, fun P' hP' => ?_⟩
      cases hP'
      exact ⟨bg, by simp, HG.out.later ((Below.refl _ _).alloc (Nat.le_refl _) _)⟩

theorem pcs_len : ∀ (l : List (List UInt8)) (ps : List Pg.Pi), pcs l = some ps → ps.length = l.length
  | [], ps, h => by cases h; rfl
  | y :: l, ps, h => by
    unfold pcs at h
    cases hy : pce y with
    | none => rw [hy] at h; cases h
    | some r =>
      rw [hy] at h
      cases hl : pcs l with
      | none => simp [hl] at h
      | some ps' =>
        simp [hl] at h
        subst h
        simp [pcs_len l ps' hl]
theorem own_star {ps : List Pg.Pi} {q : Pg.Pi} (h : 1 < ps.length) (hq : ps[ps.length - 1]? = some q) : Pg.own ps = if q.isNone = true then ps ++ [some [Pg.star]] else ps := by
  unfold Pg.own Pg.tail Pg.endB
  rw [if_pos h, List.getLast?_eq_getElem?, hq]
  cases q with
  | none => rfl
  | some P => simp
theorem own_short {ps : List Pg.Pi} (h : ¬ 1 < ps.length) : Pg.own ps = ps := by unfold Pg.own; rw [if_neg h]
set_option maxHeartbeats 4000000 in
set_option maxRecDepth 100000 in
theorem readPieces_many (s : ByteArray) (w : World) (hs : s.size ≤ 4194304) (hm : MaxVar w) (h : (47 : UInt8) ∈ s.data.toList) :
    Calls Tryz.prog 34 #[.string s] w fun e w' => PctP w.heap.size s.data.toList e w' ∧ Below w.heap.size w w' := by
  have HI : Hid (decide (0 ≤ Lib.indexByte s.data.toList 47) = true) := hid (by rw [index_mem]; exact decide_eq_true h)
  have HP : Hid (pctP s.data.toList = (pcs (Pp.pieces (Lib.trimPrefix s.data.toList [47]))).map Pg.own ∧ pctN s.data.toList = pcsN (Pp.pieces (Lib.trimPrefix s.data.toList [47]))) := hid ⟨by unfold pctP; rw [if_pos h], by unfold pctN; rw [if_pos h]⟩
  obtain ⟨R, hR⟩ : ∃ R : ByteArray, R = ⟨(Lib.trimPrefix s.data.toList [47]).toArray⟩ := ⟨_, rfl⟩
  have hRd : R.data.toList = Lib.trimPrefix s.data.toList [47] := by rw [hR]
  have hRs : R.size ≤ s.size := by
    rw [← size_data, hRd, ← size_data s]
    unfold Lib.trimPrefix
    split
    · rw [List.length_drop]; omega
    · exact Nat.le_refl _
  rw [← hRd] at HP
  have HR := hid hR
  have hpl := Pp.pieces_length R.data.toList
  have hpn := Pp.pieces_ne R.data.toList
  rw [size_data] at hpl
  clear h hR hRd
  obtain ⟨T, hT⟩ : ∃ T, T = Pp.pieces R.data.toList := ⟨_, rfl⟩
  have HSP := hid (split_any R w (by omega) hm)
  rw [← hT] at HP hpl hpn HSP
  clear hT
  have hTl : 0 < T.length := List.length_pos_iff.2 hpn
  go_enter Tryz.func34, Tryz.ntmps34
  go_wp2_with fail
  refine (Tryz.strings_Contains_one s 47 _).mono ?_
  rintro e w0 ⟨rfl, h0⟩
  obtain rfl : w = w0 := h0.symm
  rw [HI.out]
  go_wp2_with fail
  refine (Tryz.strings_TrimPrefix s ⟨#[47]⟩ _).mono ?_
  rintro e w0 ⟨rfl, h0⟩
  obtain rfl : w = w0 := h0.symm
  rw [show (ByteArray.mk #[47]).data.toList = [47] from rfl, ← HR.out]
  go_wp2_with fail
  refine HSP.out.mono ?_
  rintro e w1 ⟨rfl, h1⟩
  have hb1 : Below w.heap.size w w1 := by rw [h1]; exact (Below.refl _ _).alloc (Nat.le_refl _) _
  have hh1 : w1.heap[w.heap.size]? = some (.cells (SV T).toArray 9 (0, 0)) := by rw [h1]; exact heap_alloc_new _ _
  have hz1 : w1.heap.size = w.heap.size + 1 := by rw [h1]; simp
  have HX : Hid (∀ (j : Nat) x, T[j]? = some x → w1.cell? ⟨w.heap.size, j, none⟩ = some (.string ⟨x.toArray⟩)) := hid (fun j x hj => by
    rw [cell_of_blk hh1]
    simp [SV, hj])
  have hw1 : w.heap.size < w1.heap.size := by omega
  clear h1 hh1 HSP hz1
  obtain ⟨i0, hi, hz0, hz2, hz3⟩ := info_parts Tryz.infoPiece
  have mk := run_make (P := Tryz.prog) w1 44 126 i0 _ Tryz.underlying44 hi hz0 .i64 .i64 0 T.length (Int.le_refl _) (by omega) (by rw [hz3]; omega) (by omega)
  have hM0 : (madeCells (.agg #[.pointer none, .bool false] : Value).cells (T.length * i0.size))[0]? = some (.pointer none) := by
    rw [hz2]
    simp [madeCells, Value.cells, hTl]
  have hsz0 := size_madeCells (.agg #[.pointer none, .bool false] : Value).cells (T.length * i0.size)
  simp only [Int.toNat_zero, Int.toNat_natCast] at mk
  generalize madeCells (.agg #[.pointer none, .bool false] : Value).cells (T.length * i0.size) = M at mk hsz0 hM0
  rw [hz2] at hsz0
  have H0 : Hid (OwnPc (w1.alloc (.cells M 126)) w1.heap.size (.slice (some ⟨w1.heap.size, 0, none⟩) 0 T.length) []) := hid
    ⟨[], ⟨rfl, .inr ⟨w1.heap.size, T.length, M, rfl, Nat.le_refl _, heap_alloc_new _ _, Nat.zero_le _, by unfold maxLen; omega, hsz0, rfl⟩⟩, fun j q hj => by simp at hj, fun g hg => by cases hg; exact ⟨none, by rw [cell_of_blk (heap_alloc_new _ _)]; exact hM0⟩⟩
  have hb2 : Below w1.heap.size w1 (w1.alloc (.cells M 126)) := (Below.refl _ _).alloc (Nat.le_refl _) _
  clear hsz0 hM0
  go_wp2
  go_loopw [7, 34] (fun t7 t34 wr => ∃ (k : Nat) (ps : List Pg.Pi), k ≤ T.length ∧ t34 = .int .i64 k ∧ ps.length ≤ k ∧ OwnPc wr w1.heap.size t7 ps ∧ Below w1.heap.size w1 wr ∧ Hid (pcs (T.take k) = some ps)) (fun _ t34 _ => T.length - (intOf t34).toNat)
  case atStart => exact ⟨0, [], Nat.zero_le _, rfl, Nat.le_refl _, H0.out, hb2, hid rfl⟩
  case round =>
    obtain ⟨k, ps, hk, rfl, hpk, hO, hbr, HPS⟩ := hrel
    have HO := hid hO
    have HBr := hid hbr
    have hzr := hbr.size
    clear H0 hb2 hO hbr mk
    by_cases hlt : k < T.length
    · obtain ⟨x, hx⟩ : ∃ x, T[k]? = some x := ⟨_, List.getElem?_eq_getElem hlt⟩
      have hcx := (HBr.out.cell (p := ⟨w.heap.size, k, none⟩) hw1).trans (HX.out k x hx)
      have hT1 : T = T.take k ++ x :: T.drop (k + 1) := by
        rw [← List.getElem_eq_iff hlt |>.2 hx, List.getElem_cons_drop, List.take_append_drop]
      have hT2 : T.take (k + 1) = T.take k ++ [x] := by rw [List.take_add_one, hx]; rfl
      have HT1 := hid hT1
      have HT2 := hid hT2
      have HPC := hid (readPiece_any ⟨x.toArray⟩ wr)
      rw [show (ByteArray.mk x.toArray).data.toList = x by simp] at HPC
      obtain ⟨cs7, ho7, _⟩ := HO.out
      obtain ⟨a7, c7, rfl, _⟩ := own_shape ho7
      clear hx hT1 hT2 ho7
      go_wp2_with fail
      refine HPC.out.mono ?_
      rintro e w3 ⟨hpc, hb3⟩
      rcases hpc with ⟨h1, h2, rfl⟩ | ⟨q, v9, h1, h2, rfl, h3⟩
      · have HE : Hid (pctP s.data.toList = none ∧ pctN s.data.toList = pceN x) := hid (by
          have hb := pcs_bad (T.take k) ps x (T.drop (k + 1)) HPS.out h1
          rw [← HT1.out] at hb
          exact ⟨by rw [HP.out.1, hb.1]; rfl, by rw [HP.out.2, hb.2]⟩)
        have HE2 := hid h2
        rw [← HE.out.2]
        clear h1 h2
        go_wp2
        go_ret2
        refine ⟨.inl ⟨HE.out.1, by rw [HE.out.2]; exact HE2.out, _, _, _, rfl⟩, ?_⟩
        exact (hb1.trans (HBr.out.mono (by omega))).trans ((hb3.trans ((Below.refl _ _).alloc hb3.size _)).mono (by omega))
      · have HPS2 : Hid (pcs (T.take (k + 1)) = some (ps ++ [q])) := hid (by rw [HT2.out]; exact pcs_snoc _ _ _ _ HPS.out h1)
        have HO3 := hid (HO.out.later hb3)
        have HB3 := hid (HBr.out.trans (hb3.mono hzr))
        clear h1 h2 HO
        rcases h3 with ⟨rfl, rfl⟩ | ⟨P, bg, rfl, rfl, h4⟩
        · have HPC9 : Hid (PieceC w3 w1.heap.size (.pointer none) (.bool true) none) := hid (.inl ⟨rfl, rfl, rfl⟩)
          have hz3 := hb3.size
          have hbA : Below w3.heap.size w3 ((w3.alloc (.cells #[.pointer none, .bool true] 126)).alloc (.cells #[.pointer none, .bool true] 126)) := ((Below.refl _ _).alloc (Nat.le_refl _) _).alloc (by simp) _
          go_wp2_with (at_builtin; refine wpList_append_piece rfl _ _ rfl w1.heap.size _ ps rfl (HO3.out.later hbA) _ 1 (.pointer none) (.bool true) none (HPC9.out.later hbA) rfl ?ma1 ?ma2 ?ma3 ?ma4 ?_)
          try (case ma1 => simp [Addr.add])
          try (case ma2 => simp [Addr.add])
          try (case ma3 => omega)
          try (case ma4 => simp; have := HB3.out.size; omega)
          intro v8 w8 hO8 hb8
          have HO8 := hid hO8
          have HB8 : Hid (Below w1.heap.size w1 w8) := hid ((HB3.out.trans (hbA.mono HB3.out.size)).trans hb8)
          clear hO8 hb8 HO3
          go_wp2
          go_roundw
          case rel => exact ⟨k + 1, ps ++ [none], by omega, by go_num, by simp; omega, HO8.out, HB8.out, HPS2⟩
          case measure => simp [intOf]; omega

        · have HPC9 : Hid (PieceC w3 w1.heap.size (.pointer (some ⟨bg, 0, none⟩)) (.bool false) (some P)) := hid (.inr ⟨P, bg, rfl, rfl, rfl, h4.mono hzr⟩)
          clear h4
          have hz3 := hb3.size
          have hbA : Below w3.heap.size w3 ((w3.alloc (.cells #[.pointer (some ⟨bg, 0, none⟩), .bool false] 126)).alloc (.cells #[.pointer (some ⟨bg, 0, none⟩), .bool false] 126)) := ((Below.refl _ _).alloc (Nat.le_refl _) _).alloc (by simp) _
          go_wp2_with (at_builtin; refine wpList_append_piece rfl _ _ rfl w1.heap.size _ ps rfl (HO3.out.later hbA) _ 1 (.pointer (some ⟨bg, 0, none⟩)) (.bool false) (some P) (HPC9.out.later hbA) rfl ?mb1 ?mb2 ?mb3 ?mb4 ?_)
          try (case mb1 => simp [Addr.add])
          try (case mb2 => simp [Addr.add])
          try (case mb3 => omega)
          try (case mb4 => simp; have := HB3.out.size; omega)
          intro v8 w8 hO8 hb8
          have HO8 := hid hO8
          have HB8 : Hid (Below w1.heap.size w1 w8) := hid ((HB3.out.trans (hbA.mono HB3.out.size)).trans hb8)
          clear hO8 hb8 HO3
          go_wp2
          go_roundw
          case rel => exact ⟨k + 1, ps ++ [(some P)], by omega, by go_num, by simp; omega, HO8.out, HB8.out, HPS2⟩
          case measure => simp [intOf]; omega
    · have hTT : T.take k = T := List.take_of_length_le (by omega)
      have hps : pcs T = some ps := by have h := HPS.out; rwa [hTT] at h
      have hpl2 := pcs_len T ps hps
      have HPP : Hid (pctP s.data.toList = some (Pg.own ps)) := hid (by rw [HP.out.1, hps]; rfl)
      have hne : ps ≠ [] := fun e => by rw [e] at hpl2; simp at hpl2; omega
      obtain ⟨bp, cp, rfl, hbp, hPA⟩ := HO.out.pcAt hne
      have hlp : 0 < ps.length := List.length_pos_iff.2 hne
      obtain ⟨q, hq⟩ : ∃ q, ps[ps.length - 1]? = some q := ⟨_, List.getElem?_eq_getElem (by omega)⟩
      have hcq := (hPA.2 (ps.length - 1) q hq).1
      have HPA := hid (hPA.mono (B' := w.heap.size) (by omega))
      have hBW : Below w.heap.size w wr := hb1.trans (HBr.out.mono (by omega))
      have HBW := hid hBW
      have hsub : (ps.length : Int) - 1 = ((ps.length - 1 : Nat) : Int) := by omega
      clear hTT hps hpl2 hPA hBW HPS
      by_cases h1 : 1 < ps.length
      · have HOS := hid (own_star h1 hq)
        cases hqn : q.isNone with
        | false =>
          rw [hqn] at hcq
          have HW : Hid (pctP s.data.toList = some ps) := hid (by rw [HPP.out, HOS.out, hqn]; rfl)
          clear hq hqn hne
          go_wp2
          go_ret2
          exact ⟨.inr ⟨ps, bp, cp, HW.out, rfl, hbp, HPA.out⟩, HBW.out⟩
        | true =>
          rw [hqn] at hcq
          have HW : Hid (pctP s.data.toList = some (ps ++ [some [Pg.star]])) := hid (by rw [HPP.out, HOS.out, hqn]; rfl)
          clear hq hqn hne
          obtain ⟨W3, hW3⟩ : ∃ W3, W3 = ((wr.alloc (.cells #[.int .u64 0, .int .u64 0, .int .u64 0, .int .u64 0, .bool true] 104)).alloc (.cells #[.slice (some ⟨wr.heap.size, 0, none⟩) 1 1] 99)).alloc (.cells #[.pointer (some ⟨wr.heap.size + 1, 0, none⟩), .bool false] 126) := ⟨_, rfl⟩
          have hb3 : Below wr.heap.size wr W3 := by rw [hW3]; exact (((Below.refl _ _).alloc (Nat.le_refl _) _).alloc (by simp) _).alloc (by simp; omega) _
          have hg0 : W3.heap[wr.heap.size]? = some (.cells #[.int .u64 0, .int .u64 0, .int .u64 0, .int .u64 0, .bool true] 104 (0, 0)) := by
            rw [hW3, Below.heap_alloc _ _ _ (by simp; omega), Below.heap_alloc _ _ _ (by simp)]
            exact heap_alloc_new _ _
          have hg1 : W3.heap[wr.heap.size + 1]? = some (.cells #[.slice (some ⟨wr.heap.size, 0, none⟩) 1 1] 99 (0, 0)) := by
            rw [hW3, Below.heap_alloc _ _ _ (by simp)]
            have h := heap_alloc_new (wr.alloc (.cells #[.int .u64 0, .int .u64 0, .int .u64 0, .int .u64 0, .bool true] 104)) (.cells #[.slice (some ⟨wr.heap.size, 0, none⟩) 1 1] 99)
            simpa using h
          have hG : GlobB W3 w1.heap.size (wr.heap.size + 1) [Pg.star] := by
            refine ⟨⟨_, 1, by rw [cell_of_blk hg1]; rfl, Nat.le_refl _, .inr ⟨wr.heap.size, rfl, lt_of_heap hg0, fun j p hj => ?_⟩⟩, by omega, fun a n c hc => by rw [cell_of_blk hg1] at hc; cases hc; exact hzr⟩
            match j, hj with
            | 0, hj =>
              have e : Pg.star = p := by simpa using hj
              subst e
              refine ⟨fun i hi => ?_, ?_⟩
              · rw [cell_of_blk hg0]
                have e2 : wd Pg.star.set i = 0 := wd_no i
                rw [e2]
                match i, hi with
                | 0, _ => rfl
                | 1, _ => rfl
                | 2, _ => rfl
                | 3, _ => rfl
              · rw [cell_of_blk hg0]; rfl
          have hg2 : W3.heap[wr.heap.size + 1 + 1]? = some (.cells #[.pointer (some ⟨wr.heap.size + 1, 0, none⟩), .bool false] 126 (0, 0)) := by
            rw [hW3]
            have h := heap_alloc_new ((wr.alloc (.cells #[.int .u64 0, .int .u64 0, .int .u64 0, .int .u64 0, .bool true] 104)).alloc (.cells #[.slice (some ⟨wr.heap.size, 0, none⟩) 1 1] 99)) (.cells #[.pointer (some ⟨wr.heap.size + 1, 0, none⟩), .bool false] 126)
            simpa using h
          have hp1 : W3.cell? ((⟨wr.heap.size + 1 + 1, 0, none⟩ : Addr).add 0) = some (.pointer (some ⟨wr.heap.size + 1, 0, none⟩)) := by
            have := cell_of_blk hg2 0
            simpa [Addr.add] using this
          have hp2 : W3.cell? ((⟨wr.heap.size + 1 + 1, 0, none⟩ : Addr).add 1) = some (.bool false) := by
            have := cell_of_blk hg2 1
            simpa [Addr.add] using this
          have HP1 := hid hp1
          have HP2 := hid hp2
          clear hp1 hp2 hg2
          have HG := hid hG
          have HO3 := hid (HO.out.later hb3)
          have HBB := hid hb3
          have HW3 := hid hW3
          have hz3' := hb3.size
          clear hG hg0 hg1 hb3 hW3
          go_wp2_with (at_builtin; refine wpList_append_piece rfl _ _ rfl w1.heap.size _ ps rfl (HW3.out ▸ HO3.out) _ 1 (.pointer (some ⟨wr.heap.size + 1, 0, none⟩)) (.bool false) (some [Pg.star]) (.inr ⟨_, _, rfl, rfl, rfl, HW3.out ▸ HG.out⟩) rfl ?n1 ?n2 ?n3 ?n4 ?_)
          try (case n1 => exact HW3.out ▸ HP1.out)
          try (case n2 => exact HW3.out ▸ HP2.out)
          try (case n3 => omega)
          try (case n4 => simp; omega)
          intro v8 w8 hO8 hb8
          rw [← HW3.out] at hb8
          obtain ⟨bq, cq, rfl, hbq, hPQ⟩ := hO8.pcAt (by simp)
          have HB8 : Hid (Below w.heap.size w w8) := hid ((HBW.out.trans (HBB.out.mono HBW.out.size)).trans (hb8.mono (by omega)))
          have HPQ := hid (hPQ.mono (B' := w.heap.size) (by omega))
          clear hO8 hPQ hb8
          go_wp2
          go_ret2
          exact ⟨.inr ⟨_, bq, cq, HW.out, rfl, hbq, HPQ.out⟩, HB8.out⟩
      · have HW : Hid (pctP s.data.toList = some ps) := hid (by rw [HPP.out, own_short h1])
        clear hq hne
        go_wp2
        go_ret2
        exact ⟨.inr ⟨ps, bp, cp, HW.out, rfl, hbp, HPA.out⟩, HBW.out⟩
end Go.Proofs.YtfjhjhjdneihbaaGreatDoor
