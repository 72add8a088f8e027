/-
  The walk of the document's rule.
-/
import Derived.Test.YtfjhjhjdneihbaaGreatDoorI4c
namespace Go.Proofs.YtfjhjhjdneihbaaGreatDoor
open Go.RowKit

set_option maxHeartbeats 8000000 in
set_option maxRecDepth 100000 in
theorem refRule_any (s : ByteArray) (w : World) (h0 : 0 < s.size) (hs : s.size ≤ 4194304) :
    Calls Tryz.prog 16 #[.string s] w fun e w' => RlP w.heap.size s.data.toList e w' ∧ Below w.heap.size w w' := by
  obtain ⟨t1, t2, t3⟩ := two_objs w (.cells #[.bool false, .bool false, .bool false, .slice none 0 0] 52) (.cells #[.bool false, .bool false, .bool false, .slice none 0 0] 52)
  obtain ⟨l, hl⟩ : ∃ l, l = s.data.toList := ⟨_, rfl⟩
  rw [← hl]
  obtain ⟨c0, r0, hcr⟩ : ∃ c r, l = c :: r := by
    cases l with
    | nil => have := size_data s; rw [← hl] at this; simp at this; omega
    | cons c r => exact ⟨c, r, rfl⟩
  have HAT := hid (at_data s 0 h0)
  have HC0 : Hid (s[0] = c0) := hid (by have h := HAT.out; rw [← hl, hcr] at h; simpa using h.symm)
  have HPF : Hid (Lib.hasPrefix l [33] = decide (33 = c0)) := hid (by rw [hcr]; exact pre_cons _ _ _)
  have HTP : Hid (Lib.trimPrefix l [33] = if 33 = c0 then l.drop 1 else l) := hid (by unfold Lib.trimPrefix; rw [HPF.out]; by_cases h : 33 = c0 <;> simp [h])
  have HL := hid hl
  have HS0 : Hid (RlSt w ((w.alloc (.cells #[.bool false, .bool false, .bool false, .slice none 0 0] 52)).alloc (.cells #[.bool false, .bool false, .bool false, .slice none 0 0] 52)) w.heap.size (w.heap.size + 1) false false false (.slice none 0 0)) := hid ⟨t1, t2, t3⟩
  have jj : (0 : Int) < (s.size : Int) := by omega
  clear t1 t2 t3 hl hcr
  go_enter Tryz.func16, Tryz.ntmps16
  go_upto_if 12 with fail
  generalize ((w.alloc (.cells #[.bool false, .bool false, .bool false, .slice none 0 0] 52)).alloc (.cells #[.bool false, .bool false, .bool false, .slice none 0 0] 52)) = w1 at HS0 ⊢
  obtain ⟨g2, hg2⟩ : ∃ g2, g2 = w.heap.size := ⟨_, rfl⟩
  obtain ⟨g4, hg4⟩ : ∃ g4, g4 = w.heap.size + 1 := ⟨_, rfl⟩
  rw [← hg4, ← hg2] at HS0 ⊢
  have hgl : w.heap.size ≤ g2 ∧ w.heap.size ≤ g4 ∧ g2 ≠ g4 := by omega
  have HGL := hid hgl
  clear hg2 hg4 hgl
  go_cut [0] (fun v wc => ∃ L1 : ByteArray, v = .string L1 ∧ L1.size ≤ s.size ∧ Hid (L1.data.toList = Lib.trimPrefix l [33]) ∧ Hid (RlSt w wc g2 g4 (Lib.hasPrefix l [33]) false false (.slice none 0 0)))
  case first =>
    by_cases h33 : s[0] = 33
    · have z1 : ((s[0].toNat : Int) == 33) = true := beq_iff_eq.2 ((c33_iff _).2 h33)
      have hc : 33 = c0 := by rw [← HC0.out, h33]
      have HX : Hid ((s.extract 1 s.size).data.toList = Lib.trimPrefix l [33]) := hid (by
        rw [HTP.out, if_pos hc, Lib.extract_data, HL.out, List.take_of_length_le (by rw [List.length_drop, size_data]; exact Nat.le_refl _)])
      have HZ : Hid ((s.extract 1 s.size).size ≤ s.size) := hid (by rw [← size_data, Lib.extract_data, List.length_take, List.length_drop, size_data]; omega)
      have q1 := cell_of_blk HS0.out.cur 0
      have qf := frz_of_blk HS0.out.cur 0
      have HS1 : Hid (RlSt w (w1.setCell ⟨g4, 0, none⟩ (.bool true)) g2 g4 (Lib.hasPrefix l [33]) false false (.slice none 0 0)) := hid (by
        rw [HPF.out, decide_eq_true hc]
        exact ⟨(setc_other _ HGL.out.2.2).trans HS0.out.res, setc_heap _ _ 0 _ _ _ HS0.out.cur, setc_below HS0.out.bel HGL.out.2.1⟩)
      clear h33 hc
      go_wp2
      go_meet
      exact ⟨_, rfl, HZ.out, HX, HS1⟩
    · have z1 : ((s[0].toNat : Int) == 33) = false := beq_eq_false_iff_ne.2 (fun e => h33 ((c33_iff _).1 e))
      have hc : ¬ 33 = c0 := fun e => h33 (by rw [HC0.out, e])
      have HX : Hid (s.data.toList = Lib.trimPrefix l [33]) := hid (by rw [HTP.out, if_neg hc, HL.out])
      have HS1 : Hid (RlSt w w1 g2 g4 (Lib.hasPrefix l [33]) false false (.slice none 0 0)) := hid (by rw [HPF.out, decide_eq_false hc]; exact HS0.out)
      clear h33 hc
      go_wp2
      go_meet
      exact ⟨_, rfl, Nat.le_refl _, HX, HS1⟩
  case rest =>
    obtain ⟨L1, rfl, hL1, HX1, HS1⟩ := hcut
    clear HS0 HAT HC0 HTP HPF
    obtain ⟨w2, hw2⟩ : ∃ w2, w2 = wc := ⟨_, rfl⟩
    subst hw2
    obtain ⟨bk, hbk⟩ : ∃ bk, bk = Lib.hasPrefix l [33] := ⟨_, rfl⟩
    rw [← hbk] at HS1
    obtain ⟨t1, ht1⟩ : ∃ t1, t1 = Lib.trimPrefix l [33] := ⟨_, rfl⟩
    rw [← ht1] at HX1
    have HBK := hid hbk
    have HT1 := hid ht1
    clear hbk ht1
    have HSF : Hid (∀ n (h : n < L1.size), L1.size = n + 1 → Lib.hasSuffix t1 [47] = decide (L1[n] = 47)) := hid (fun n h e => by
      rw [← HX1.out, snoc_of L1.data.toList n L1[n] (by rw [size_data]; exact e) (at_data L1 n h), suf_snoc])
    go_upto_region 5 with fail
    go_cut [25] (fun v wc => v = .bool (Lib.hasSuffix t1 [47]) ∧ wc = w2)
    case first =>
      by_cases hz : L1.size = 0
      · have he := empty_yes L1 hz
        have HF : Hid (Lib.hasSuffix t1 [47] = false) := hid (by rw [← HX1.out, show L1.data.toList = [] from List.length_eq_zero_iff.1 (by rw [size_data]; exact hz)]; rfl)
        clear hz
        go_wp2
        go_meet
        exact ⟨by rw [HF.out], rfl⟩
      · have he := empty_no L1 hz
        obtain ⟨n, hn⟩ : ∃ n, L1.size = n + 1 := ⟨L1.size - 1, by omega⟩
        have hlt : n < L1.size := by omega
        have i1 : IntKind.i64.wrap ((L1.size : Int) - 1) = (n : Int) := by rw [IntKind.wrap_i64]; omega
        have j1 : (0 : Int) ≤ (n : Int) := by omega
        have j2 : (n : Int) < (L1.size : Int) := by omega
        have HF := hid (HSF.out n hlt hn)
        clear hz hn
        by_cases h47 : L1[n] = 47
        · have z1 : ((L1[n].toNat : Int) == 47) = true := beq_iff_eq.2 ((c47_iff _).2 h47)
          have HF2 : Hid (Lib.hasSuffix t1 [47] = true) := hid (by rw [HF.out, decide_eq_true h47])
          clear h47
          go_wp2
          go_meet
          exact ⟨by rw [HF2.out], rfl⟩
        · have z1 : ((L1[n].toNat : Int) == 47) = false := beq_eq_false_iff_ne.2 (fun e => h47 ((c47_iff _).1 e))
          have HF2 : Hid (Lib.hasSuffix t1 [47] = false) := hid (by rw [HF.out, decide_eq_false h47])
          clear h47
          go_wp2
          go_meet
          exact ⟨by rw [HF2.out], rfl⟩
    case rest =>
      obtain ⟨rfl, hwc⟩ := hcut
      rw [hwc]
      clear hwc HSF
      go_upto_if 25 with fail
      go_cut [0] (fun v wc => ∃ L2 : ByteArray, v = .string L2 ∧ L2.size ≤ s.size ∧ Hid (L2.data.toList = Lib.trimSuffix t1 [47]) ∧ Hid (RlSt w wc g2 g4 bk (Lib.hasSuffix t1 [47]) false (.slice none 0 0)))
      case first =>
        by_cases hsf : Lib.hasSuffix t1 [47] = true
        · have hpos : 0 < L1.size := by
            rcases Nat.eq_zero_or_pos L1.size with z | z
            · rw [← HX1.out, show L1.data.toList = [] from List.length_eq_zero_iff.1 (by rw [size_data]; exact z)] at hsf; cases hsf
            · exact z
          obtain ⟨n, hn⟩ : ∃ n, L1.size = n + 1 := ⟨L1.size - 1, by omega⟩
          have i1 : IntKind.i64.wrap ((L1.size : Int) - 1) = (n : Int) := by rw [IntKind.wrap_i64]; omega
          have j1 : (0 : Int) ≤ (n : Int) := by omega
          have j2 : (n : Int) ≤ (L1.size : Int) := by omega
          have HXE : Hid ((L1.extract 0 n).data.toList = Lib.trimSuffix t1 [47]) := hid (by
            unfold Lib.trimSuffix
            rw [if_pos hsf, Lib.extract_data, List.drop_zero, Nat.sub_zero, HX1.out]
            congr 1
            rw [← HX1.out, size_data]
            simp; omega)
          have HZE : Hid ((L1.extract 0 n).size ≤ s.size) := hid (by rw [← size_data, Lib.extract_data, List.length_take, List.length_drop, size_data]; omega)
          have q1 := cell_of_blk HS1.out.cur 1
          have qf := frz_of_blk HS1.out.cur 1
          have HS2 : Hid (RlSt w (w2.setCell ⟨g4, 1, none⟩ (.bool true)) g2 g4 bk (Lib.hasSuffix t1 [47]) false (.slice none 0 0)) := hid (by
            rw [hsf]
            exact ⟨(setc_other _ HGL.out.2.2).trans HS1.out.res, setc_heap _ _ 1 _ _ _ HS1.out.cur, setc_below HS1.out.bel HGL.out.2.1⟩)
          clear hn
          rw [hsf]
          go_wp2
          go_meet
          exact ⟨_, rfl, HZE.out, HXE, HS2⟩
        · have hsf' : Lib.hasSuffix t1 [47] = false := by simpa using hsf
          have HXE : Hid (L1.data.toList = Lib.trimSuffix t1 [47]) := hid (by unfold Lib.trimSuffix; rw [if_neg hsf]; exact HX1.out)
          have HS2 : Hid (RlSt w w2 g2 g4 bk (Lib.hasSuffix t1 [47]) false (.slice none 0 0)) := hid (by rw [hsf']; exact HS1.out)
          rw [hsf']
          clear hsf hsf'
          go_wp2
          go_meet
          exact ⟨_, rfl, hL1, HXE, HS2⟩
      case rest =>
        obtain ⟨L2, rfl, hL2, HX2, HS2⟩ := hcut
        clear HS1
        obtain ⟨w3, hw3⟩ : ∃ w3, w3 = wc := ⟨_, rfl⟩
        subst hw3
        obtain ⟨dr, hdr⟩ : ∃ dr, dr = Lib.hasSuffix t1 [47] := ⟨_, rfl⟩
        rw [← hdr] at HS2
        have HDR := hid hdr
        obtain ⟨t, ht⟩ : ∃ t, t = ru2 l := ⟨_, rfl⟩
        have HT : Hid (t = ru2 l) := hid ht
        have HXT : Hid (L2.data.toList = t) := hid (by rw [HX2.out, ht, HT1.out]; rfl)
        have HDP : Hid (drP l = if t = [] then none else (dpc t).map fun ps => ⟨ps, decide ((47 : UInt8) ∈ t), dr, bk⟩) := hid (by unfold drP; rw [← ht, hdr, HBK.out, HT1.out])
        have HRN : Hid (ruN l = if t = [] then 40 else pctN t) := hid (by unfold ruN; rw [← ht])
        clear hdr ht HX2 HX1 HT1
        have p0 := cell_of_blk HS2.out.res 0
        have p1 := cell_of_blk HS2.out.res 1
        have p2 := cell_of_blk HS2.out.res 2
        have p3 := cell_of_blk HS2.out.res 3
        have pf := fun o => frz_of_blk HS2.out.res o
        have c0 := cell_of_blk HS2.out.cur 0
        have c1 := cell_of_blk HS2.out.cur 1
        have c2 := cell_of_blk HS2.out.cur 2
        have c3 := cell_of_blk HS2.out.cur 3
        by_cases hz : L2.size = 0
        · have he := empty_yes L2 hz
          have hte : t = [] := by rw [← HXT.out]; exact List.length_eq_zero_iff.1 (by rw [size_data]; exact hz)
          have HE : Hid (drP l = none ∧ ruN l = 40) := hid ⟨by rw [HDP.out, if_pos hte], by rw [HRN.out, if_pos hte]⟩
          clear hz hte
          go_wp2
          obtain ⟨q0, q1, q2, q3⟩ := four_cells (four_set (x := .bool bk) (y := .bool dr) (z := .bool false) (u := .slice none 0 0) HS2.out.res)
          refine bodyPost_ret (v := .tuple #[.agg #[.bool bk, .bool dr, .bool false, .slice none 0 0], .int .i64 40]) (by simp [results, Tryz.results16, go_sem, q0, q1, q2, q3]) rfl ⟨.inl ⟨HE.out.1, .inr HE.out.2, bk, dr, false, none, 0, 0, by rw [HE.out.2]; rfl⟩, four_below HS2.out.bel HGL.out.1⟩
        · have he := empty_no L2 hz
          have hte : t ≠ [] := fun e => hz (by rw [← size_data, HXT.out, e]; rfl)
          have HE : Hid (drP l = (dpc t).map fun ps => ⟨ps, decide ((47 : UInt8) ∈ t), dr, bk⟩) := hid (by rw [HDP.out, if_neg hte])
          have HE2 : Hid (ruN l = pctN t) := hid (by rw [HRN.out, if_neg hte])
          have HTE := hid hte
          clear hz hte p0 p1 p2 p3 pf c0 c1 c2 c3 HDP HRN
          go_wp2_with fail
          refine (refCut_any L2 (Pp.pieces t) (by rw [HXT.out]) w3 (by omega)).mono ?_
          rintro e w4 ⟨v5, rfl, hO5, hb4⟩
          have HS4 := hid (HS2.out.later hb4)
          have HR5 := hid (rd_own hO5)
          have HU5 : Hid (∀ b o n c, v5 = .slice (some ⟨b, o, none⟩) n c → w3.heap.size ≤ b) := hid (fun b o n c h => hO5.ge b (by rw [h]; rfl))
          obtain ⟨a5, c5, e5⟩ := hO5.shape
          subst e5
          have hpl := Pp.pieces_length t
          have htl : t.length ≤ 4194304 := by rw [← HXT.out, size_data]; omega
          obtain ⟨rt, hrt⟩ : ∃ rt, rt = decide ((47 : UInt8) ∈ t) := ⟨_, rfl⟩
          have zr : decide (((Pp.pieces t).length : Int) > 1) = rt := by
            rw [hrt]
            exact decide_eq_decide.2 ⟨fun h => (pieces_many t).1 (by omega), fun h => by have := (pieces_many t).2 h; omega⟩
          rw [← hrt] at HE
          have HRT := hid hrt
          have hg4l : g4 < w3.heap.size := lt_of_heap HS2.out.cur
          have q2 := cell_of_blk HS4.out.cur 2
          have qf := frz_of_blk HS4.out.cur 2
          have HS5 : Hid (RlSt w (w4.setCell ⟨g4, 2, none⟩ (.bool rt)) g2 g4 bk dr rt (.slice none 0 0)) := hid ⟨(setc_other _ HGL.out.2.2).trans HS4.out.res, setc_heap _ _ 2 _ _ _ HS4.out.cur, setc_below HS4.out.bel HGL.out.2.1⟩
          have HR6 : Hid (Rd (w4.setCell ⟨g4, 2, none⟩ (.bool rt)) (.slice a5 (Pp.pieces t).length c5) (BL (Pp.pieces t))) := hid (HR5.out.held (by rw [setc_size]; exact Nat.le_refl _) (fun b o n c h _ => setc_other _ (by have := HU5.out b o n c h; omega)))
          have hcap : (Pp.pieces t).length ≤ c5 := by
            rcases (rd_cap HR5.out).2 with h | h
            · rw [BL_length] at h; exact h
            · have := congrArg List.length h; rw [BL_length] at this; have h2 := Pp.pieces_ne t; exact absurd (List.length_eq_zero_iff.1 this) h2
          clear hO5 hb4 HS2 HR5 hrt
          go_upto_region 12 with fail
          generalize w4.setCell ⟨g4, 2, none⟩ (.bool rt) = w5 at HS5 HR6 ⊢
          obtain ⟨N, hN⟩ : ∃ N, N = Pp.pieces t := ⟨_, rfl⟩
          rw [← hN] at HR6 hcap hpl ⊢
          have HNE := hid hN
          have hNl : 0 < N.length := by rw [hN]; exact List.length_pos_iff.2 (Pp.pieces_ne t)
          obtain ⟨x0, hx0⟩ : ∃ x0, N[0]? = some x0 := ⟨_, List.getElem?_eq_getElem hNl⟩
          have HX0 : Hid (x0 = [] ↔ Lib.hasPrefix t [47] = true) := hid (by rw [← pieces_head t HTE.out, ← hN, hx0]; simp)
          have k2 := cell_of_blk HS5.out.cur 2
          have j9 : (0 : Int) < (N.length : Int) := by omega
          have HX0G := hid hx0
          clear hN hx0 q2 qf zr
          go_cut [48] (fun v wc => v = .bool (rt && x0.isEmpty) ∧ wc = w5)
          case first =>
            rcases HR6.out with ⟨hne, _⟩ | ⟨b5, o5, cc, hv5, _, hb5, hX5⟩
            · exfalso
              have := congrArg List.length hne
              rw [BL_length] at this
              simp at this
              rw [this] at hNl
              simp at hNl
            rw [BL_length] at hv5
            cases hv5
            have d0 := hX5 0 _ (BL_get HX0G.out)
            rw [Nat.add_zero] at d0
            clear hX5
            cases hrt2 : rt with
            | false =>
              rw [hrt2] at k2
              go_wp2
              go_meet
              exact ⟨by rw [hrt2]; rfl, rfl⟩
            | true =>
              rw [hrt2] at k2
              go_wp2
              go_meet
              exact ⟨by rw [hrt2]; rfl, rfl⟩
          case rest =>
            obtain ⟨rfl, hwc⟩ := hcut
            rw [hwc]
            clear hwc k2
            go_upto_if 48 with fail
            go_cut [5] (fun v wc => wc = w5 ∧ ∃ a c, v = .slice a (txt t).length c ∧ Hid (∀ b o, a = some ⟨b, o, none⟩ → w3.heap.size ≤ b) ∧ Hid (Rd w5 (.slice a (txt t).length c) (BL (txt t))))
            case first =>
              cases hbb : (rt && x0.isEmpty) with
              | true =>
                have hb1 : rt = true ∧ x0 = [] := by
                  rw [Bool.and_eq_true, List.isEmpty_iff] at hbb; exact hbb
                have hin : (47 : UInt8) ∈ t := of_decide_eq_true (by rw [← HRT.out]; exact hb1.1)
                have HTX : Hid (txt t = N.drop 1) := hid (by rw [txt_slash t hin (HX0.out.1 hb1.2), HNE.out])
                have HRD := hid (rd_drop HR6.out 1 (by rw [BL_length]; omega) hcap)
                have htl2 : (txt t).length = N.length - 1 := by rw [HTX.out, List.length_drop]
                have hmany := (pieces_many t).2 hin
                rw [← HNE.out] at hmany
                have hc1 : ¬ c5 = 1 := by omega
                rw [if_neg hc1] at HRD
                obtain ⟨b9, o9, e9⟩ : ∃ b9 o9, a5 = some ⟨b9, o9, none⟩ := by
                  rcases HR6.out with ⟨hne, _⟩ | ⟨b9, o9, c9, hv9, _⟩
                  · have := congrArg List.length hne; rw [BL_length] at this; simp at this; rw [this] at hNl; simp at hNl
                  · rw [BL_length] at hv9; cases hv9; exact ⟨_, _, rfl⟩
                subst e9
                rw [Option.map_some, Go.WideShapes.add_plain, BL_drop, ← HTX.out, ← htl2] at HRD
                have HAB : Hid (∀ b o, (some ⟨b9, o9 + 1, none⟩ : Option Addr) = some ⟨b, o, none⟩ → w3.heap.size ≤ b) := hid (fun b o h => by cases h; exact HU5.out b9 o9 _ _ rfl)
                have j8 : (1 : Int) ≤ (N.length : Int) := by omega
                have j7 : (N.length : Int) ≤ (c5 : Int) := by omega
                have HTL := hid htl2
                clear hb1 hin htl2 hbb
                go_wp2
                go_meet
                exact ⟨rfl, _, _, by rw [HTL.out], HAB, HRD⟩
              | false =>
                have HTX : Hid (txt t = N) := hid (by
                  rw [HNE.out]
                  refine txt_plain t ?_
                  rcases Classical.em ((47 : UInt8) ∈ t) with h | h
                  · right
                    cases hp : Lib.hasPrefix t [47] with
                    | false => rfl
                    | true =>
                      have h1 : rt = true := by rw [HRT.out]; exact decide_eq_true h
                      rw [h1, List.isEmpty_iff.2 (HX0.out.2 hp)] at hbb
                      cases hbb
                  · exact .inl h)
                have HAB : Hid (∀ b o, a5 = some ⟨b, o, none⟩ → w3.heap.size ≤ b) := hid (fun b o h => HU5.out b o _ _ (by rw [h]))
                clear hbb
                go_wp2
                go_meet
                exact ⟨rfl, _, _, by rw [HTX.out], HAB, by rw [HTX.out]; exact HR6⟩
            case rest =>
              obtain ⟨hwc, a6, c6, rfl, HAB, HRX⟩ := hcut
              rw [hwc]
              clear hwc HR6 HU5 HX0 HNE HX0G hNl j9 hcap
              obtain ⟨X, hX⟩ : ∃ X, X = txt t := ⟨_, rfl⟩
              have HPC : Hid (dpc t = pcsR rt X) := hid (by rw [dpc_txt, ← HRT.out, ← hX])
              have HPN : Hid (dpc t = none → pctN t = pcsRN rt X) := hid (fun h => by rw [pctN_txt t h, ← HRT.out, ← hX])
              have hXl : X.length ≤ t.length + 1 := by
                rw [hX]
                unfold txt
                split
                · have h1 := Pp.pieces_length (Lib.trimPrefix t [47])
                  have h2 : (Lib.trimPrefix t [47]).length ≤ t.length := by
                    unfold Lib.trimPrefix
                    split
                    · rw [List.length_drop]; omega
                    · omega
                  omega
                · simp
              rw [← hX] at HRX ⊢
              have hg4w : g4 < w5.heap.size := lt_of_heap HS5.out.cur
              have HXE := hid hX
              clear hX
              have hg2w : g2 < w5.heap.size := lt_of_heap HS5.out.res
              go_wp2
              go_loopw [6] (fun i wr => ∃ (j : Nat) (v4 : Value) (ps : List Pg.Pi), j ≤ X.length ∧ i = .int .i64 j ∧ Hid (RlLp w w5 wr g2 g4 bk dr rt X j v4 ps)) (fun i _ => X.length - (intOf i).toNat)
              case atStart => exact ⟨0, _, [], Nat.zero_le _, rfl, hid ⟨rfl, HS5.out, OwnDp.nil _ _, fun i _ _ => rfl, Nat.le_refl _⟩⟩
              case round =>
                obtain ⟨j, v4, ps, hj, rfl, HP⟩ := hrel
                obtain ⟨a4, cc4, e4⟩ := HP.out.row.shape
                subst e4
                have hpsl : ps.length ≤ 4194306 := by
                  have h1 := pcsR_len rt _ _ HP.out.done
                  rw [List.length_take] at h1
                  omega
                have HRW : Hid (Rd wr (.slice a6 X.length c6) (BL X)) := hid (HRX.out.held HP.out.size (fun b o n c h hb => HP.out.kept b hb (by
                  cases h
                  have := HAB.out b o rfl
                  omega)))
                by_cases hlt : j < X.length
                · obtain ⟨x, hx⟩ : ∃ x, X[j]? = some x := ⟨_, List.getElem?_eq_getElem hlt⟩
                  obtain ⟨b6, o6, c7, xb, e6, hxb, _, _, d6⟩ := HRW.out.at (k := j) (by rw [BL_length]; exact hlt)
                  rw [BL_length] at e6
                  cases e6
                  have HXB : Hid (xb.data.toList = x) := hid (by rw [BL_get hx] at hxb; rw [← Option.some.inj hxb])
                  have HTK : Hid (X.take (j + 1) = X.take j ++ [x]) := hid (by rw [List.take_add_one, hx]; rfl)
                  have HSP : Hid (X = X.take j ++ x :: X.drop (j + 1)) := hid (by
                    conv => lhs; rw [← List.take_append_drop j X]
                    congr 1
                    rw [List.drop_eq_getElem_cons hlt]
                    rw [List.getElem?_eq_getElem hlt] at hx
                    rw [Option.some.inj hx])
                  have k2 := cell_of_blk HP.out.st.cur 2
                  have k3 := cell_of_blk HP.out.st.cur 3
                  have kf := fun o => frz_of_blk HP.out.st.cur o
                  have j1 : (0 : Int) ≤ (j : Int) := by omega
                  have j2 : (j : Int) < (X.length : Int) := by omega
                  have j3 : IntKind.i64.wrap ((j : Int) + 1) = (j : Int) + 1 := by rw [IntKind.wrap_i64]; omega
                  clear hx hxb HRW
                  go_upto_region 17 with fail
                  go_cut [65] (fun v wc => v = .bool (decide (x = [42, 42]) && rt) ∧ wc = wr)
                  case first =>
                    by_cases hx2 : x = [42, 42]
                    · have hq : (xb.toList == [42, 42]) = true := by rw [ByteArray.toList_eq, HXB.out, hx2]; rfl
                      have HX2 := hid (decide_eq_true hx2)
                      clear hx2
                      go_wp2
                      go_meet
                      exact ⟨by rw [HX2.out]; rfl, rfl⟩
                    · have hq : (xb.toList == [42, 42]) = false := by rw [ByteArray.toList_eq, HXB.out]; exact beq_eq_false_iff_ne.2 hx2
                      have HX2 := hid (decide_eq_false hx2)
                      clear hx2
                      go_wp2
                      go_meet
                      exact ⟨by rw [HX2.out]; rfl, rfl⟩
                  case rest =>
                    obtain ⟨rfl, hwc⟩ := hcut
                    rw [hwc]
                    clear hwc
                    have hbA : ∀ (u v : Value) (W : World), Below W.heap.size W (W.alloc (.cells #[u, v] 74)) := fun u v W => (Below.refl _ _).alloc (Nat.le_refl _) _
                    have HBA := hid hbA
                    clear hbA
                    by_cases hany : x = [42, 42] ∧ rt = true
                    · have HQ : Hid (pceR rt x = some none) := hid (by unfold pceR; rw [if_pos ⟨hany.2, hany.1⟩])
                      have HDN : Hid (pcsR rt (X.take (j + 1)) = some (ps ++ [none])) := hid (by rw [HTK.out]; exact pcsR_snoc rt _ _ _ _ HP.out.done HQ.out)
                      have zb : (decide (x = [42, 42]) && rt) = true := by rw [decide_eq_true hany.1, hany.2]; rfl
                      rw [zb]
                      clear hany zb
                      go_wp2_with (at_builtin; refine wpList_append_dp rfl _ _ rfl w5.heap.size _ ps rfl (HP.out.later (HBA.out (.bool true) (.slice none 0 0) wr)).row wr.heap.size (.bool true) (.slice none 0 0) none rfl (heap_alloc_new wr _) ⟨rfl, ⟨_, _, _, rfl⟩, fun P h => by cases h⟩ (by omega) (Nat.le_trans HP.out.size (HBA.out (.bool true) (.slice none 0 0) wr).size) ?_; intro v8 w8 hO8 hg8 _; have HP8 := hid ((HP.out.later (HBA.out (.bool true) (.slice none 0 0) wr)).put hg2w hg4w HGL.out.2.2 HGL.out.2.1 hO8 hg8 HDN.out); obtain ⟨a8, c8, e8⟩ := hO8.shape; subst e8; have hcur := (hg8.block g4 (Nat.lt_of_lt_of_le hg4w (Nat.le_trans HP.out.size (HBA.out (.bool true) (.slice none 0 0) wr).size)) (fun e => by obtain ⟨cs, h1, _⟩ := HP.out.row; have := (own_ge' h1 g4 e.symm).1; omega)).trans (HP.out.later (HBA.out (.bool true) (.slice none 0 0) wr)).st.cur; have m3 := cell_of_blk hcur 3; have mf := frz_of_blk hcur 3; clear hO8 hg8 hcur)
                      rw [List.length_append, List.length_singleton] at HP8
                      exact ⟨⟨j + 1, _, _, by omega, by push_cast; rfl, HP8⟩, by simp [intOf]; omega⟩
                    · have zb : (decide (x = [42, 42]) && rt) = false := by
                        rw [Bool.and_eq_false_iff]
                        rcases Classical.em (x = [42, 42]) with h | h
                        · right; cases hr : rt with
                          | false => rfl
                          | true => exact absurd ⟨h, hr⟩ hany
                        · left; exact decide_eq_false h
                      have HQ : Hid (pceR rt x = (cmp x).map some) := hid (by unfold pceR; rw [if_neg (fun h => hany ⟨h.2, h.1⟩)])
                      rw [zb]
                      clear hany zb
                      go_wp2_with fail
                      refine (refCompile_all xb wr).mono ?_
                      rintro e w7 ⟨hc, hb7⟩
                      unfold RcA at hc
                      rw [HXB.out] at hc
                      have HP7 := hid (HP.out.later hb7)
                      rcases hc with ⟨h1, h2, rfl⟩ | ⟨P, v7, h1, h2, rfl, h3⟩
                      · obtain ⟨hbad1, hbad2⟩ := pcsR_bad rt _ _ x (X.drop (j + 1)) HP.out.done (by rw [HQ.out, h1]; rfl)
                        rw [← HSP.out] at hbad1 hbad2
                        have HD1 : Hid (drP l = none) := hid (by rw [HE.out, HPC.out, hbad1]; rfl)
                        have HD2 : Hid (ruN l = cmpN x) := hid (by rw [HE2.out, HPN.out (by rw [HPC.out, hbad1]), hbad2])
                        have HD3 := hid h2
                        obtain ⟨K, hK⟩ : ∃ K, K = cmpN x := ⟨_, rfl⟩
                        rw [← hK] at HD2 HD3 ⊢
                        have zk : ((K : Int) == 0) = false := beq_eq_false_iff_ne.2 (by have := HD3.out; omega)
                        have p0 := cell_of_blk HP7.out.st.res 0
                        have p1 := cell_of_blk HP7.out.st.res 1
                        have p2 := cell_of_blk HP7.out.st.res 2
                        have p3 := cell_of_blk HP7.out.st.res 3
                        have pf := fun o => frz_of_blk HP7.out.st.res o
                        have c0 := cell_of_blk HP7.out.st.cur 0
                        have c1 := cell_of_blk HP7.out.st.cur 1
                        have c2 := cell_of_blk HP7.out.st.cur 2
                        have c3 := cell_of_blk HP7.out.st.cur 3
                        clear h1 h2 hbad1 hbad2 hK k2 k3 kf d6
                        go_wp2
                        obtain ⟨q0, q1, q2, q3⟩ := four_cells (four_set (x := .bool bk) (y := .bool dr) (z := .bool rt) (u := .slice a4 ps.length cc4) HP7.out.st.res)
                        refine bodyPost_ret (v := .tuple #[.agg #[.bool bk, .bool dr, .bool rt, .slice a4 ps.length cc4], .int .i64 K]) (by simp [results, Tryz.results16, go_sem, q0, q1, q2, q3]) rfl ⟨.inl ⟨HD1.out, by rw [HD2.out]; exact HD3.out, bk, dr, rt, a4, ps.length, cc4, by rw [HD2.out]⟩, four_below HP7.out.st.bel HGL.out.1⟩
                      · have HDN : Hid (pcsR rt (X.take (j + 1)) = some (ps ++ [some P])) := hid (by rw [HTK.out]; exact pcsR_snoc rt _ _ _ _ HP.out.done (by rw [HQ.out, h1]; rfl))
                        have HPO : Hid (OwnP w7 w5.heap.size v7 P ∧ P.length ≤ 1024) := hid ⟨h3.mono HP.out.size, (cmp_some h1).2.2⟩
                        obtain ⟨a7, c7, e7, _, _⟩ := parts_of_own h3
                        subst e7
                        have k3' := cell_of_blk HP7.out.st.cur 3
                        clear h1 h2 h3 k2 k3 kf d6 hb7
                        go_wp2_with (at_builtin; refine wpList_append_dp rfl _ _ rfl w5.heap.size _ ps rfl (HP7.out.later (HBA.out (.bool false) (.slice a7 P.length c7) w7)).row w7.heap.size (.bool false) (.slice a7 P.length c7) (some P) rfl (heap_alloc_new w7 _) ⟨rfl, ⟨_, _, _, rfl⟩, fun P' h => by cases h; exact ⟨HPO.out.1.stays (HBA.out _ _ w7), HPO.out.2⟩⟩ (by omega) (Nat.le_trans HP7.out.size (HBA.out (.bool false) (.slice a7 P.length c7) w7).size) ?_; intro v8 w8 hO8 hg8 _; have HP8 := hid ((HP7.out.later (HBA.out (.bool false) (.slice a7 P.length c7) w7)).put hg2w hg4w HGL.out.2.2 HGL.out.2.1 hO8 hg8 HDN.out); obtain ⟨a8, c8, e8⟩ := hO8.shape; subst e8; have hcur := (hg8.block g4 (Nat.lt_of_lt_of_le hg4w (Nat.le_trans HP7.out.size (HBA.out (.bool false) (.slice a7 P.length c7) w7).size)) (fun e => by obtain ⟨cs, h1, _⟩ := HP7.out.row; have := (own_ge' h1 g4 e.symm).1; omega)).trans (HP7.out.later (HBA.out (.bool false) (.slice a7 P.length c7) w7)).st.cur; have m3 := cell_of_blk hcur 3; have mf := frz_of_blk hcur 3; clear hO8 hg8 hcur)
                        rw [List.length_append, List.length_singleton] at HP8
                        exact ⟨⟨j + 1, _, _, by omega, by push_cast; rfl, HP8⟩, by simp [intOf]; omega⟩
                · obtain rfl : j = X.length := by omega
                  have HD1 : Hid (drP l = some ⟨ps, decide ((47 : UInt8) ∈ t), dr, bk⟩) := hid (by
                    have h := HP.out.done
                    rw [List.take_length] at h
                    rw [HE.out, HPC.out, h, ← HRT.out]; rfl)
                  have p0 := cell_of_blk HP.out.st.res 0
                  have p1 := cell_of_blk HP.out.st.res 1
                  have p2 := cell_of_blk HP.out.st.res 2
                  have p3 := cell_of_blk HP.out.st.res 3
                  have pf := fun o => frz_of_blk HP.out.st.res o
                  have c0 := cell_of_blk HP.out.st.cur 0
                  have c1 := cell_of_blk HP.out.st.cur 1
                  have c2 := cell_of_blk HP.out.st.cur 2
                  have c3 := cell_of_blk HP.out.st.cur 3
                  clear HRW
                  go_wp2
                  obtain ⟨q0, q1, q2, q3⟩ := four_cells (four_set (x := .bool bk) (y := .bool dr) (z := .bool rt) (u := .slice a4 ps.length cc4) HP.out.st.res)
                  refine bodyPost_ret (v := .tuple #[.agg #[.bool bk, .bool dr, .bool rt, .slice a4 ps.length cc4], .int .i64 0]) (by simp [results, Tryz.results16, go_sem, q0, q1, q2, q3]) rfl ⟨.inr ⟨_, _, HD1.out, by rw [← HRT.out], ?_⟩, four_below HP.out.st.bel HGL.out.1⟩
                  exact ((((HP.out.row.set hg2w).set hg2w).set hg2w).set hg2w).mono (Nat.le_trans HGL.out.1 (Nat.le_of_lt hg2w))
end Go.Proofs.YtfjhjhjdneihbaaGreatDoor
