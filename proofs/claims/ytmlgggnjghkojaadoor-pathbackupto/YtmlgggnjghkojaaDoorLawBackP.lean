/-
  PROVED: the card of PathBack's second form: for every string, every list of strings and every number that together are of bulk up to 1048576 PathBack returns true, and all read afterwards as they read before; the card ties what errors.errorType and the two tables of unicode/utf8 hold to the program's text (a pruned copy of the project: the packages that this law loads).
-/
import Derived.Test.YtmlgggnjghkojaaDoorSu
import Derived.Test.YtmlgggnjghkojaaDoorRl
import Derived.Test.YtmlgggnjghkojaaDoorHd
namespace Go.Proofs.YtmlgggnjghkojaaDoor.pathBack
open Go.ChangeShapes Go.WideShapes Go.ChangeAt Go.RowKit
open Go.ChangeMaps (open_string shut_string)

theorem below_all (q : ByteArray) (w : World) : Calls Tryd.prog 16 #[.string ⟨#[]⟩, .string q] w fun e w' => e = .returned (.bool true) ∧ w' = w := below_any ⟨#[]⟩ q w
theorem parts_back {xs : List ByteArray} {A : ByteArray} (hA : A = ⟨(Pp.join (DL xs)).1.toArray⟩) (hE : (Pp.join (DL xs)).2 = 0) : Pp.parts A.data.toList = (DL xs, 0) := by
  obtain ⟨h1, h2, h3, h4⟩ := Pp.join_ok hE
  rw [hA, h4]
  exact Pp.parts_glue h1 h2 h3
theorem strip_back {s : ByteArray} {k : Nat} {O T : ByteArray} {G1 G2 : Nat} (hO : O = ⟨(Pp.strip s.data.toList k).1.toArray⟩) (h1 : G1 = (Pp.strip s.data.toList k).2) (hT : T = ⟨(Pp.strip s.data.toList (k + 1)).1.toArray⟩) (h2 : G2 = (Pp.strip s.data.toList (k + 1)).2) :
    (G1 = 0 → T = ⟨(Pp.strip O.data.toList 1).1.toArray⟩ ∧ G2 = (Pp.strip O.data.toList 1).2) ∧ (G1 ≠ 0 → G2 = 32) := by
  have h := Pp.strip_on s.data.toList k (by omega)
  refine ⟨fun h0 => ?_, fun h0 => ?_⟩
  · rw [if_pos (by rw [← h1]; exact h0)] at h
    have hd : O.data.toList = (Pp.strip s.data.toList k).1 := by rw [hO]
    rw [hT, h2, h, hd]
    exact ⟨rfl, rfl⟩
  · rw [if_neg (by rw [← h1]; exact h0)] at h
    rw [h2, h]
theorem safe_facts {s Q : ByteArray} (hQ : Q = ⟨(Pp.safe s.data.toList).1.toArray⟩) (hF : (Pp.safe s.data.toList).2 = 0) : ∃ q : List (List UInt8), q ≠ [] ∧ q.any Pp.bad = false ∧ q.length ≤ 64 ∧ Pp.safe Q.data.toList = (Q.data.toList, 0) ∧ Pp.parts Q.data.toList = (q, 0) ∧ Q.size ≤ 4096 := by
  obtain ⟨q, h1, h2, h3, h4, h5, h6, h7⟩ := Pp.safe_back s.data.toList hF
  have hd : Q.data.toList = Pp.glue q := by rw [hQ, h5]
  exact ⟨q, h1, h2, h3, by rw [hd]; exact h6, by rw [hd]; exact h7, by rw [← size_data, hd]; exact h4⟩

set_option maxHeartbeats 16000000 in
set_option maxRecDepth 100000 in
theorem walk (s : ByteArray) (v : Value) (xs : List ByteArray) (n : Int) (w : World) (hs : s.size ≤ 1048576) (hr : Rd w v xs) (hn : xs.length * 16 ≤ 140737488351232) (_hsh : v = .slice none 0 0 ∨ ∃ ad n c, v = .slice (some ad) n c) (_hi : -9223372036854775808 ≤ n ∧ n ≤ 9223372036854775807) (hg : Rdy w) :
    Calls Tryd.prog 5 #[.string s, v, .int .i64 n] w fun e w' => e = .returned (.bool true) ∧ Below w.heap.size w w' := by
  have HG := hid hg
  have HB := hid (Below.refl w.heap.size w)
  have HR := hid hr
  have hN : xs.length ≤ 140737488355328 := by omega
  obtain ⟨ad, c0, rfl⟩ := hr.shape
  clear hg hr _hsh _hi
  obtain ⟨A, hA⟩ : ∃ A : ByteArray, A = ⟨(Pp.join (DL xs)).1.toArray⟩ := ⟨_, rfl⟩
  obtain ⟨E, hE⟩ : ∃ E : Nat, E = (Pp.join (DL xs)).2 := ⟨_, rfl⟩
  have HA := hid hA
  have HE := hid hE
  obtain ⟨Q, hQ⟩ : ∃ Q : ByteArray, Q = ⟨(Pp.safe s.data.toList).1.toArray⟩ := ⟨_, rfl⟩
  obtain ⟨F, hF⟩ : ∃ F : Nat, F = (Pp.safe s.data.toList).2 := ⟨_, rfl⟩
  have HQ := hid hQ
  have HF := hid hF
  obtain ⟨k, hk, hk20⟩ : ∃ k : Nat, max 0 (min n 20) = (k : Int) ∧ k ≤ 20 := ⟨(max 0 (min n 20)).toNat, by omega, by omega⟩
  obtain ⟨O, hO⟩ : ∃ O : ByteArray, O = ⟨(Pp.strip s.data.toList k).1.toArray⟩ := ⟨_, rfl⟩
  obtain ⟨G1, hG1⟩ : ∃ G1 : Nat, G1 = (Pp.strip s.data.toList k).2 := ⟨_, rfl⟩
  obtain ⟨T, hT⟩ : ∃ T : ByteArray, T = ⟨(Pp.strip s.data.toList (k + 1)).1.toArray⟩ := ⟨_, rfl⟩
  obtain ⟨G2, hG2⟩ : ∃ G2 : Nat, G2 = (Pp.strip s.data.toList (k + 1)).2 := ⟨_, rfl⟩
  have HSB := hid (strip_back hO hG1 hT hG2)
  have hOs : O.size ≤ 1048576 := by
    rw [hO, size_mk]
    have h1 := Pp.stripN_len k s.data.toList
    rw [Pp.strip_err _ _ (by omega), Int.toNat_natCast]
    rw [size_data] at h1
    exact Nat.le_trans h1 hs
  have HO := hid hO
  have HG1 := hid hG1
  have HT := hid hT
  have HG2 := hid hG2
  clear hA hE hQ hF hO hG1 hT hG2
  have hgg : ((G2 : Int) != (G2 : Int)) = false := by rw [bne_eq_false_iff_eq]
  have htt : (!T.toList == T.toList) = false := by simp
  have hqq : (!Q.toList == Q.toList) = false := by simp
  go_enter Tryd.func5, Tryd.ntmps5
  go_wp2_with fail
  refine (join_rd HR.out hN).mono ?_
  rintro e w1 ⟨rfl, hb⟩
  rw [← HA.out, ← HE.out]
  have HGn := hid (HG.out.below hb)
  have HBn := hid (HB.out.trans (hb.mono HB.out.size))
  have HRn := hid (HR.out.below hb)
  clear HG HB HR hb
  have HG := HGn
  have HB := HBn
  have HR := HRn
  clear HGn HBn HRn
  by_cases he : E = 0
  · have HP := hid (parts_back HA.out (HE.out.symm.trans he))
    rw [he, errV_zero]
    clear he
    go_wp2_with fail
    refine (parts_any A _ HG.out.max).mono ?_
    rintro e w2 ⟨vm, rfl, hown, hb⟩
    rw [HP.out] at hown ⊢
    rw [errV_zero]
    have hrm := rd_own hown
    rw [BL_DL] at hrm
    have HM := hid hrm
    clear hown hrm
    have HGn := hid (HG.out.below hb)
    have HBn := hid (HB.out.trans (hb.mono HB.out.size))
    have HRn := hid (HR.out.below hb)
    clear HG HB HR hb
    have HG := HGn
    have HB := HBn
    have HR := HRn
    clear HGn HBn HRn
    go_wp2_with fail
    refine (same_rd HM.out HR.out hN).mono ?_
    rintro e w3 ⟨rfl, hb⟩
    rw [decide_eq_true rfl]
    clear HM
    have HGn := hid (HG.out.below hb)
    have HBn := hid (HB.out.trans (hb.mono HB.out.size))
    have HRn := hid (HR.out.below hb)
    clear HG HB HR hb
    have HG := HGn
    have HB := HBn
    have HR := HRn
    clear HGn HBn HRn
    clear HR
    go_wp2_with fail
    refine (safe_any s _ (by omega) HG.out.max).mono ?_
    rintro e wg1 ⟨rfl, hb⟩
    rw [← HQ.out, ← HF.out]
    have HGn := hid (HG.out.below hb)
    have HBn := hid (HB.out.trans (hb.mono HB.out.size))
    clear HG HB  hb
    have HG := HGn
    have HB := HBn
    clear HGn HBn 
    by_cases hf : F = 0
    · obtain ⟨q, hq1, hq2, hq3, hq4, hq5, hq6⟩ := safe_facts HQ.out (HF.out.symm.trans hf)
      have HQ2 := hid hq2
      have HQ4 := hid hq4
      have HQ5 := hid hq5
      have hql : 0 < q.length := List.length_pos_iff.2 hq1
      rw [hf, errV_zero]
      clear hf hq1 hq2 hq4 hq5
      go_wp2_with fail
      refine (safe_any Q _ (by omega) HG.out.max).mono ?_
      rintro e wh1 ⟨rfl, hb⟩
      rw [HQ4.out, bytes_eta, errV_zero]
      have HGn := hid (HG.out.below hb)
      have HBn := hid (HB.out.trans (hb.mono HB.out.size))
      clear HG HB  hb
      have HG := HGn
      have HB := HBn
      clear HGn HBn 
      go_wp2_with fail
      refine (parts_any Q _ HG.out.max).mono ?_
      rintro e wi1 ⟨vm, rfl, hown, hb⟩
      rw [HQ5.out] at hown ⊢
      rw [errV_zero]
      have HGn := hid (HG.out.below hb)
      have HBn := hid (HB.out.trans (hb.mono HB.out.size))
      clear HG HB  hb
      have HG := HGn
      have HB := HBn
      clear HGn HBn 
      rcases rd_own hown with ⟨h0, _⟩ | ⟨b, o, c, rfl, hc, hlt, hcells⟩
      · exact absurd (congrArg List.length h0) (by show ¬ (BL q).length = 0; rw [BL_length]; omega)
      have HX := hid hcells
      have hqe : ((q.length : Int) == 0) = false := beq_eq_false_iff_ne.2 (by omega)
      rw [BL_length]
      clear hown hcells hc
      go_wp2_with fail
      refine (below_all Q _).mono ?_
      rintro e wj1 ⟨rfl, rfl⟩
      go_wp2
      have HZ := hid HB.out.size
      go_loopw [17] (fun i wr => ∃ p : Nat, p ≤ q.length ∧ i = .int .i64 p ∧ Below wj1.heap.size wj1 wr) (fun i _ => q.length - (intOf i).toNat)
      case atStart => exact ⟨0, Nat.zero_le _, rfl, Below.refl _ _⟩
      case round =>
        obtain ⟨p, hp, rfl, hbl⟩ := hrel
        by_cases hpl : p < q.length
        · obtain ⟨x, hx⟩ : ∃ x, (BL q)[p]? = some x := ⟨_, List.getElem?_eq_getElem (by rw [BL_length]; exact hpl)⟩
          have cx : wr.cell? ⟨b, o + p, none⟩ = some (.string x) := (hbl.cell (p := ⟨b, o + p, none⟩) hlt).trans (HX.out p x hx)
          have HN : Hid (Pp.nameN x.data.toList = 0) := hid (name_good (Pp.any_bad_false HQ2.out _ (by have := List.mem_of_getElem? hx; rw [← bytes_eta x] at this; exact mem_BL.1 this)))
          clear hx
          go_wp2_with fail
          refine (name_any x _).mono ?_
          rintro e wk1 ⟨rfl, hbk⟩
          rw [HN.out, errV_zero]
          go_wp2
          go_roundw
          case rel => exact ⟨p + 1, by omega, by go_num, hbl.trans (hbk.mono hbl.size)⟩
          case measure => simp [intOf]; omega
        · have HGn := hid (HG.out.below hbl)
          have HBn := hid (HB.out.trans (hbl.mono HB.out.size))
          clear HG HB
          have HG := HGn
          have HB := HBn
          clear HGn HBn
          go_wp2_with fail
          refine (strip_any s k _ (by omega) (by omega) (by omega)).mono ?_
          rintro e wa2 ⟨rfl, hb⟩
          rw [← HO.out, ← HG1.out]
          have HGn := hid (HG.out.below hb)
          have HBn := hid (HB.out.trans (hb.mono HB.out.size))
          clear HG HB  hb
          have HG := HGn
          have HB := HBn
          clear HGn HBn 
          go_wp2_with fail
          refine (strip_any s (k + 1) _ (by omega) (by omega) (by omega)).mono ?_
          rintro e wb2 ⟨rfl, hb⟩
          rw [← HT.out, ← HG2.out]
          have HGn := hid (HG.out.below hb)
          have HBn := hid (HB.out.trans (hb.mono HB.out.size))
          clear HG HB  hb
          have HG := HGn
          have HB := HBn
          clear HGn HBn 
          by_cases hg : G1 = 0
          · have HQ1 := hid (HSB.out.1 hg)
            rw [hg, errV_zero]
            have hOs2 := hOs
            clear hg
            go_wp2_with fail
            refine (strip_any O 1 _ (by omega) (by omega) (by omega)).mono ?_
            rintro e wc2 ⟨rfl, hb⟩
            rw [← HQ1.out.1, ← HQ1.out.2]
            have HGn := hid (HG.out.below hb)
            have HBn := hid (HB.out.trans (hb.mono HB.out.size))
            clear HG HB  hb
            have HG := HGn
            have HB := HBn
            clear HGn HBn 
            go_wp2_with fail
            refine (num_errV G2 _ HG.out.err).mono ?_
            rintro e wd2 ⟨rfl, hb⟩
            have HGn := hid (HG.out.below hb)
            have HBn := hid (HB.out.trans (hb.mono HB.out.size))
            clear HG HB  hb
            have HG := HGn
            have HB := HBn
            clear HGn HBn 
            go_wp2_with fail
            refine (num_errV G2 _ HG.out.err).mono ?_
            rintro e we2 ⟨rfl, hb⟩
            have HGn := hid (HG.out.below hb)
            have HBn := hid (HB.out.trans (hb.mono HB.out.size))
            clear HG HB  hb
            have HG := HGn
            have HB := HBn
            clear HGn HBn 
            go_wp2_with fail
            refine (sure_any _ HG.out).mono ?_
            rintro e wf2 ⟨rfl, hb⟩
            go_wp2
            go_ret
            exact ⟨rfl, HB.out.trans (hb.mono HB.out.size)⟩
          · have HQ1 := hid (HSB.out.2 hg)
            have HV1 := hid (errV_pos hg)
            have HV2 : Hid (errV G2 = .iface 43 (.int .i64 32)) := hid (by rw [HQ1.out]; rfl)
            rw [HV1.out, HV2.out]
            clear hg
            go_wp2_with fail
            refine (sure_any _ HG.out).mono ?_
            rintro e wf2 ⟨rfl, hb⟩
            go_wp2
            go_ret
            exact ⟨rfl, HB.out.trans (hb.mono HB.out.size)⟩
    · have HV := hid (errV_pos hf)
      rw [HV.out]
      clear hf
      go_wp2_with fail
      refine (strip_any s k _ (by omega) (by omega) (by omega)).mono ?_
      rintro e wa3 ⟨rfl, hb⟩
      rw [← HO.out, ← HG1.out]
      have HGn := hid (HG.out.below hb)
      have HBn := hid (HB.out.trans (hb.mono HB.out.size))
      clear HG HB  hb
      have HG := HGn
      have HB := HBn
      clear HGn HBn 
      go_wp2_with fail
      refine (strip_any s (k + 1) _ (by omega) (by omega) (by omega)).mono ?_
      rintro e wb3 ⟨rfl, hb⟩
      rw [← HT.out, ← HG2.out]
      have HGn := hid (HG.out.below hb)
      have HBn := hid (HB.out.trans (hb.mono HB.out.size))
      clear HG HB  hb
      have HG := HGn
      have HB := HBn
      clear HGn HBn 
      by_cases hg : G1 = 0
      · have HQ1 := hid (HSB.out.1 hg)
        rw [hg, errV_zero]
        have hOs2 := hOs
        clear hg
        go_wp2_with fail
        refine (strip_any O 1 _ (by omega) (by omega) (by omega)).mono ?_
        rintro e wc3 ⟨rfl, hb⟩
        rw [← HQ1.out.1, ← HQ1.out.2]
        have HGn := hid (HG.out.below hb)
        have HBn := hid (HB.out.trans (hb.mono HB.out.size))
        clear HG HB  hb
        have HG := HGn
        have HB := HBn
        clear HGn HBn 
        go_wp2_with fail
        refine (num_errV G2 _ HG.out.err).mono ?_
        rintro e wd3 ⟨rfl, hb⟩
        have HGn := hid (HG.out.below hb)
        have HBn := hid (HB.out.trans (hb.mono HB.out.size))
        clear HG HB  hb
        have HG := HGn
        have HB := HBn
        clear HGn HBn 
        go_wp2_with fail
        refine (num_errV G2 _ HG.out.err).mono ?_
        rintro e we3 ⟨rfl, hb⟩
        have HGn := hid (HG.out.below hb)
        have HBn := hid (HB.out.trans (hb.mono HB.out.size))
        clear HG HB  hb
        have HG := HGn
        have HB := HBn
        clear HGn HBn 
        go_wp2_with fail
        refine (sure_any _ HG.out).mono ?_
        rintro e wf3 ⟨rfl, hb⟩
        go_wp2
        go_ret
        exact ⟨rfl, HB.out.trans (hb.mono HB.out.size)⟩
      · have HQ1 := hid (HSB.out.2 hg)
        have HV1 := hid (errV_pos hg)
        have HV2 : Hid (errV G2 = .iface 43 (.int .i64 32)) := hid (by rw [HQ1.out]; rfl)
        rw [HV1.out, HV2.out]
        clear hg
        go_wp2_with fail
        refine (sure_any _ HG.out).mono ?_
        rintro e wf3 ⟨rfl, hb⟩
        go_wp2
        go_ret
        exact ⟨rfl, HB.out.trans (hb.mono HB.out.size)⟩
  · have HV := hid (errV_pos he)
    rw [HV.out]
    clear he HR
    go_wp2_with fail
    refine (safe_any s _ (by omega) HG.out.max).mono ?_
    rintro e wg4 ⟨rfl, hb⟩
    rw [← HQ.out, ← HF.out]
    have HGn := hid (HG.out.below hb)
    have HBn := hid (HB.out.trans (hb.mono HB.out.size))
    clear HG HB  hb
    have HG := HGn
    have HB := HBn
    clear HGn HBn 
    by_cases hf : F = 0
    · obtain ⟨q, hq1, hq2, hq3, hq4, hq5, hq6⟩ := safe_facts HQ.out (HF.out.symm.trans hf)
      have HQ2 := hid hq2
      have HQ4 := hid hq4
      have HQ5 := hid hq5
      have hql : 0 < q.length := List.length_pos_iff.2 hq1
      rw [hf, errV_zero]
      clear hf hq1 hq2 hq4 hq5
      go_wp2_with fail
      refine (safe_any Q _ (by omega) HG.out.max).mono ?_
      rintro e wh4 ⟨rfl, hb⟩
      rw [HQ4.out, bytes_eta, errV_zero]
      have HGn := hid (HG.out.below hb)
      have HBn := hid (HB.out.trans (hb.mono HB.out.size))
      clear HG HB  hb
      have HG := HGn
      have HB := HBn
      clear HGn HBn 
      go_wp2_with fail
      refine (parts_any Q _ HG.out.max).mono ?_
      rintro e wi4 ⟨vm, rfl, hown, hb⟩
      rw [HQ5.out] at hown ⊢
      rw [errV_zero]
      have HGn := hid (HG.out.below hb)
      have HBn := hid (HB.out.trans (hb.mono HB.out.size))
      clear HG HB  hb
      have HG := HGn
      have HB := HBn
      clear HGn HBn 
      rcases rd_own hown with ⟨h0, _⟩ | ⟨b, o, c, rfl, hc, hlt, hcells⟩
      · exact absurd (congrArg List.length h0) (by show ¬ (BL q).length = 0; rw [BL_length]; omega)
      have HX := hid hcells
      have hqe : ((q.length : Int) == 0) = false := beq_eq_false_iff_ne.2 (by omega)
      rw [BL_length]
      clear hown hcells hc
      go_wp2_with fail
      refine (below_all Q _).mono ?_
      rintro e wj4 ⟨rfl, rfl⟩
      go_wp2
      have HZ := hid HB.out.size
      go_loopw [17] (fun i wr => ∃ p : Nat, p ≤ q.length ∧ i = .int .i64 p ∧ Below wj4.heap.size wj4 wr) (fun i _ => q.length - (intOf i).toNat)
      case atStart => exact ⟨0, Nat.zero_le _, rfl, Below.refl _ _⟩
      case round =>
        obtain ⟨p, hp, rfl, hbl⟩ := hrel
        by_cases hpl : p < q.length
        · obtain ⟨x, hx⟩ : ∃ x, (BL q)[p]? = some x := ⟨_, List.getElem?_eq_getElem (by rw [BL_length]; exact hpl)⟩
          have cx : wr.cell? ⟨b, o + p, none⟩ = some (.string x) := (hbl.cell (p := ⟨b, o + p, none⟩) hlt).trans (HX.out p x hx)
          have HN : Hid (Pp.nameN x.data.toList = 0) := hid (name_good (Pp.any_bad_false HQ2.out _ (by have := List.mem_of_getElem? hx; rw [← bytes_eta x] at this; exact mem_BL.1 this)))
          clear hx
          go_wp2_with fail
          refine (name_any x _).mono ?_
          rintro e wk4 ⟨rfl, hbk⟩
          rw [HN.out, errV_zero]
          go_wp2
          go_roundw
          case rel => exact ⟨p + 1, by omega, by go_num, hbl.trans (hbk.mono hbl.size)⟩
          case measure => simp [intOf]; omega
        · have HGn := hid (HG.out.below hbl)
          have HBn := hid (HB.out.trans (hbl.mono HB.out.size))
          clear HG HB
          have HG := HGn
          have HB := HBn
          clear HGn HBn
          go_wp2_with fail
          refine (strip_any s k _ (by omega) (by omega) (by omega)).mono ?_
          rintro e wa5 ⟨rfl, hb⟩
          rw [← HO.out, ← HG1.out]
          have HGn := hid (HG.out.below hb)
          have HBn := hid (HB.out.trans (hb.mono HB.out.size))
          clear HG HB  hb
          have HG := HGn
          have HB := HBn
          clear HGn HBn 
          go_wp2_with fail
          refine (strip_any s (k + 1) _ (by omega) (by omega) (by omega)).mono ?_
          rintro e wb5 ⟨rfl, hb⟩
          rw [← HT.out, ← HG2.out]
          have HGn := hid (HG.out.below hb)
          have HBn := hid (HB.out.trans (hb.mono HB.out.size))
          clear HG HB  hb
          have HG := HGn
          have HB := HBn
          clear HGn HBn 
          by_cases hg : G1 = 0
          · have HQ1 := hid (HSB.out.1 hg)
            rw [hg, errV_zero]
            have hOs2 := hOs
            clear hg
            go_wp2_with fail
            refine (strip_any O 1 _ (by omega) (by omega) (by omega)).mono ?_
            rintro e wc5 ⟨rfl, hb⟩
            rw [← HQ1.out.1, ← HQ1.out.2]
            have HGn := hid (HG.out.below hb)
            have HBn := hid (HB.out.trans (hb.mono HB.out.size))
            clear HG HB  hb
            have HG := HGn
            have HB := HBn
            clear HGn HBn 
            go_wp2_with fail
            refine (num_errV G2 _ HG.out.err).mono ?_
            rintro e wd5 ⟨rfl, hb⟩
            have HGn := hid (HG.out.below hb)
            have HBn := hid (HB.out.trans (hb.mono HB.out.size))
            clear HG HB  hb
            have HG := HGn
            have HB := HBn
            clear HGn HBn 
            go_wp2_with fail
            refine (num_errV G2 _ HG.out.err).mono ?_
            rintro e we5 ⟨rfl, hb⟩
            have HGn := hid (HG.out.below hb)
            have HBn := hid (HB.out.trans (hb.mono HB.out.size))
            clear HG HB  hb
            have HG := HGn
            have HB := HBn
            clear HGn HBn 
            go_wp2_with fail
            refine (sure_any _ HG.out).mono ?_
            rintro e wf5 ⟨rfl, hb⟩
            go_wp2
            go_ret
            exact ⟨rfl, HB.out.trans (hb.mono HB.out.size)⟩
          · have HQ1 := hid (HSB.out.2 hg)
            have HV1 := hid (errV_pos hg)
            have HV2 : Hid (errV G2 = .iface 43 (.int .i64 32)) := hid (by rw [HQ1.out]; rfl)
            rw [HV1.out, HV2.out]
            clear hg
            go_wp2_with fail
            refine (sure_any _ HG.out).mono ?_
            rintro e wf5 ⟨rfl, hb⟩
            go_wp2
            go_ret
            exact ⟨rfl, HB.out.trans (hb.mono HB.out.size)⟩
    · have HV := hid (errV_pos hf)
      rw [HV.out]
      clear hf
      go_wp2_with fail
      refine (strip_any s k _ (by omega) (by omega) (by omega)).mono ?_
      rintro e wa6 ⟨rfl, hb⟩
      rw [← HO.out, ← HG1.out]
      have HGn := hid (HG.out.below hb)
      have HBn := hid (HB.out.trans (hb.mono HB.out.size))
      clear HG HB  hb
      have HG := HGn
      have HB := HBn
      clear HGn HBn 
      go_wp2_with fail
      refine (strip_any s (k + 1) _ (by omega) (by omega) (by omega)).mono ?_
      rintro e wb6 ⟨rfl, hb⟩
      rw [← HT.out, ← HG2.out]
      have HGn := hid (HG.out.below hb)
      have HBn := hid (HB.out.trans (hb.mono HB.out.size))
      clear HG HB  hb
      have HG := HGn
      have HB := HBn
      clear HGn HBn 
      by_cases hg : G1 = 0
      · have HQ1 := hid (HSB.out.1 hg)
        rw [hg, errV_zero]
        have hOs2 := hOs
        clear hg
        go_wp2_with fail
        refine (strip_any O 1 _ (by omega) (by omega) (by omega)).mono ?_
        rintro e wc6 ⟨rfl, hb⟩
        rw [← HQ1.out.1, ← HQ1.out.2]
        have HGn := hid (HG.out.below hb)
        have HBn := hid (HB.out.trans (hb.mono HB.out.size))
        clear HG HB  hb
        have HG := HGn
        have HB := HBn
        clear HGn HBn 
        go_wp2_with fail
        refine (num_errV G2 _ HG.out.err).mono ?_
        rintro e wd6 ⟨rfl, hb⟩
        have HGn := hid (HG.out.below hb)
        have HBn := hid (HB.out.trans (hb.mono HB.out.size))
        clear HG HB  hb
        have HG := HGn
        have HB := HBn
        clear HGn HBn 
        go_wp2_with fail
        refine (num_errV G2 _ HG.out.err).mono ?_
        rintro e we6 ⟨rfl, hb⟩
        have HGn := hid (HG.out.below hb)
        have HBn := hid (HB.out.trans (hb.mono HB.out.size))
        clear HG HB  hb
        have HG := HGn
        have HB := HBn
        clear HGn HBn 
        go_wp2_with fail
        refine (sure_any _ HG.out).mono ?_
        rintro e wf6 ⟨rfl, hb⟩
        go_wp2
        go_ret
        exact ⟨rfl, HB.out.trans (hb.mono HB.out.size)⟩
      · have HQ1 := hid (HSB.out.2 hg)
        have HV1 := hid (errV_pos hg)
        have HV2 : Hid (errV G2 = .iface 43 (.int .i64 32)) := hid (by rw [HQ1.out]; rfl)
        rw [HV1.out, HV2.out]
        clear hg
        go_wp2_with fail
        refine (sure_any _ HG.out).mono ?_
        rintro e wf6 ⟨rfl, hb⟩
        go_wp2
        go_ret
        exact ⟨rfl, HB.out.trans (hb.mono HB.out.size)⟩

theorem own : ownKnob Tryd.prog.godebug = none := by kernel_rfl

set_option maxRecDepth 100000 in
theorem contract (H : Type) (enc : TypeId × Value → H) (W : World) (base : Nat) (args : Array Value) (ds gs : List (DataW H)) (before : List MemPlace)
    (hval : ∀ (j : Nat) t v, Tryd.f5.params[j]? = some t → args[j]? = some v → Value.okWide Tryd.prog W .any base t v)
    (hW : DataW.Whole enc Tryd.prog Tryd.f5.params.toList Rows.pathBackSpec.vars false W args.toList ds gs before)
    (hk : Rows.uptoSmall H (ds ++ gs) = true)
    (hL : laidMetH Tryd.prog Rows.pathBackUptoRow.laid W)
    (hSh : W.ShapedOpen Tryd.prog)
    : Calls Tryd.prog 5 args W fun e W' => ∃ v, e = .returned v ∧ Rows.pathBackSpec.post enc Tryd.prog Tryd.f5 false true false false W args v W' := by
  have hW' := hW
  obtain ⟨p, q, hA0, hV, rfl, hfz, hnd⟩ := hW
  have hA : DataW.TrodAll enc Tryd.prog W 0 (fun _ => true) true Tryd.f5.params.toList args.toList ds p := hA0
  rw [Tryd.params5] at hA hval
  obtain ⟨v0, vs0, d0, ds0, p0, q0, hargs0, rfl, rfl, h0, r0⟩ := trodAll_cons hA
  obtain ⟨v1, vs1, d1, ds1, p1, q1, hargs1, rfl, rfl, h1, r1⟩ := trodAll_cons r0
  obtain ⟨v2, vs2, d2, ds2, p2, q2, hargs2, rfl, rfl, h2, r2⟩ := trodAll_cons r1
  obtain ⟨rfl, rfl, rfl⟩ := trodAll_nil r2
  obtain rfl : args = #[v0, v1, v2] := by cases args; simp_all
  obtain ⟨rfl, rfl⟩ := trodVars_none hV
  obtain ⟨x0, rfl, rfl, rfl, hmax0⟩ := open_string Tryd.underlying9 (hval 0 9 v0 rfl rfl) h0
  obtain ⟨x1, hr1, hsz1, hd1, hsh1⟩ := open_rd (okWide_slice Tryd.underlying22 (hval 1 22 v1 rfl rfl)) h1
  obtain ⟨x2, rfl, rfl, rfl, hmax2⟩ := open_int Tryd.underlying3 (hval 2 3 v2 rfl rfl) h2
  clear hA0
  simp only [List.append_nil] at hW' hk
  have hk' : Rows.uptoBulkAll (H := H) [DataW.lit (.string x0.data.toList), d1, DataW.lit (.int .i64 x2)] ≤ 1048576 := of_decide_eq_true hk
  simp only [Rows.uptoBulkAll, Rows.uptoBulk] at hk'
  have hls0 : x0.data.toList.length = x0.size := size_data x0
  have hbk1 := rd_bulk hd1
  have hlt1 : ∀ x ∈ p1, x.block < W.heap.size := fun x hx => by simpa using hW'.lt x (by simp [hx])
  refine (walk x0 v1 x1 x2 W (by omega) hr1 (by omega) hsh1 (wf_range hmax2) ⟨handle_of hL, max_of hSh⟩).mono fun e W' ⟨he, hb⟩ => ?_
  subst he
  exact ⟨_, rfl, _, _, _, [], ([] ++ (p1 ++ ([] ++ []))), [], hW', trodAll_cons_mk (shut_bool Tryd.underlying4 _) trodAll_mk0, trodAll_cons_mk (shut_string Tryd.underlying9 hmax0) (trodAll_cons_mk (Below.trod laidOut (by kernel_rfl) (of_decide_eq_true (by kernel_rfl)) h1 hb hlt1) (trodAll_cons_mk (shut_int Tryd.underlying3 hmax2) trodAll_mk0)), rfl, hb.frame _, fun h => by cases h⟩

set_option maxRecDepth 100000 in
theorem lifted (os : Os) (started : os.Started) (H : Type) (enc : TypeId × Value → H) (F : Stop.Interp) :
    ReturnsInHanded {} Tryd.checked os 5 .any ((Rows.OpenSpec.upto Rows.pathBackSpec).preRow enc Tryd.prog Tryd.f5 Rows.pathBackUptoRow.domain false Rows.pathBackUptoRow.laid) (((Rows.OpenSpec.upto Rows.pathBackSpec).at F).post enc Tryd.prog Tryd.f5 false true false false) := by
  refine returnsInHanded_of_row (C := Tryd.checked) (s := Rows.OpenSpec.upto Rows.pathBackSpec) own started (by kernel_rfl) Tryd.func5
    (witness_row_at (enc := enc) (C := Tryd.checked) false
      { World.holding Tryd.prog os ⟨#[], #[], []⟩ with heap := ((((World.holding Tryd.prog os ⟨#[], #[], []⟩).heap.modify 0 fun
          | .cells _ t frozen => .cells #[.iface 92 (.agg #[.pointer (some ⟨4, 24, none⟩)])] t frozen
          | o => o).modify 2 fun
          | .cells _ t frozen => .cells firstCells t frozen
          | o => o).modify 3 fun
          | .cells _ t frozen => .cells rangeCells t frozen
          | o => o) }
      #[.string .empty, .slice none 0 0, .int .i64 0] rfl (by kernel_rfl) (by kernel_rfl) (by kernel_rfl)
      (OpenSpec.preRow_of_cond 8 (x := ([.lit (.string []), .nil, .lit (.int .i64 0)], [], [])) (by kernel_rfl) (by kernel_rfl) (fun k hk => by cases hk; kernel_rfl) (by kernel_rfl) (laidMetH_of_parts (laidMet_of_run' 300 (by kernel_rfl) (by kernel_rfl)) (by kernel_rfl)))) ?_
  intro W base args ds gs before hval hW _ hcond hsz hL hSh _
  exact contract H enc W base args ds gs before hval hW (hcond _ rfl) hL hSh

theorem said : Rows.PathBackUptoSaid :=
  OpenClaim.holds_of_cond 5 Tryd.f5 rfl rfl rfl rfl rfl rfl rfl ⟨rfl, rfl, rfl, rfl, rfl⟩ rfl rfl rfl rfl rfl (by kernel_rfl) Tryd.func5 (by kernel_rfl)
    (of_decide_eq_true (by kernel_rfl)) (by unfold Func.isWrapper; first | (rw [if_pos (by decide +kernel)]; kernel_rfl) | (rw [if_neg (by decide +kernel)]; exact ⟨rfl, rfl⟩))
    (fun os started H enc _ F => by rw [OpenClaim.pre_eq_preRow]; exact lifted os started H enc F)

theorem plain (f : FuncId) (fn : Func) (hf : Tryd.pinned.checked.prog.funcNamed Rows.pathBackUptoRow.func = some f) (hfn : Tryd.pinned.checked.prog.funcs[f]? = some fn) :
    true = Tryd.pinned.checked.prog.looks [] ∧ ∀ (j : Nat) t, fn.params[j]? = some t → Tryd.pinned.checked.prog.wantsStandIn t = false := by
  obtain rfl : f = 5 := Option.some.inj ((show Tryd.prog.funcNamed Rows.pathBackUptoRow.func = some 5 by kernel_rfl).symm.trans hf) |>.symm
  obtain rfl : fn = Tryd.f5 := (Option.some.inj (Tryd.func5.symm.trans hfn)).symm
  refine ⟨by kernel_rfl, fun j t ht => ?_⟩
  rw [Tryd.params5] at ht
  have hm : t = 9 ∨ t = 22 ∨ t = 3 := by simpa using Array.mem_of_getElem? ht
  rcases hm with rfl | rfl | rfl
  · exact (show Tryd.prog.wantsStandIn 9 = false by kernel_rfl)
  · exact (show Tryd.prog.wantsStandIn 22 = false by kernel_rfl)
  · exact (show Tryd.prog.wantsStandIn 3 = false by kernel_rfl)

theorem card : Rows.PathBackUptoCardSaid :=
  Claim7.holds_tied_plain_at .later [] _ _ _ _ said (fun _ h => by cases h) (by kernel_rfl) (fun _ h => by cases h) pathBackUpto_row_tie rfl ⟨rfl, rfl⟩ (by kernel_rfl) rfl plain (by kernel_rfl)
end Go.Proofs.YtmlgggnjghkojaaDoor.pathBack
