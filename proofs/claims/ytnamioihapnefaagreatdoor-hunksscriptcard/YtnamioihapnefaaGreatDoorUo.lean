/-
  The document's Sides, the document's Reverse (made by wip/genuo.py).
-/
import Derived.Test.YtnamioihapnefaaGreatDoorUn
import Derived.Test.YtnamioihapnefaaGreatDoorGrKa
import Derived.Test.YtnamioihapnefaaGreatDoorGrJ3
import Derived.Test.YtnamioihapnefaaGreatDoorMh
namespace Go.Proofs.YtnamioihapnefaaGreatDoor
open Go.RowKit
open Hu (Rw Hk)

theorem olds_more {l : List Rw} {k : Nat} {x : Rw} (h : l[k]? = some x) : Hu.olds (l.take (k + 1)) = Hu.olds (l.take k) ++ if Hu.isO x then [x.t] else [] := by
  rw [List.take_add_one, h, Hu.olds_app]
  cases hx : Hu.isO x <;> simp [Hu.olds, hx]
theorem fres_more {l : List Rw} {k : Nat} {x : Rw} (h : l[k]? = some x) : Hu.fres (l.take (k + 1)) = Hu.fres (l.take k) ++ if Hu.isF x then [x.t] else [] := by
  rw [List.take_add_one, h, Hu.fres_app]
  cases hx : Hu.isF x <;> simp [Hu.fres, hx]
set_option maxHeartbeats 4000000 in
set_option maxRecDepth 100000 in
theorem rSides_any {w : World} {h : Hk} {v : Value} (hv : RdW w v h.rows) (hl : h.rows.length < 5864062014800) :
    Calls Tryz.prog 26 #[HkV h v] w fun e w' => ∃ v1 v2, e = .returned (.tuple #[v1, v2]) ∧ Two2 w' w.heap.size v1 v2 (Hu.olds h.rows) (Hu.fres h.rows) ∧ Below w.heap.size w w' := by
  obtain ⟨av, cv, rfl⟩ := hv.shape
  have HV := hid hv
  obtain ⟨ha, hn', hb', hm', hh, l⟩ := h
  dsimp only at HV hl ⊢
  unfold HkV
  dsimp only
  obtain ⟨n, hn⟩ : ∃ n, n = l.length := ⟨_, rfl⟩
  have HN := hid hn
  rw [← hn] at HV hl ⊢
  clear hv hn
  have hb0 := (Below.refl w.heap.size w).alloc (Nat.le_refl _) (.cells #[.int .i64 ha, .int .i64 hn', .int .i64 hb', .int .i64 hm', .string hh, .slice av n cv] 29)
  have hk0 := heap_alloc_new w (.cells #[.int .i64 ha, .int .i64 hn', .int .i64 hb', .int .i64 hm', .string hh, .slice av n cv] 29)
  go_enter Tryz.func26, Tryz.ntmps26
  go_wp2_with fail
  obtain ⟨H, hH⟩ : ∃ H, H = w.heap.size := ⟨_, rfl⟩
  have HH := hid hH
  rw [← hH] at hk0 ⊢
  generalize w.alloc (.cells #[.int .i64 ha, .int .i64 hn', .int .i64 hb', .int .i64 hm', .string hh, .slice av n cv] 29) = w0 at hb0 hk0 ⊢
  have HB0 := hid hb0
  have HK0 := hid hk0
  clear hb0 hk0 hH
  go_loopw [4, 5, 6] (fun vo vf ii wr => ∃ (k : Nat) (O F : List ByteArray), k ≤ n ∧ ii = .int .i64 k ∧ Hid (O = Hu.olds (l.take k)) ∧ Hid (F = Hu.fres (l.take k)) ∧ Hid (Two2 wr w.heap.size vo vf O F) ∧ Hid (wr.heap[H]? = some (.cells #[.int .i64 ha, .int .i64 hn', .int .i64 hb', .int .i64 hm', .string hh, .slice av n cv] 29)) ∧ Hid (Below w.heap.size w wr)) (fun _ _ ii _ => n - (intOf ii).toNat)
  case atStart => exact ⟨0, [], [], Nat.zero_le _, rfl, hid rfl, hid rfl, hid ⟨World.ownsRow_nil _ _ _ _, World.ownsRow_nil _ _ _ _, fun k h => by cases h⟩, HK0, HB0⟩
  case round =>
    obtain ⟨k, O, F, hk, rfl, HOE, HFE, HT, HK, HB⟩ := hrel
    obtain ⟨ao, co, rfl⟩ := own_shape HT.out.1
    obtain ⟨af, cf, rfl⟩ := own_shape HT.out.2.1
    have c5 : wr.cell? ⟨H, 5, none⟩ = some (.slice av n cv) := cell_of_blk HK.out 5
    by_cases hlt : k < n
    · obtain ⟨x, hx⟩ : ∃ x, l[k]? = some x := ⟨_, List.getElem?_eq_getElem (by have := HN.out; omega)⟩
      obtain ⟨b1, o1, e1, hb1, d0, d1⟩ := rdW_at HV.out hx
      subst e1
      have HCE := hid (fun w1 (h : Below w.heap.size w w1) => And.intro ((h.cell (p := ⟨b1, _, none⟩) hb1).trans d0) ((h.cell (p := ⟨b1, _, none⟩) hb1).trans d1))
      have HOM := hid (olds_more hx)
      have HFM := hid (fres_more hx)
      have HC1 := hid (fun w1 => rOld_any x w1)
      have HC2 := hid (fun w1 => rFresh_any x w1)
      have i1 : (0 : Int) ≤ (k : Int) := by omega
      have i2 : (k : Int) < (n : Int) := by omega
      have hOl : O.length < 8796093022200 := by have h1 : O.length ≤ n := (by rw [HOE.out]; exact Nat.le_trans (Hu.olds_len _) (by rw [List.length_take]; omega)); omega
      have hFl : F.length < 8796093022200 := by have h1 : F.length ≤ n := (by rw [HFE.out]; exact Nat.le_trans (Hu.fres_len _) (by rw [List.length_take]; omega)); omega
      unfold RwV at HC1 HC2
      obtain ⟨xk, xt⟩ := x
      dsimp only at HC1 HC2 HCE HOM HFM
      clear hx hb1 d0 d1
      obtain ⟨d0, d1⟩ := HCE.out _ HB.out
      cases hqo : Hu.isO ⟨xk, xt⟩ with
      | true =>
        rw [hqo] at HC1 HOM
        obtain ⟨O1, hO1⟩ : ∃ O1, O1 = O ++ [xt] := ⟨_, rfl⟩
        have HO1 : Hid (O1 = O ++ [xt]) := hid (by rw [hO1])
        have HOX : Hid (O1 = Hu.olds (l.take (k + 1))) := hid (by rw [HOM.out, hO1, HOE.out]; rfl)
        clear hO1
        cases hqf : Hu.isF ⟨xk, xt⟩ with
        | true =>
          rw [hqf] at HC2 HFM
          obtain ⟨F1, hF1⟩ : ∃ F1, F1 = F ++ [xt] := ⟨_, rfl⟩
          have HF1 : Hid (F1 = F ++ [xt]) := hid (by rw [hF1])
          have HFX : Hid (F1 = Hu.fres (l.take (k + 1))) := hid (by rw [HFM.out, hF1, HFE.out]; rfl)
          clear hF1 hqo hqf
          go_wp2_with fail
          refine (HC1.out _).mono ?_
          rintro e w2 ⟨rfl, hb2⟩
          have HT2 : Hid (Two2 w2 w.heap.size (.slice ao O.length co) (.slice af F.length cf) O F) := hid ⟨own_stays HT.out.1 hb2, own_stays HT.out.2.1 hb2, HT.out.2.2⟩
          have HK2 := hid ((hb2.block H (lt_of_heap HK.out)).trans HK.out)
          have HB2 := hid (HB.out.trans (hb2.mono HB.out.size))
          clear hb2 c5 d0 d1
          have c5 : w2.cell? ⟨H, 5, none⟩ = some (.slice (some ⟨b1, o1, none⟩) n cv) := cell_of_blk HK2.out 5
          obtain ⟨d0, d1⟩ := HCE.out _ HB2.out
          have hbn := (Below.refl w2.heap.size w2).alloc (Nat.le_refl _) (.cells #[.string xt] 9)
          have HO3 := hid (own_stays HT2.out.1 hbn)
          have HF3 := hid (own_stays HT2.out.2.1 hbn)
          have HK3 := hid ((hbn.block H (lt_of_heap HK2.out)).trans HK2.out)
          have HB3 := hid (HB2.out.trans (hbn.mono HB2.out.size))
          have HHT : Hid ((Value.slice ao O.length co).ownBlock ≠ some H) := hid (own_ne HT2.out.1 HK2.out (by decide))
          clear hbn
          go_wp2_with (at_builtin; refine wpList_append_st rfl _ _ rfl w.heap.size _ O rfl HO3.out w2.heap.size xt rfl (heap_alloc_new w2 _) hOl HB3.out.size ?_; intro v4 w4 hO4 hg4 hl4 hb4; rw [← HO1.out] at hO4; obtain ⟨a4, c4, e4⟩ := own_shape hO4; subst e4; have HT4 : Hid (Two2 w4 w.heap.size (.slice a4 O1.length c4) (.slice af F.length cf) O1 F) := hid ⟨hO4, kept_row HF3.out hg4 HT2.out.2.2, apart_new HF3.out HT2.out.2.2 hl4⟩; have HK4 := hid ((hg4.block H (lt_of_heap HK3.out) (fun e => HHT.out e.symm)).trans HK3.out); have HB4 := hid (HB3.out.trans hb4); clear hO4 hg4 hl4 hb4 c5 d0 d1; have c5 : w4.cell? ⟨H, 5, none⟩ = some (.slice (some ⟨b1, o1, none⟩) n cv) := cell_of_blk HK4.out 5; obtain ⟨d0, d1⟩ := HCE.out _ HB4.out)
          refine (HC2.out _).mono ?_
          rintro e w5 ⟨rfl, hb5⟩
          have HT5 : Hid (Two2 w5 w.heap.size (.slice a4 O1.length c4) (.slice af F.length cf) O1 F) := hid ⟨own_stays HT4.out.1 hb5, own_stays HT4.out.2.1 hb5, HT4.out.2.2⟩
          have HK5 := hid ((hb5.block H (lt_of_heap HK4.out)).trans HK4.out)
          have HB5 := hid (HB4.out.trans (hb5.mono HB4.out.size))
          clear hb5 c5 d0 d1
          have c5 : w5.cell? ⟨H, 5, none⟩ = some (.slice (some ⟨b1, o1, none⟩) n cv) := cell_of_blk HK5.out 5
          obtain ⟨d0, d1⟩ := HCE.out _ HB5.out
          have hbn := (Below.refl w5.heap.size w5).alloc (Nat.le_refl _) (.cells #[.string xt] 9)
          have HO6 := hid (own_stays HT5.out.1 hbn)
          have HF6 := hid (own_stays HT5.out.2.1 hbn)
          have HK6 := hid ((hbn.block H (lt_of_heap HK5.out)).trans HK5.out)
          have HB6 := hid (HB5.out.trans (hbn.mono HB5.out.size))
          have HHF : Hid ((Value.slice af F.length cf).ownBlock ≠ some H) := hid (own_ne HT5.out.2.1 HK5.out (by decide))
          clear hbn
          go_wp2_with (at_builtin; refine wpList_append_st rfl _ _ rfl w.heap.size _ F rfl HF6.out w5.heap.size xt rfl (heap_alloc_new w5 _) hFl HB6.out.size ?_; intro v7 w7 hO7 hg7 hl7 hb7; rw [← HF1.out] at hO7; have HT7 : Hid (Two2 w7 w.heap.size (.slice a4 O1.length c4) v7 O1 F1) := hid ⟨kept_row HO6.out hg7 HT5.out.2.2.symm, hO7, (apart_new HO6.out HT5.out.2.2.symm hl7).symm⟩; have HK7 := hid ((hg7.block H (lt_of_heap HK6.out) (fun e => HHF.out e.symm)).trans HK6.out); have HB7 := hid (HB6.out.trans hb7); clear hO7 hg7 hl7 hb7)
          go_roundw
          case rel => exact ⟨k + 1, O1, F1, by omega, by go_num, HOX, HFX, HT7, HK7, HB7⟩
          case measure => simp [intOf]; omega
        | false =>
          rw [hqf] at HC2 HFM
          obtain ⟨F1, hF1⟩ : ∃ F1, F1 = F ++ [] := ⟨_, rfl⟩
          have HF1 : Hid (F1 = F) := hid (by rw [hF1]; simp)
          have HFX : Hid (F1 = Hu.fres (l.take (k + 1))) := hid (by rw [HFM.out, hF1, HFE.out]; rfl)
          clear hF1 hqo hqf
          go_wp2_with fail
          refine (HC1.out _).mono ?_
          rintro e w2 ⟨rfl, hb2⟩
          have HT2 : Hid (Two2 w2 w.heap.size (.slice ao O.length co) (.slice af F.length cf) O F) := hid ⟨own_stays HT.out.1 hb2, own_stays HT.out.2.1 hb2, HT.out.2.2⟩
          have HK2 := hid ((hb2.block H (lt_of_heap HK.out)).trans HK.out)
          have HB2 := hid (HB.out.trans (hb2.mono HB.out.size))
          clear hb2 c5 d0 d1
          have c5 : w2.cell? ⟨H, 5, none⟩ = some (.slice (some ⟨b1, o1, none⟩) n cv) := cell_of_blk HK2.out 5
          obtain ⟨d0, d1⟩ := HCE.out _ HB2.out
          have hbn := (Below.refl w2.heap.size w2).alloc (Nat.le_refl _) (.cells #[.string xt] 9)
          have HO3 := hid (own_stays HT2.out.1 hbn)
          have HF3 := hid (own_stays HT2.out.2.1 hbn)
          have HK3 := hid ((hbn.block H (lt_of_heap HK2.out)).trans HK2.out)
          have HB3 := hid (HB2.out.trans (hbn.mono HB2.out.size))
          have HHT : Hid ((Value.slice ao O.length co).ownBlock ≠ some H) := hid (own_ne HT2.out.1 HK2.out (by decide))
          clear hbn
          go_wp2_with (at_builtin; refine wpList_append_st rfl _ _ rfl w.heap.size _ O rfl HO3.out w2.heap.size xt rfl (heap_alloc_new w2 _) hOl HB3.out.size ?_; intro v4 w4 hO4 hg4 hl4 hb4; rw [← HO1.out] at hO4; obtain ⟨a4, c4, e4⟩ := own_shape hO4; subst e4; have HT4 : Hid (Two2 w4 w.heap.size (.slice a4 O1.length c4) (.slice af F.length cf) O1 F) := hid ⟨hO4, kept_row HF3.out hg4 HT2.out.2.2, apart_new HF3.out HT2.out.2.2 hl4⟩; have HK4 := hid ((hg4.block H (lt_of_heap HK3.out) (fun e => HHT.out e.symm)).trans HK3.out); have HB4 := hid (HB3.out.trans hb4); clear hO4 hg4 hl4 hb4 c5 d0 d1; have c5 : w4.cell? ⟨H, 5, none⟩ = some (.slice (some ⟨b1, o1, none⟩) n cv) := cell_of_blk HK4.out 5; obtain ⟨d0, d1⟩ := HCE.out _ HB4.out)
          refine (HC2.out _).mono ?_
          rintro e w5 ⟨rfl, hb5⟩
          have HT5 : Hid (Two2 w5 w.heap.size (.slice a4 O1.length c4) (.slice af F.length cf) O1 F) := hid ⟨own_stays HT4.out.1 hb5, own_stays HT4.out.2.1 hb5, HT4.out.2.2⟩
          have HK5 := hid ((hb5.block H (lt_of_heap HK4.out)).trans HK4.out)
          have HB5 := hid (HB4.out.trans (hb5.mono HB4.out.size))
          clear hb5 c5 d0 d1
          have c5 : w5.cell? ⟨H, 5, none⟩ = some (.slice (some ⟨b1, o1, none⟩) n cv) := cell_of_blk HK5.out 5
          obtain ⟨d0, d1⟩ := HCE.out _ HB5.out
          go_wp2_with fail
          go_roundw
          case rel => exact ⟨k + 1, O1, F1, by omega, by go_num, HOX, HFX, hid (by rw [HF1.out]; exact HT5.out), HK5, HB5⟩
          case measure => simp [intOf]; omega
      | false =>
        rw [hqo] at HC1 HOM
        obtain ⟨O1, hO1⟩ : ∃ O1, O1 = O ++ [] := ⟨_, rfl⟩
        have HO1 : Hid (O1 = O) := hid (by rw [hO1]; simp)
        have HOX : Hid (O1 = Hu.olds (l.take (k + 1))) := hid (by rw [HOM.out, hO1, HOE.out]; rfl)
        clear hO1
        cases hqf : Hu.isF ⟨xk, xt⟩ with
        | true =>
          rw [hqf] at HC2 HFM
          obtain ⟨F1, hF1⟩ : ∃ F1, F1 = F ++ [xt] := ⟨_, rfl⟩
          have HF1 : Hid (F1 = F ++ [xt]) := hid (by rw [hF1])
          have HFX : Hid (F1 = Hu.fres (l.take (k + 1))) := hid (by rw [HFM.out, hF1, HFE.out]; rfl)
          clear hF1 hqo hqf
          go_wp2_with fail
          refine (HC1.out _).mono ?_
          rintro e w2 ⟨rfl, hb2⟩
          have HT2 : Hid (Two2 w2 w.heap.size (.slice ao O.length co) (.slice af F.length cf) O F) := hid ⟨own_stays HT.out.1 hb2, own_stays HT.out.2.1 hb2, HT.out.2.2⟩
          have HK2 := hid ((hb2.block H (lt_of_heap HK.out)).trans HK.out)
          have HB2 := hid (HB.out.trans (hb2.mono HB.out.size))
          clear hb2 c5 d0 d1
          have c5 : w2.cell? ⟨H, 5, none⟩ = some (.slice (some ⟨b1, o1, none⟩) n cv) := cell_of_blk HK2.out 5
          obtain ⟨d0, d1⟩ := HCE.out _ HB2.out
          have HT4 : Hid (Two2 w2 w.heap.size (.slice ao O1.length co) (.slice af F.length cf) O1 F) := hid (by rw [HO1.out]; exact HT2.out)
          have hO1l : O1.length = O.length := by rw [HO1.out]
          obtain ⟨w4, hw4⟩ : ∃ w4, w4 = w2 := ⟨_, rfl⟩
          have HK4 := HK2
          have HB4 := HB2
          rw [← hw4] at HT4 HK4 HB4 c5 d0 d1 ⊢
          rw [← hO1l]
          clear hw4 hO1l
          go_wp2_with fail
          refine (HC2.out _).mono ?_
          rintro e w5 ⟨rfl, hb5⟩
          have HT5 : Hid (Two2 w5 w.heap.size (.slice ao O1.length co) (.slice af F.length cf) O1 F) := hid ⟨own_stays HT4.out.1 hb5, own_stays HT4.out.2.1 hb5, HT4.out.2.2⟩
          have HK5 := hid ((hb5.block H (lt_of_heap HK4.out)).trans HK4.out)
          have HB5 := hid (HB4.out.trans (hb5.mono HB4.out.size))
          clear hb5 c5 d0 d1
          have c5 : w5.cell? ⟨H, 5, none⟩ = some (.slice (some ⟨b1, o1, none⟩) n cv) := cell_of_blk HK5.out 5
          obtain ⟨d0, d1⟩ := HCE.out _ HB5.out
          have hbn := (Below.refl w5.heap.size w5).alloc (Nat.le_refl _) (.cells #[.string xt] 9)
          have HO6 := hid (own_stays HT5.out.1 hbn)
          have HF6 := hid (own_stays HT5.out.2.1 hbn)
          have HK6 := hid ((hbn.block H (lt_of_heap HK5.out)).trans HK5.out)
          have HB6 := hid (HB5.out.trans (hbn.mono HB5.out.size))
          have HHF : Hid ((Value.slice af F.length cf).ownBlock ≠ some H) := hid (own_ne HT5.out.2.1 HK5.out (by decide))
          clear hbn
          go_wp2_with (at_builtin; refine wpList_append_st rfl _ _ rfl w.heap.size _ F rfl HF6.out w5.heap.size xt rfl (heap_alloc_new w5 _) hFl HB6.out.size ?_; intro v7 w7 hO7 hg7 hl7 hb7; rw [← HF1.out] at hO7; have HT7 : Hid (Two2 w7 w.heap.size (.slice ao O1.length co) v7 O1 F1) := hid ⟨kept_row HO6.out hg7 HT5.out.2.2.symm, hO7, (apart_new HO6.out HT5.out.2.2.symm hl7).symm⟩; have HK7 := hid ((hg7.block H (lt_of_heap HK6.out) (fun e => HHF.out e.symm)).trans HK6.out); have HB7 := hid (HB6.out.trans hb7); clear hO7 hg7 hl7 hb7)
          go_roundw
          case rel => exact ⟨k + 1, O1, F1, by omega, by go_num, HOX, HFX, HT7, HK7, HB7⟩
          case measure => simp [intOf]; omega
        | false =>
          rw [hqf] at HC2 HFM
          obtain ⟨F1, hF1⟩ : ∃ F1, F1 = F ++ [] := ⟨_, rfl⟩
          have HF1 : Hid (F1 = F) := hid (by rw [hF1]; simp)
          have HFX : Hid (F1 = Hu.fres (l.take (k + 1))) := hid (by rw [HFM.out, hF1, HFE.out]; rfl)
          clear hF1 hqo hqf
          go_wp2_with fail
          refine (HC1.out _).mono ?_
          rintro e w2 ⟨rfl, hb2⟩
          have HT2 : Hid (Two2 w2 w.heap.size (.slice ao O.length co) (.slice af F.length cf) O F) := hid ⟨own_stays HT.out.1 hb2, own_stays HT.out.2.1 hb2, HT.out.2.2⟩
          have HK2 := hid ((hb2.block H (lt_of_heap HK.out)).trans HK.out)
          have HB2 := hid (HB.out.trans (hb2.mono HB.out.size))
          clear hb2 c5 d0 d1
          have c5 : w2.cell? ⟨H, 5, none⟩ = some (.slice (some ⟨b1, o1, none⟩) n cv) := cell_of_blk HK2.out 5
          obtain ⟨d0, d1⟩ := HCE.out _ HB2.out
          have HT4 : Hid (Two2 w2 w.heap.size (.slice ao O1.length co) (.slice af F.length cf) O1 F) := hid (by rw [HO1.out]; exact HT2.out)
          have hO1l : O1.length = O.length := by rw [HO1.out]
          obtain ⟨w4, hw4⟩ : ∃ w4, w4 = w2 := ⟨_, rfl⟩
          have HK4 := HK2
          have HB4 := HB2
          rw [← hw4] at HT4 HK4 HB4 c5 d0 d1 ⊢
          rw [← hO1l]
          clear hw4 hO1l
          go_wp2_with fail
          refine (HC2.out _).mono ?_
          rintro e w5 ⟨rfl, hb5⟩
          have HT5 : Hid (Two2 w5 w.heap.size (.slice ao O1.length co) (.slice af F.length cf) O1 F) := hid ⟨own_stays HT4.out.1 hb5, own_stays HT4.out.2.1 hb5, HT4.out.2.2⟩
          have HK5 := hid ((hb5.block H (lt_of_heap HK4.out)).trans HK4.out)
          have HB5 := hid (HB4.out.trans (hb5.mono HB4.out.size))
          clear hb5 c5 d0 d1
          have c5 : w5.cell? ⟨H, 5, none⟩ = some (.slice (some ⟨b1, o1, none⟩) n cv) := cell_of_blk HK5.out 5
          obtain ⟨d0, d1⟩ := HCE.out _ HB5.out
          go_wp2_with fail
          go_roundw
          case rel => exact ⟨k + 1, O1, F1, by omega, by go_num, HOX, HFX, hid (by rw [HF1.out]; exact HT5.out), HK5, HB5⟩
          case measure => simp [intOf]; omega
    · obtain rfl : k = n := by omega
      have HE1 : Hid (O = Hu.olds l) := hid (by rw [HOE.out, List.take_of_length_le (by have := HN.out; omega)])
      have HE2 : Hid (F = Hu.fres l) := hid (by rw [HFE.out, List.take_of_length_le (by have := HN.out; omega)])
      go_wp2_with fail
      go_ret2
      exact ⟨_, _, rfl, by rw [← HE1.out, ← HE2.out]; exact HT.out, HB.out⟩
set_option maxHeartbeats 4000000 in
set_option maxRecDepth 100000 in
theorem rReverse_any {w : World} {h : Hk} {v : Value} (hv : RdW w v h.rows) (hl : h.rows.length < 5864062014800) :
    Calls Tryz.prog 29 #[HkV h v] w fun e w' => ∃ v', e = .returned (HkV (Hu.revH h) v') ∧ OwnW w' w.heap.size v' (Hu.revH h).rows ∧ Below w.heap.size w w' := by
  obtain ⟨av, cv, rfl⟩ := hv.shape
  have HV := hid hv
  obtain ⟨xa, xn, xb, xm, xh, xr⟩ := h
  dsimp only at HV hl ⊢
  unfold HkV Hu.revH
  dsimp only
  obtain ⟨n, hn⟩ : ∃ n, n = xr.length := ⟨_, rfl⟩
  have HN := hid hn
  rw [← hn] at HV hl ⊢
  obtain ⟨t1, t2, t3, t4⟩ := two' w (.cells #[.int .i64 xa, .int .i64 xn, .int .i64 xb, .int .i64 xm, .string xh, .slice av n cv] 29) (.cells #[.int .i64 0, .int .i64 0, .int .i64 0, .int .i64 0, .string ⟨#[]⟩, .slice none 0 0] 29)
  clear hv hn
  go_enter Tryz.func29, Tryz.ntmps29
  go_wp2_with fail
  obtain ⟨H, hH⟩ : ∃ H, H = w.heap.size := ⟨_, rfl⟩
  have HH := hid hH
  rw [← hH] at t2 t3 t4 ⊢
  generalize (w.alloc (.cells #[.int .i64 xa, .int .i64 xn, .int .i64 xb, .int .i64 xm, .string xh, .slice av n cv] 29)).alloc (.cells #[.int .i64 0, .int .i64 0, .int .i64 0, .int .i64 0, .string ⟨#[]⟩, .slice none 0 0] 29) = w1 at t1 t2 t3 t4 ⊢
  have HB1 := hid t1
  have HK1 := hid t2
  have HZ1 := hid t3
  clear t1 t2 t3 t4 hH
  go_loopw [3, 4] (fun vo ii wr => ∃ (k : Nat) (X : List Rw), k ≤ n ∧ ii = .int .i64 k ∧ Hid (X = (xr.take k).map Hu.flp) ∧ Hid (X.length = k) ∧ Hid (OwnW wr w1.heap.size vo X) ∧ Hid (Below w1.heap.size w1 wr)) (fun _ ii _ => n - (intOf ii).toNat)
  case atStart => exact ⟨0, [], Nat.zero_le _, rfl, hid rfl, hid rfl, hid (World.ownsRow_nil _ _ _ _), Below.refl _ _⟩
  case round =>
    obtain ⟨k, X, hk, rfl, HX, HXL, HO, HB⟩ := hrel
    obtain ⟨ao, co, eo⟩ := own_shape HO.out
    subst eo
    have HBW := hid (HB1.out.trans (HB.out.mono HB1.out.size))
    have HK := hid ((HB.out.block H (lt_of_heap HK1.out)).trans HK1.out)
    have HZ := hid ((HB.out.block (H + 1) (lt_of_heap HZ1.out)).trans HZ1.out)
    have c5 : wr.cell? ⟨H, 5, none⟩ = some (.slice av n cv) := cell_of_blk HK.out 5
    by_cases hlt : k < n
    · obtain ⟨x, hx⟩ : ∃ x, xr[k]? = some x := ⟨_, List.getElem?_eq_getElem (by have := HN.out; omega)⟩
      obtain ⟨b1, o1, e1, hb1, d0, d1⟩ := rdW_at (HV.out.below HBW.out) hx
      subst e1
      have HX2 : Hid (X ++ [Hu.flp x] = (xr.take (k + 1)).map Hu.flp) := hid (by rw [List.take_add_one, hx, List.map_append, HX.out]; rfl)
      have i1 : (0 : Int) ≤ (k : Int) := by omega
      have i2 : (k : Int) < (n : Int) := by omega
      have hXl : X.length < 5864062014800 := by have := HXL.out; omega
      have hws : w1.heap.size ≤ wr.heap.size := HB.out.size
      clear hx hb1
      by_cases h2 : x.k = 2
      · have z1 : (x.k == 2) = true := by rw [h2]; rfl
        have HFL : Hid (Hu.flp x = ⟨3, x.t⟩) := hid (by unfold Hu.flp; rw [if_pos h2])
        obtain ⟨p1, p2, p3, p4⟩ := two' wr (.cells #[.int .i64 3, .string x.t] 63) (.cells #[.int .i64 3, .string x.t] 63)
        have HO2 := hid (own_stays HO.out p1)
        have HB2 := hid (HB.out.trans (p1.mono HB.out.size))
        have HG2 := hid p3
        clear h2 p1 p2 p3 p4
        go_wp2_with (at_builtin; refine wpList_append_row rfl _ _ rfl w1.heap.size _ X rfl HO2.out (wr.heap.size + 1) 3 x.t rfl HG2.out hXl HB2.out.size ?_; intro v8 w8 hO8 hg8 hl8 hb8; have HO8 : Hid (OwnW w8 w1.heap.size v8 (X ++ [Hu.flp x])) := hid (by rw [HFL.out]; exact hO8); have HB8 := hid (HB2.out.trans hb8); clear hO8 hg8 hl8 hb8)
        go_roundw
        case rel => exact ⟨k + 1, X ++ [Hu.flp x], by omega, by go_num, HX2, hid (by rw [List.length_append, List.length_singleton, HXL.out]), HO8, HB8⟩
        case measure => simp [intOf]; omega
      · have z1 : (x.k == 2) = false := by simp [h2]
        by_cases h3 : x.k = 3
        · have z2 : (x.k == 3) = true := by rw [h3]; rfl
          have HFL : Hid (Hu.flp x = ⟨2, x.t⟩) := hid (by unfold Hu.flp; rw [if_neg h2, if_pos h3])
          obtain ⟨p1, p2, p3, p4⟩ := two' wr (.cells #[.int .i64 2, .string x.t] 63) (.cells #[.int .i64 2, .string x.t] 63)
          have HO2 := hid (own_stays HO.out p1)
          have HB2 := hid (HB.out.trans (p1.mono HB.out.size))
          have HG2 := hid p3
          clear h2 h3 p1 p2 p3 p4
          go_wp2_with (at_builtin; refine wpList_append_row rfl _ _ rfl w1.heap.size _ X rfl HO2.out (wr.heap.size + 1) 2 x.t rfl HG2.out hXl HB2.out.size ?_; intro v8 w8 hO8 hg8 hl8 hb8; have HO8 : Hid (OwnW w8 w1.heap.size v8 (X ++ [Hu.flp x])) := hid (by rw [HFL.out]; exact hO8); have HB8 := hid (HB2.out.trans hb8); clear hO8 hg8 hl8 hb8)
          go_roundw
          case rel => exact ⟨k + 1, X ++ [Hu.flp x], by omega, by go_num, HX2, hid (by rw [List.length_append, List.length_singleton, HXL.out]), HO8, HB8⟩
          case measure => simp [intOf]; omega
        · have z2 : (x.k == 3) = false := by simp [h3]
          have HFL : Hid (Hu.flp x = x) := hid (by unfold Hu.flp; rw [if_neg h2, if_neg h3])
          obtain ⟨p1, p2, p3, p4⟩ := two' wr (.cells #[.int .i64 x.k, .string x.t] 63) (.cells #[.int .i64 x.k, .string x.t] 63)
          have HO2 := hid (own_stays HO.out p1)
          have HB2 := hid (HB.out.trans (p1.mono HB.out.size))
          have HG2 := hid p3
          clear h2 h3 p1 p2 p3 p4
          go_wp2_with (at_builtin; refine wpList_append_row rfl _ _ rfl w1.heap.size _ X rfl HO2.out (wr.heap.size + 1) x.k x.t rfl HG2.out hXl HB2.out.size ?_; intro v8 w8 hO8 hg8 hl8 hb8; have HO8 : Hid (OwnW w8 w1.heap.size v8 (X ++ [Hu.flp x])) := hid (by rw [HFL.out]; exact hO8); have HB8 := hid (HB2.out.trans hb8); clear hO8 hg8 hl8 hb8)
          go_roundw
          case rel => exact ⟨k + 1, X ++ [Hu.flp x], by omega, by go_num, HX2, hid (by rw [List.length_append, List.length_singleton, HXL.out]), HO8, HB8⟩
          case measure => simp [intOf]; omega
    · obtain rfl : k = n := by omega
      have HXE : Hid (X = xr.map Hu.flp) := hid (by rw [HX.out, List.take_of_length_le (by have := HN.out; omega)])
      have HSO := hid (fun w2 (hb : Below wr.heap.size wr w2) => rSorted_any (own_rd (own_stays HO.out hb)) (by rw [HXE.out, flp_len]; have := HN.out; omega))
      rw [HXE.out] at HSO
      obtain ⟨L, hL⟩ : ∃ L, L = Hu.srtD (xr.map Hu.flp) [] := ⟨_, rfl⟩
      rw [← hL] at HSO
      have HL := hid hL
      obtain ⟨XN, hXN⟩ : ∃ XN, XN = (xr.map Hu.flp).length := ⟨_, rfl⟩
      have hXX : X.length = XN := by rw [HXE.out, hXN]
      rw [← hXN] at HSO
      rw [hXX]
      have q0 : wr.cell? ⟨H, 0, none⟩ = some (.int .i64 xa) := cell_of_blk HK.out 0
      have q1 : wr.cell? ⟨H, 1, none⟩ = some (.int .i64 xn) := cell_of_blk HK.out 1
      have q2 : wr.cell? ⟨H, 2, none⟩ = some (.int .i64 xb) := cell_of_blk HK.out 2
      have q3 : wr.cell? ⟨H, 3, none⟩ = some (.int .i64 xm) := cell_of_blk HK.out 3
      have q4 : wr.cell? ⟨H, 4, none⟩ = some (.string xh) := cell_of_blk HK.out 4
      have HBD := hid (below_drew (Below.refl wr.heap.size wr))
      have hHw : w.heap.size ≤ H + 1 := by have := HH.out; omega
      clear hL hXN hXX
      have nHR : H ≠ H + 1 := by omega
      go_wp2_with fail
      refine wp_region_noPanic ?_
      refine wp_region_held_drew (S := fun w' => w'.cell? ⟨H, 0, none⟩ = some (.int .i64 xa) ∧ w'.cell? ⟨H, 1, none⟩ = some (.int .i64 xn) ∧ w'.cell? ⟨H, 2, none⟩ = some (.int .i64 xb) ∧ w'.cell? ⟨H, 3, none⟩ = some (.int .i64 xm) ∧ w'.cell? ⟨H, 4, none⟩ = some (.string xh)) (by kernel_rfl) ?Sb (fun hHeld => ?Mb)
      case Sb => exact ⟨(HBD.out.cell (p := ⟨H, 0, none⟩) (lt_of_heap HK.out)).trans q0, (HBD.out.cell (p := ⟨H, 1, none⟩) (lt_of_heap HK.out)).trans q1, (HBD.out.cell (p := ⟨H, 2, none⟩) (lt_of_heap HK.out)).trans q2, (HBD.out.cell (p := ⟨H, 3, none⟩) (lt_of_heap HK.out)).trans q3, (HBD.out.cell (p := ⟨H, 4, none⟩) (lt_of_heap HK.out)).trans q4⟩
      refine wpAnyH_take (i := 0) (v := ?vb0) rfl (by kernel_rfl) (by kernel_rfl) (by kernel_rfl) (fun _ _ _ h => h) (Or.inl ⟨by rfl, fun ww hSw => ?yb0⟩) hHeld ?rb0
      case yb0 => (dsimp only at hSw; go_simp; all_goals with_reducible rfl)
      try simp only [Act.put]
      try simp only [List.setIfInBounds_toArray]
      try simp only [List.set]
      refine wpAnyH_take (i := 1) (v := ?vb1) rfl (by kernel_rfl) (by kernel_rfl) (by kernel_rfl) (fun _ _ _ h => h) (Or.inl ⟨by rfl, fun ww hSw => ?yb1⟩) hHeld ?rb1
      case yb1 => (dsimp only at hSw; go_simp; all_goals with_reducible rfl)
      try simp only [Act.put]
      try simp only [List.setIfInBounds_toArray]
      try simp only [List.set]
      refine wpAnyH_take (i := 2) (v := ?vb2) rfl (by kernel_rfl) (by kernel_rfl) (by kernel_rfl) (fun _ _ _ h => h) (Or.inl ⟨by rfl, fun ww hSw => ?yb2⟩) hHeld ?rb2
      case yb2 => (dsimp only at hSw; go_simp; all_goals with_reducible rfl)
      try simp only [Act.put]
      try simp only [List.setIfInBounds_toArray]
      try simp only [List.set]
      refine wpAnyH_take (i := 3) (v := ?vb3) rfl (by kernel_rfl) (by kernel_rfl) (by kernel_rfl) (fun _ _ _ h => h) (Or.inl ⟨by rfl, fun ww hSw => ?yb3⟩) hHeld ?rb3
      case yb3 => (dsimp only at hSw; go_simp; all_goals with_reducible rfl)
      try simp only [Act.put]
      try simp only [List.setIfInBounds_toArray]
      try simp only [List.set]
      refine wpAnyH_take (i := 4) (v := ?vb4) rfl (by kernel_rfl) (by kernel_rfl) (by kernel_rfl) (fun _ _ _ h => h) (Or.inl ⟨by rfl, fun ww hSw => ?yb4⟩) hHeld ?rb4
      case yb4 => (dsimp only at hSw; go_simp; all_goals with_reducible rfl)
      try simp only [Act.put]
      try simp only [List.setIfInBounds_toArray]
      try simp only [List.set]
      refine wpAnyH_take (i := 5) (v := ?vb5) rfl (by kernel_rfl) (by kernel_rfl) (by kernel_rfl) (fun _ _ _ h => h) (Or.inl ⟨by rfl, fun ww hSw => ?yb5⟩) hHeld ?rb5
      case yb5 => (dsimp only at hSw; go_simp; all_goals with_reducible rfl)
      try simp only [Act.put]
      try simp only [List.setIfInBounds_toArray]
      try simp only [List.set]
      refine wpAnyH_take (i := 6) (v := ?vb6) rfl (by kernel_rfl) (by kernel_rfl) (by kernel_rfl) (fun _ _ _ h => h) (Or.inl ⟨by rfl, fun ww hSw => ?yb6⟩) hHeld ?rb6
      case yb6 => (dsimp only at hSw; go_simp; all_goals with_reducible rfl)
      try simp only [Act.put]
      try simp only [List.setIfInBounds_toArray]
      try simp only [List.set]
      refine wpAnyH_take (i := 7) (v := ?vb7) rfl (by kernel_rfl) (by kernel_rfl) (by kernel_rfl) (fun _ _ _ h => h) (Or.inl ⟨by rfl, fun ww hSw => ?yb7⟩) hHeld ?rb7
      case yb7 => (dsimp only at hSw; go_simp; all_goals with_reducible rfl)
      try simp only [Act.put]
      try simp only [List.setIfInBounds_toArray]
      try simp only [List.set]
      refine wpAnyH_take (i := 8) (v := ?vb8) rfl (by kernel_rfl) (by kernel_rfl) (by kernel_rfl) (fun _ _ _ h => h) (Or.inl ⟨by rfl, fun ww hSw => ?yb8⟩) hHeld ?rb8
      case yb8 => (dsimp only at hSw; go_simp; all_goals with_reducible rfl)
      try simp only [Act.put]
      try simp only [List.setIfInBounds_toArray]
      try simp only [List.set]
      refine wpAnyH_take (i := 9) (v := ?vb9) rfl (by kernel_rfl) (by kernel_rfl) (by kernel_rfl) (fun _ _ _ h => h) (Or.inl ⟨by rfl, fun ww hSw => ?yb9⟩) hHeld ?rb9
      case yb9 => (dsimp only at hSw; go_simp; all_goals with_reducible rfl)
      try simp only [Act.put]
      try simp only [List.setIfInBounds_toArray]
      try simp only [List.set]
      refine wpAnyH_take (i := 10) (v := ?vb10) rfl (by kernel_rfl) (by kernel_rfl) (by kernel_rfl) (fun _ _ _ h => h) (Or.inl ⟨by rfl, fun ww hSw => ?yb10⟩) hHeld ?rb10
      case yb10 => (dsimp only at hSw; go_simp; all_goals with_reducible rfl)
      try simp only [Act.put]
      try simp only [List.setIfInBounds_toArray]
      try simp only [List.set]
      refine wpAnyH_ready (rs := [11]) (by kernel_rfl) (by simp) ?pb11
      refine AllReadyH.cons rfl (fun K hK => ?_) AllReadyH.nil
      go_simp
      refine (HSO.out _ (by with_reducible exact HBD.out)).mono ?_
      rintro e w3 ⟨v3, rfl, hO3, hb3⟩
      obtain ⟨a3, c3, e3⟩ := own_shape hO3
      subst e3
      have HBX := hid (HBD.out.trans (hb3.mono HBD.out.size))
      have HO3 := hid (own_mono hO3 (Nat.le_trans HBW.out.size HBD.out.size))
      have HB3 := hid (HBW.out.trans (HBX.out.mono HBW.out.size))
      have HK3 := hid ((HBX.out.block H (lt_of_heap HK.out)).trans HK.out)
      have HZ3 := hid ((HBX.out.block (H + 1) (lt_of_heap HZ.out)).trans HZ.out)
      obtain ⟨LN, hLN⟩ : ∃ LN, LN = L.length := ⟨_, rfl⟩
      have HLN := hid hLN
      rw [← hLN]
      clear hO3 hb3 hLN q0 q1 q2 q3 q4 c5
      have z0 : w3.cell? ⟨H + 1, 0, none⟩ = some (.int .i64 0) := cell_of_blk HZ3.out 0
      have z1 : w3.cell? ⟨H + 1, 1, none⟩ = some (.int .i64 0) := cell_of_blk HZ3.out 1
      have z2 : w3.cell? ⟨H + 1, 2, none⟩ = some (.int .i64 0) := cell_of_blk HZ3.out 2
      have z3 : w3.cell? ⟨H + 1, 3, none⟩ = some (.int .i64 0) := cell_of_blk HZ3.out 3
      have z4 : w3.cell? ⟨H + 1, 4, none⟩ = some (.string ⟨#[]⟩) := cell_of_blk HZ3.out 4
      have z5 : w3.cell? ⟨H + 1, 5, none⟩ = some (.slice none 0 0) := cell_of_blk HZ3.out 5
      have zf : ∀ j, w3.frozen? ⟨H + 1, j, none⟩ = false := fun j => frozen_of_blk HZ3.out j
      go_wp2_with fail
      refine hK.out _ _ ?Sb11 (fun hHeld => ?Mb11)
      case Sb11 => exact ⟨cell_of_blk HK3.out 0, cell_of_blk HK3.out 1, cell_of_blk HK3.out 2, cell_of_blk HK3.out 3, cell_of_blk HK3.out 4⟩
      clear hK K
      try simp only [Act.put]
      try simp only [List.setIfInBounds_toArray]
      try simp only [List.set]
      refine wpAnyH_ready (rs := [12]) (by kernel_rfl) (by simp) ?pb12
      refine AllReadyH.cons rfl (fun K hK => ?_) AllReadyH.nil
      go_simp
      refine hK.out _ _ ?Sb12 (fun hHeld => ?Mb12)
      case Sb12 => exact ⟨cell_of_blk HK3.out 0, cell_of_blk HK3.out 1, cell_of_blk HK3.out 2, cell_of_blk HK3.out 3, cell_of_blk HK3.out 4⟩
      clear hK K
      try simp only [Act.put]
      try simp only [List.setIfInBounds_toArray]
      try simp only [List.set]
      refine wpAnyH_ready (rs := [13]) (by kernel_rfl) (by simp) ?pb13
      refine AllReadyH.cons rfl (fun K hK => ?_) AllReadyH.nil
      go_simp
      refine hK.out _ _ ?Sb13 (fun hHeld => ?Mb13)
      case Sb13 => exact ⟨by rw [cell_set_far nHR, cell_set_far nHR, cell_set_far nHR, cell_set_far nHR, cell_set_far nHR, cell_set_far nHR]; exact cell_of_blk HK3.out 0, by rw [cell_set_far nHR, cell_set_far nHR, cell_set_far nHR, cell_set_far nHR, cell_set_far nHR, cell_set_far nHR]; exact cell_of_blk HK3.out 1, by rw [cell_set_far nHR, cell_set_far nHR, cell_set_far nHR, cell_set_far nHR, cell_set_far nHR, cell_set_far nHR]; exact cell_of_blk HK3.out 2, by rw [cell_set_far nHR, cell_set_far nHR, cell_set_far nHR, cell_set_far nHR, cell_set_far nHR, cell_set_far nHR]; exact cell_of_blk HK3.out 3, by rw [cell_set_far nHR, cell_set_far nHR, cell_set_far nHR, cell_set_far nHR, cell_set_far nHR, cell_set_far nHR]; exact cell_of_blk HK3.out 4⟩
      clear hK K
      try simp only [Act.put]
      try simp only [List.setIfInBounds_toArray]
      try simp only [List.set]
      refine wpAnyH_done (by kernel_rfl) ?_ _
      refine NoPanic.normal ?_
      have hk6 := set_heap _ (H + 1) 5 _ _ (.slice a3 LN c3) (set_heap _ (H + 1) 4 _ _ (.string xh) (set_heap _ (H + 1) 3 _ _ (.int .i64 xn) (set_heap _ (H + 1) 2 _ _ (.int .i64 xa) (set_heap _ (H + 1) 1 _ _ (.int .i64 xm) (set_heap _ (H + 1) 0 _ _ (.int .i64 xb) HZ3.out)))))
      have HB8 := hid (below_set (k := 5) (u := .slice a3 LN c3) (below_set (k := 4) (u := .string xh) (below_set (k := 3) (u := .int .i64 xn) (below_set (k := 2) (u := .int .i64 xa) (below_set (k := 1) (u := .int .i64 xm) (below_set (k := 0) (u := .int .i64 xb) HB3.out hHw) hHw) hHw) hHw) hHw) hHw)
      have hnz : ∀ i, (Value.slice a3 L.length c3).ownBlock = some i → i ≠ H + 1 := fun i hi e => own_ne HO3.out HZ3.out (by decide) (e ▸ hi)
      have HO8 : Hid (OwnW ((((((w3.setCell ⟨H + 1, 0, none⟩ (.int .i64 xb)).setCell ⟨H + 1, 1, none⟩ (.int .i64 xm)).setCell ⟨H + 1, 2, none⟩ (.int .i64 xa)).setCell ⟨H + 1, 3, none⟩ (.int .i64 xn)).setCell ⟨H + 1, 4, none⟩ (.string xh)).setCell ⟨H + 1, 5, none⟩ (.slice a3 LN c3)) w.heap.size (.slice a3 L.length c3) L) := hid (own_far HO3.out (fun i hi => by
        have hne := hnz i hi
        exact (set_other _ hne).trans ((set_other _ hne).trans ((set_other _ hne).trans ((set_other _ hne).trans ((set_other _ hne).trans (set_other _ hne)))))))
      generalize ((((((w3.setCell ⟨H + 1, 0, none⟩ (.int .i64 xb)).setCell ⟨H + 1, 1, none⟩ (.int .i64 xm)).setCell ⟨H + 1, 2, none⟩ (.int .i64 xa)).setCell ⟨H + 1, 3, none⟩ (.int .i64 xn)).setCell ⟨H + 1, 4, none⟩ (.string xh)).setCell ⟨H + 1, 5, none⟩ (.slice a3 LN c3)) = w9 at hk6 HB8 HO8 ⊢
      have y0 : w9.cell? ⟨H + 1, 0, none⟩ = some (.int .i64 xb) := cell_of_blk hk6 0
      have y1 : w9.cell? ⟨H + 1, 1, none⟩ = some (.int .i64 xm) := cell_of_blk hk6 1
      have y2 : w9.cell? ⟨H + 1, 2, none⟩ = some (.int .i64 xa) := cell_of_blk hk6 2
      have y3 : w9.cell? ⟨H + 1, 3, none⟩ = some (.int .i64 xn) := cell_of_blk hk6 3
      have y4 : w9.cell? ⟨H + 1, 4, none⟩ = some (.string xh) := cell_of_blk hk6 4
      have y5 : w9.cell? ⟨H + 1, 5, none⟩ = some (.slice a3 LN c3) := cell_of_blk hk6 5
      clear z0 z1 z2 z3 z4 z5 zf hHeld hk6 hnz
      go_wp2_with fail
      refine bodyPost_ret (v := .agg #[.int .i64 xb, .int .i64 xm, .int .i64 xa, .int .i64 xn, .string xh, .slice a3 LN c3]) (by simp [results, Tryz.results29, go_sem, y0, y1, y2, y3, y4, y5]) rfl ⟨_, rfl, ?_, HB8.out⟩
      rw [← HL.out, HLN.out]
      exact HO8.out
end Go.Proofs.YtnamioihapnefaaGreatDoor
