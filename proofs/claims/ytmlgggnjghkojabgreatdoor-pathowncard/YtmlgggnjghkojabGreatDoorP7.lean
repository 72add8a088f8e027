/-
  The walk of Safe of the program.
-/
import Derived.Test.YtmlgggnjghkojabGreatDoorP6
namespace Go.Proofs.YtmlgggnjghkojabGreatDoor
open Go.RowKit

theorem safe_head {l : List UInt8} {L : List (List UInt8)} (hL : Pp.pieces l = L) (h : L.headD [] = []) : Pp.safe l = ([], 31) := by
  unfold Pp.safe
  rw [hL, if_pos (.inl h)]
theorem safe_up {l : List UInt8} {L : List (List UInt8)} (hL : Pp.pieces l = L) (h : [46, 46] ∈ L) : Pp.safe l = ([], 31) := by
  unfold Pp.safe
  rw [hL, if_pos (.inr h)]
theorem safe_none {l : List UInt8} {L : List (List UInt8)} (hL : Pp.pieces l = L) (h1 : L.headD [] ≠ []) (h2 : [46, 46] ∉ L) (h3 : (L.filter fun x => !Pp.nowhere x) = []) : Pp.safe l = ([], 30) := by
  unfold Pp.safe Pp.left
  rw [hL, if_neg (by rintro (e | e); exact h1 e; exact h2 e), if_pos h3]
theorem safe_some {l : List UInt8} {L : List (List UInt8)} (hL : Pp.pieces l = L) (h1 : L.headD [] ≠ []) (h2 : [46, 46] ∉ L) (h3 : (L.filter fun x => !Pp.nowhere x) ≠ []) : Pp.safe l = Pp.join (L.filter fun x => !Pp.nowhere x) := by
  unfold Pp.safe Pp.left
  rw [hL, if_neg (by rintro (e | e); exact h1 e; exact h2 e), if_neg h3]
theorem mem_BL {L : List (List UInt8)} {x : List UInt8} : (⟨x.toArray⟩ : ByteArray) ∈ BL L ↔ x ∈ L := by
  constructor
  · intro h
    obtain ⟨y, hy, e⟩ := List.mem_map.1 h
    have : y = x := by
      have := congrArg (fun b : ByteArray => b.data.toList) e
      simpa using this
    rwa [← this]
  · intro h
    exact List.mem_map.2 ⟨x, h, rfl⟩
theorem contains_eq (L : List (List UInt8)) : Lib.containsS ((BL L).take L.length) ⟨#[46, 46]⟩ = decide ([46, 46] ∈ L) := by
  rw [List.take_of_length_le (by rw [BL_length]; exact Nat.le_refl _), Bool.eq_iff_iff, Lib.containsS_iff, decide_eq_true_eq]
  exact mem_BL (x := [46, 46])

set_option maxHeartbeats 2000000 in
set_option maxRecDepth 100000 in
theorem safe_any (s : ByteArray) (w : World) (hs : s.size < 4294967281) (hm : MaxVar w) :
    Calls Tryz.prog 13 #[.string s] w fun e w' => e = .returned (.tuple #[.string ⟨(Pp.safe s.data.toList).1.toArray⟩, errV (Pp.safe s.data.toList).2]) ∧ Below w.heap.size w w' := by
  have HM := hid hm
  have hpl := Pp.pieces_length s.data.toList
  rw [size_data] at hpl
  have hne := Pp.pieces_ne s.data.toList
  obtain ⟨L, hL⟩ : ∃ L, Pp.pieces s.data.toList = L := ⟨_, rfl⟩
  rw [hL] at hpl hne
  have HL := hid hL
  have hlen : 0 < L.length := List.length_pos_iff.2 hne
  obtain ⟨x0, hx0⟩ : ∃ x0, L[0]? = some x0 := ⟨_, List.getElem?_eq_getElem hlen⟩
  have hhd : L.headD [] = x0 := by
    cases L with
    | nil => cases hx0
    | cons y r => exact Option.some.inj hx0
  obtain ⟨X, hX⟩ : ∃ X : ByteArray, X = ⟨x0.toArray⟩ := ⟨_, rfl⟩
  have hbl0 : (BL L)[0]? = some X := by unfold BL; rw [List.getElem?_map, hx0, hX]; rfl
  have HX := hid hX
  have HH := hid hhd
  have H0 := hid hbl0
  clear hm hL hne hx0 hhd hX hbl0
  go_enter Tryz.func13, Tryz.ntmps13
  go_wp2_with fail
  refine (split_any s L HL.out _ hs HM.out).mono ?_
  rintro e w1 ⟨_, rfl, rfl, hown, hb1, hheap⟩
  have HB1 := hid hheap
  have hrd := rd_own hown
  have hcells : ∀ (j : Nat) x, (BL L)[j]? = some x → w1.cell? ⟨w.heap.size, 0 + j, none⟩ = some (.string x) := by
    rcases hrd with ⟨h0, _⟩ | ⟨b, o, c, hv, _, _, hc⟩
    · intro j x hj; rw [h0] at hj; cases hj
    · obtain ⟨ha, _, _⟩ := Value.slice.inj hv
      cases ha
      exact hc
  have c0 : w1.cell? ⟨w.heap.size, 0, none⟩ = some (.string X) := hcells 0 X H0.out
  have hgd : ∀ j, j < (BL L).length → w1.cell? ⟨w.heap.size, 0 + j, none⟩ = some (.string ((BL L).getD j ByteArray.empty)) := fun j hj => by
    rw [hcells j _ (List.getElem?_eq_getElem hj), List.getD_eq_getElem?_getD, List.getElem?_eq_getElem hj]; rfl
  have HC := hid hgd
  have HW := hid hb1.size
  clear hown hheap hrd hcells hgd
  by_cases hx : X.size = 0
  · have HS := hid (safe_head HL.out (HH.out.trans (list_nil HX.out hx)))
    have t := empty_yes X hx
    clear hx
    go_wp2
    go_ret2
    exact ⟨by rw [HS.out]; rfl, hb1⟩
  · have HN1 : Hid (L.headD [] ≠ []) := hid (by rw [HH.out]; exact list_ne HX.out hx)
    have t := empty_no X hx
    clear hx
    go_wp2_with fail
    refine (Tryz.slices_Contains_string _ 0 L.length _ (BL L) ⟨#[46, 46]⟩ _ (by rw [BL_length]; exact Nat.le_refl _) (by omega) HC.out).mono ?_
    rintro e w2 ⟨rfl, rfl⟩
    rw [contains_eq]
    by_cases hup : [46, 46] ∈ L
    · have HS := hid (safe_up HL.out hup)
      rw [decide_eq_true hup]
      clear hup
      go_wp2
      go_ret2
      exact ⟨by rw [HS.out]; rfl, hb1⟩
    · have HU := hid hup
      rw [decide_eq_false hup]
      clear hup
      go_wp2_with fail
      refine (delete_any _ L _ HB1.out (by omega) w.heap.size (Nat.le_refl _)).mono ?_
      rintro e w3 ⟨v, rfl, hr3, hb3⟩
      obtain ⟨a, c, rfl⟩ := hr3.shape
      have HR3 := hid hr3
      clear hr3
      have hB3 : Below w.heap.size w w3 := hb1.trans hb3
      rw [BL_length] at HR3 ⊢
      obtain ⟨F, hF⟩ : ∃ F, (L.filter fun x => !Pp.nowhere x) = F := ⟨_, rfl⟩
      have hFl : F.length ≤ L.length := by rw [← hF]; exact List.length_filter_le _ _
      rw [hF] at HR3 ⊢
      have HF := hid hF
      clear hF
      by_cases h0 : F.length = 0
      · have HS := hid (safe_none HL.out HN1.out HU.out (HF.out.trans (List.length_eq_zero_iff.1 h0)))
        have t2 : ((F.length : Int) == 0) = true := beq_iff_eq.2 (by omega)
        clear h0
        go_wp2
        go_ret2
        exact ⟨by rw [HS.out]; rfl, hB3⟩
      · have HS := hid (safe_some HL.out HN1.out HU.out (fun e => h0 (by rw [← HF.out, e]; rfl)))
        have t2 : ((F.length : Int) == 0) = false := beq_eq_false_iff_ne.2 (by omega)
        have hbn : (BL F).length ≤ 140737488355328 := by rw [BL_length]; omega
        clear h0
        go_wp2_with fail
        refine (join_rd HR3.out hbn).mono ?_
        rintro e w4 ⟨rfl, hb4⟩
        rw [DL_BL]
        go_wp2
        go_ret2
        exact ⟨by rw [HS.out, HF.out]; rfl, hB3.trans (hb4.mono hB3.size)⟩
end Go.Proofs.YtmlgggnjghkojabGreatDoor
