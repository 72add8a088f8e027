/-
  The walk of step.
-/
import Derived.Test.YtfjhjhjdneihbaaGreatDoorGm
namespace Go.Proofs.YtfjhjhjdneihbaaGreatDoor
open Go.RowKit

theorem step_many {ps : List Pg.Pi} {N : List UInt8} {nx pl : List Nat} {k a : Nat} (h : pl[k]? = some a) (hq : ps[a]? = some none) : Pg.stepG ps N nx (pl.drop k) = Pg.stepG ps N (Pg.reachL ps nx a) (pl.drop (k + 1)) := by
  rw [List.drop_eq_getElem?_toList_append, h]
  show Pg.stepG ps N nx (a :: pl.drop (k + 1)) = _
  conv => lhs; unfold Pg.stepG
  rw [hq]
theorem step_hit {ps : List Pg.Pi} {N : List UInt8} {nx pl : List Nat} {k a : Nat} {P : List Pg.Pt} (h : pl[k]? = some a) (hq : ps[a]? = some (some P)) (hm : Pg.mt P N = true) : Pg.stepG ps N nx (pl.drop k) = Pg.stepG ps N (Pg.reachL ps nx (a + 1)) (pl.drop (k + 1)) := by
  rw [List.drop_eq_getElem?_toList_append, h]
  show Pg.stepG ps N nx (a :: pl.drop (k + 1)) = _
  conv => lhs; unfold Pg.stepG
  rw [hq]
  simp [hm]
theorem step_miss {ps : List Pg.Pi} {N : List UInt8} {nx pl : List Nat} {k a : Nat} {P : List Pg.Pt} (h : pl[k]? = some a) (hq : ps[a]? = some (some P)) (hm : Pg.mt P N = false) : Pg.stepG ps N nx (pl.drop k) = Pg.stepG ps N nx (pl.drop (k + 1)) := by
  rw [List.drop_eq_getElem?_toList_append, h]
  show Pg.stepG ps N nx (a :: pl.drop (k + 1)) = _
  conv => lhs; unfold Pg.stepG
  rw [hq]
  simp [hm]
theorem step_done {ps : List Pg.Pi} {N : List UInt8} {nx pl : List Nat} {k a : Nat} (h : pl[k]? = some a) (hq : ps.length ≤ a) : Pg.stepG ps N nx (pl.drop k) = nx := by
  rw [List.drop_eq_getElem?_toList_append, h]
  show Pg.stepG ps N nx (a :: pl.drop (k + 1)) = _
  unfold Pg.stepG
  rw [List.getElem?_eq_none hq]
/-- the places left lie beyond -/
def Left (pl : List Nat) (k c : Nat) : Prop := ∀ j a, k ≤ j → pl[j]? = some a → c ≤ a
theorem rises_at {pl : List Nat} (h : pl.Pairwise (· < ·)) {k a : Nat} (hk : pl[k]? = some a) : Left pl (k + 1) (a + 1) := by
  intro j x hj hx
  obtain ⟨h1, e1⟩ := List.getElem?_eq_some_iff.1 hk
  obtain ⟨h2, e2⟩ := List.getElem?_eq_some_iff.1 hx
  have := List.pairwise_iff_getElem.1 h k j h1 h2 (by omega)
  omega
theorem OwnI.low {w : World} {B B' : Nat} {v : Value} {l : List Nat} (h : OwnI w B v l) (hB : B' ≤ B) : OwnI w B' v l := by
  refine ⟨h.1, ?_⟩
  rcases h.2 with h | ⟨g, cap, cur, hv, hg, r⟩
  · exact .inl h
  · exact .inr ⟨g, cap, cur, hv, Nat.le_trans hB hg, r⟩

set_option maxHeartbeats 4000000 in
set_option maxRecDepth 100000 in
theorem step_any {b c B : Nat} {ps : List Pg.Pi} {dirs back : Bool} {v : Value} {pl : List Nat} (n : ByteArray) {w : World} (hP : PcAt w b ps) (hb : b < w.heap.size) (hO : OwnI w B v pl) (hr : pl.Pairwise (· < ·)) (ha : ∀ a ∈ pl, a ≤ ps.length) (hn : ps.length ≤ 100000000) (hs : n.size ≤ 140737488351232) (hPl : ∀ P, some P ∈ ps → P.length ≤ 1024) :
    Calls Tryz.prog 43 #[.agg #[.slice (some ⟨b, 0, none⟩) ps.length c, .bool dirs, .bool back], v, .string n] w fun e w' => ∃ v', e = .returned v' ∧ OwnI w' w.heap.size v' (Pg.stepG ps n.data.toList [] pl) ∧ Below w.heap.size w w' := by
  have HX0 : Hid ((w.alloc (.cells #[.slice (some ⟨b, 0, none⟩) ps.length c, .bool dirs, .bool back] 46)).heap[w.heap.size]? = some (.cells #[.slice (some ⟨b, 0, none⟩) ps.length c, .bool dirs, .bool back] 46 (0, 0))) := hid (heap_alloc_new _ _)
  have hb0 : Below w.heap.size w (w.alloc (.cells #[.slice (some ⟨b, 0, none⟩) ps.length c, .bool dirs, .bool back] 46)) := (Below.refl _ _).alloc (Nat.le_refl _) _
  have HP := hid (hP.later hb hb0)
  have HO := hid (hO.stays hb0)
  have HRi := hid hr
  have HPl := hid hPl
  have HA := hid ha
  have hsz : (w.alloc (.cells #[.slice (some ⟨b, 0, none⟩) ps.length c, .bool dirs, .bool back] 46)).heap.size = w.heap.size + 1 := by simp
  have hmx : pl.length ≤ 9223372036854775807 := by
    have := own_max hO
    unfold maxLen at this
    omega
  have hsh := OwnI.shape HO.out
  obtain ⟨x, y, rfl, hy⟩ := own_shape hO
  clear hP hO hr ha hPl
  go_enter Tryz.func43, Tryz.ntmps43
  go_wp2
  obtain ⟨W, hW⟩ : ∃ W, W = w.alloc (.cells #[.slice (some ⟨b, 0, none⟩) ps.length c, .bool dirs, .bool back] 46) := ⟨_, rfl⟩
  rw [← hW] at HX0 hb0 HP HO hsz hsh ⊢
  have HSh := hid hsh
  clear hW hsh
  go_loopw [7, 12] (fun t7 t12 wr => ∃ (k : Nat) (nx : List Nat) (cc : Nat), k ≤ pl.length ∧ t12 = .int .i64 k ∧ OwnI wr (w.heap.size + 1) t7 nx ∧ Below (w.heap.size + 1) W wr ∧ Hid (Pg.Fine ps nx cc ∧ Left pl k cc ∧ Pg.stepG ps n.data.toList nx (pl.drop k) = Pg.stepG ps n.data.toList [] pl)) (fun _ t12 _ => pl.length - (intOf t12).toNat)
  case atStart => exact ⟨0, [], 0, Nat.zero_le _, rfl, OwnI.nil _ _, by rw [← hsz]; exact Below.refl _ _, hid ⟨Pg.Fine.nil _ _, fun _ _ _ _ => Nat.zero_le _, rfl⟩⟩
  case round =>
    obtain ⟨k, nx, cc, hk, rfl, hO, hbw, HI⟩ := hrel
    have HO1 := hid hO
    have hz := hbw.size
    rw [hsz] at hz
    have HX1 := hid ((hbw.block w.heap.size (by omega)).trans HX0.out)
    have hcb := cell_of_blk HX1.out 0
    clear hO
    by_cases hlt : k < pl.length
    · obtain ⟨a, hka⟩ : ∃ a, pl[k]? = some a := ⟨_, List.getElem?_eq_getElem hlt⟩
      have haP := HA.out a (List.mem_of_getElem? hka)
      have HK := hid hka
      rcases HSh.out with ⟨h, _⟩ | ⟨g, cp, hv, hcells⟩
      · rw [h] at hlt; simp at hlt
      · cases hv
        have hgl : g < w.heap.size + 1 := by rw [← hsz]; exact lt_of_cell (hcells k a hka)
        have hck := (hbw.cell (p := ⟨g, k, none⟩) hgl).trans (hcells k a hka)
        clear hka
        by_cases hap : a = ps.length
        · have t1 : ((a : Int) == (ps.length : Int)) = true := ieq (by omega)
          have HE := hid (HI.out.2.2.symm.trans (step_done HK.out (by omega)))
          go_wp2
          go_ret
          exact ⟨_, rfl, by rw [HE.out]; exact HO1.out.low (by omega), hb0.trans (hbw.mono (by omega))⟩
        · have t1 : ((a : Int) == (ps.length : Int)) = false := ine (by omega)
          have hcb1 := cell_of_blk HX1.out 1
          have hcb2 := cell_of_blk HX1.out 2
          have hbW : b < W.heap.size := by omega
          have HPr := hid (HP.out.later hbW (by rw [hsz]; exact hbw))
          have hca : cc ≤ a := HI.out.2.1 k a (Nat.le_refl _) HK.out
          have HLf := hid (rises_at HRi.out HK.out)
          obtain ⟨q, hq⟩ : ∃ q, ps[a]? = some q := ⟨_, List.getElem?_eq_getElem (by omega)⟩
          have HQ := hid hq
          obtain ⟨hm1, hm2⟩ := HPr.out a q hq
          cases q with
          | none =>
            have hm1' : wr.cell? ⟨b, a * 2 + 1, none⟩ = some (.bool true) := hm1
            have HS := hid ((step_many (N := n.data.toList) (nx := nx) HK.out HQ.out).symm.trans HI.out.2.2)
            have HF := hid (Pg.reach_fine HI.out.1 hca).1
            have HRm := hid (fine_room (a := a) HI.out.1)
            clear hm1 hm2 hq
            go_wp2_with fail
            refine (reach_any a HPr.out (by omega) (by omega) HO1.out (by omega) HRm.out hn).mono ?_
            rintro e w2 ⟨v2, rfl, hO2, hb2⟩
            have HO2 := hid hO2
            clear hO2
            go_wp2
            go_roundw
            case rel => exact ⟨k + 1, _, a, by omega, by go_num, HO2.out, hbw.trans hb2, hid ⟨HF.out, fun j z hj hz => by have := HLf.out j z hj hz; omega, HS.out⟩⟩
            case measure => simp [intOf]; omega
          | some P =>
            have hm1' : wr.cell? ⟨b, a * 2 + 1, none⟩ = some (.bool false) := hm1
            obtain ⟨bg, hp, hG⟩ := hm2 P rfl
            have HGl := hid hG
            have hPlen := HPl.out P (List.mem_of_getElem? hq)
            clear hm1 hm2 hq hG
            cases hmt : Pg.mt P n.data.toList with
            | true =>
              have HM := hid hmt
              have HS := hid ((step_hit (nx := nx) HK.out HQ.out hmt).symm.trans HI.out.2.2)
              have HF := hid (Pg.reach_fine HI.out.1 (show cc ≤ a + 1 by omega)).1
              have HRm := hid (fine_room (a := a + 1) HI.out.1)
              clear hmt
              go_wp2_with fail
              refine (match_any n HGl.out (by omega) (by omega)).mono ?_
              rintro e w2 ⟨rfl, hb2⟩
              rw [HM.out]
              have HO2 := hid (HO1.out.stays hb2)
              have HP2 := hid (HPr.out.later (by omega) hb2)
              have HX2 := hid ((hb2.block w.heap.size (by omega)).trans HX1.out)
              have hbw2 := hbw.trans (hb2.mono hz)
              have hz2 := hbw2.size
              rw [hsz] at hz2
              have hcb' := cell_of_blk HX2.out 0
              have hcb1' := cell_of_blk HX2.out 1
              have hcb2' := cell_of_blk HX2.out 2
              clear hb2 hcb hcb1 hcb2 hp hm1' hck
              have E1 : Hid (((a : Int) + 1) = ((a + 1 : Nat) : Int)) := hid (by omega)
              go_wp2_with fail
              rw [E1.out]
              refine (reach_any (a + 1) HP2.out (by omega) (by omega) HO2.out (by omega) HRm.out hn).mono ?_
              rintro e w3 ⟨v3, rfl, hO3, hb3⟩
              have HO3 := hid hO3
              clear hO3 E1
              go_wp2
              go_roundw
              case rel => exact ⟨k + 1, _, a + 1, by omega, by go_num, HO3.out, hbw2.trans hb3, hid ⟨HF.out, HLf.out, HS.out⟩⟩
              case measure => simp [intOf]; omega
            | false =>
              have HM := hid hmt
              have HS := hid ((step_miss (nx := nx) HK.out HQ.out hmt).symm.trans HI.out.2.2)
              clear hmt
              go_wp2_with fail
              refine (match_any n HGl.out (by omega) (by omega)).mono ?_
              rintro e w2 ⟨rfl, hb2⟩
              rw [HM.out]
              have HO2 := hid (HO1.out.stays hb2)
              have hbw2 := hbw.trans (hb2.mono hz)
              clear hb2 hcb hcb1 hcb2 hp hm1' hck
              go_wp2
              go_roundw
              case rel => exact ⟨k + 1, nx, cc, by omega, by go_num, HO2.out, hbw2, hid ⟨HI.out.1, fun j z hj hz => by have := HLf.out j z hj hz; omega, HS.out⟩⟩
              case measure => simp [intOf]; omega
    · have HE : Hid (Pg.stepG ps n.data.toList [] pl = nx) := hid (by rw [← HI.out.2.2, List.drop_eq_nil_of_le (by omega)]; rfl)
      go_wp2
      go_ret
      exact ⟨_, rfl, by rw [HE.out]; exact HO1.out.low (by omega), hb0.trans (hbw.mono (by omega))⟩
end Go.Proofs.YtfjhjhjdneihbaaGreatDoor
