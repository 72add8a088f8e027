/-
  The walk of the document's Match.
-/
import Derived.Test.YtfjhjhjdneihbaaGreatDoorRq
import Derived.OwnWalk
namespace Go.Proofs.YtfjhjhjdneihbaaGreatDoor
open Go.RowKit

theorem Tryz.infoBool : (Tryz.prog.info? 4).map (fun i => (i.zero, i.size, i.bytes)) = some (some (.bool false), 1, 1) := by kernel_rfl
/-- a row of n + 1 bools -/
def BRow (w : World) (g n : Nat) (f : Nat → Bool) : Prop := ∃ cs : Array Value, w.heap[g]? = some (.cells cs 4 (0, 0)) ∧ ∀ k, k ≤ n → cs[k]? = some (.bool (f k))
theorem BRow.cell {w : World} {g n : Nat} {f : Nat → Bool} (h : BRow w g n f) (k : Nat) (hk : k ≤ n) : w.cell? ⟨g, k, none⟩ = some (.bool (f k)) := by
  obtain ⟨cs, h1, h2⟩ := h
  rw [cell_of_blk h1, h2 k hk]
theorem BRow.free {w : World} {g n : Nat} {f : Nat → Bool} (h : BRow w g n f) (k : Nat) : w.frozen? ⟨g, k, none⟩ = false := by
  obtain ⟨cs, h1, h2⟩ := h
  exact free_of_blk h1 k
theorem BRow.lt {w : World} {g n : Nat} {f : Nat → Bool} (h : BRow w g n f) : g < w.heap.size := by
  obtain ⟨cs, h1, h2⟩ := h
  exact lt_of_heap h1
theorem BRow.set {w : World} {g n : Nat} {f f' : Nat → Bool} (h : BRow w g n f) (k : Nat) (v : Bool) (hv : ∀ j, j ≤ n → f' j = if j = k then v else f j) : BRow (w.setCell ⟨g, k, none⟩ (.bool v)) g n f' := by
  obtain ⟨cs, h1, h2⟩ := h
  refine ⟨_, heap_setCell_same _ _ _ _ _ _ h1, fun j hj => ?_⟩
  have hs : j < cs.size := by
    rcases Nat.lt_or_ge j cs.size with h | h
    · exact h
    · have := h2 j hj; rw [Array.getElem?_eq_none h] at this; cases this
  rw [Array.getElem?_setIfInBounds, hv j hj]
  by_cases e : k = j
  · subst e; rw [if_pos rfl, if_pos hs, if_pos rfl]
  · rw [if_neg e, if_neg (fun h => e h.symm), h2 j hj]
theorem BRow.other {w : World} {g n : Nat} {f : Nat → Bool} (h : BRow w g n f) {b k : Nat} (hb : b ≠ g) (v : Value) : BRow (w.setCell ⟨b, k, none⟩ v) g n f := by
  obtain ⟨cs, h1, h2⟩ := h
  exact ⟨cs, (heap_setCell_other _ _ _ _ (by simpa using fun e => hb (Eq.symm e))).trans h1, h2⟩
theorem BRow.later {w w' : World} {g n : Nat} {f : Nat → Bool} (h : BRow w g n f) (hb : Below w.heap.size w w') : BRow w' g n f := by
  have hl := h.lt
  obtain ⟨cs, h1, h2⟩ := h
  exact ⟨cs, (hb.block _ hl).trans h1, h2⟩
theorem BRow.made {w : World} {B g n : Nat} (h : w.ownsRow B 4 1 (.slice (some ⟨g, 0, none⟩) (n + 1) (n + 1)) (n + 1) (madeCells (Value.bool false).cells ((n + 1) * 1)).toList) : BRow w g n fun _ => false := by
  rcases h.2 with ⟨hv, _⟩ | ⟨g', cap, cur, hv, hg, hh, hc, _, hsz, ht⟩
  · cases hv
  · cases hv
    refine ⟨cur, hh, fun k hk => ?_⟩
    have e : cur.toList = (madeCells (Value.bool false).cells ((n + 1) * 1)).toList := by
      rw [← ht, List.take_of_length_le]
      rw [Array.length_toList, hsz]
      exact Nat.le_refl _
    rw [show (Value.bool false).cells = #[Value.bool false] from rfl, toList_madeCells_one] at e
    rw [← Array.getElem?_toList, e, List.getElem?_replicate, if_pos (by omega)]
theorem BRow.to {w : World} {g n : Nat} {f f' : Nat → Bool} (h : BRow w g n f) (e : ∀ j, j ≤ n → f' j = f j) : BRow w g n f' := by
  obtain ⟨cs, h1, h2⟩ := h
  exact ⟨cs, h1, fun k hk => by rw [e k hk]; exact h2 k hk⟩

/-- do the first i parts mean the first k bytes? -/
def hr (P : List Pg.Pt) (N : List UInt8) (i k : Nat) : Bool := Pg.mt (P.take i) (N.take k)
theorem hr_zero (P : List Pg.Pt) (N : List UInt8) (k : Nat) (hk : k ≤ N.length) : hr P N 0 k = decide (k = 0) := by
  unfold hr
  rw [List.take_zero, Pg.mt_nil]
  cases k with
  | zero => rfl
  | succ k =>
    cases N with
    | nil => simp at hk
    | cons c N => simp
theorem hr_all (P : List Pg.Pt) (N : List UInt8) : hr P N P.length N.length = Pg.mt P N := by unfold hr; rw [List.take_length, List.take_length]
theorem take_more {P : List Pg.Pt} {i : Nat} {p : Pg.Pt} (h : P[i]? = some p) : P.take (i + 1) = P.take i ++ [p] := by rw [List.take_add_one, h]; rfl
theorem hr_star {P : List Pg.Pt} {i : Nat} {p : Pg.Pt} (h : P[i]? = some p) (hs : p.star = true) (N : List UInt8) (k : Nat) (hk : k ≤ N.length) : hr P N (i + 1) k = (hr P N i k || (decide (0 < k) && hr P N (i + 1) (k - 1))) := by
  unfold hr
  rw [take_more h]
  exact Pg.next_star _ _ _ hk hs
theorem hr_one {P : List Pg.Pt} {i : Nat} {p : Pg.Pt} (h : P[i]? = some p) (hs : p.star = false) (N : List UInt8) (k : Nat) (c : UInt8) (hc : N[k]? = some c) : hr P N (i + 1) (k + 1) = (hr P N i k && p.set c) := by
  unfold hr
  rw [take_more h]
  exact Pg.next_one _ _ _ _ hc hs
theorem hr_none {P : List Pg.Pt} {i : Nat} {p : Pg.Pt} (h : P[i]? = some p) (hs : p.star = false) (N : List UInt8) : hr P N (i + 1) 0 = false := by
  unfold hr
  rw [take_more h]
  exact Pg.next_none _ _ hs
/-- the next row, as far as it is made -/
def nx (P : List Pg.Pt) (N : List UInt8) (i k j : Nat) : Bool := decide (j < k) && hr P N (i + 1) j
theorem nx_set (P : List Pg.Pt) (N : List UInt8) (i k j : Nat) (v : Bool) (hv : v = hr P N (i + 1) k) : nx P N i (k + 1) j = if j = k then v else nx P N i k j := by
  unfold nx
  by_cases e : j = k
  · subst e; rw [if_pos rfl, hv]; simp
  · rw [if_neg e]
    congr 1
    rw [decide_eq_decide]
    omega
/-- the document's parts lie there -/
def PartsAt (w : World) (b : Nat) (P : List Pg.Pt) : Prop := ∀ (j : Nat) p, P[j]? = some p → w.cell? ⟨b, j * 257, none⟩ = some (.bool p.star) ∧ ∀ c : UInt8, w.cell? ⟨b, j * 257 + 1 + c.toNat, none⟩ = some (.bool (p.set c))
theorem PartsAt.later {w w' : World} {b : Nat} {P : List Pg.Pt} (h : PartsAt w b P) (hl : b < w.heap.size) (hb : Below w.heap.size w w') : PartsAt w' b P :=
  fun j p hj => ⟨(hb.cell (p := ⟨b, j * 257, none⟩) hl).trans (h j p hj).1, fun c => (hb.cell (p := ⟨b, j * 257 + 1 + c.toNat, none⟩) hl).trans ((h j p hj).2 c)⟩
set_option maxRecDepth 100000 in
theorem parts_of_own {w : World} {B : Nat} {v : Value} {P : List Pg.Pt} (h : OwnP w B v P) : ∃ a c, v = .slice a P.length c ∧ P.length ≤ c ∧ (P = [] ∨ ∃ b, a = some ⟨b, 0, none⟩ ∧ b < w.heap.size ∧ PartsAt w b P) := by
  have h' := h
  rcases h.2 with ⟨hv, hn⟩ | ⟨g, cap, cur, hv, hg, hh, hcp, _⟩
  · subst hv
    exact ⟨none, 0, by rw [hn], by omega, .inl (List.length_eq_zero_iff.1 hn)⟩
  · subst hv
    refine ⟨_, cap, rfl, hcp, .inr ⟨g, rfl, lt_of_heap hh, fun j p hj => ?_⟩⟩
    have hjl : j < P.length := by
      rcases Nat.lt_or_ge j P.length with k | k
      · exact k
      · rw [List.getElem?_eq_none k] at hj; cases hj
    have key : ∀ k, k < 257 → w.cell? ⟨g, j * 257 + k, none⟩ = (rpC p)[k]? := by
      intro k hk
      have := World.ownsRow.cellAt h' (j * 257 + k) (by omega)
      rw [rptsC_at P j p k hj hk] at this
      exact this
    refine ⟨(key 0 (by omega)).trans (rpC_star p), fun c => ?_⟩
    have hc := c.toNat_lt
    rw [Nat.add_assoc, key (1 + c.toNat) (by omega), rpC_at p _ (by omega)]
    simp

set_option maxHeartbeats 1600000 in
set_option maxRecDepth 100000 in
theorem refMatch_any {B : Nat} {v : Value} {P : List Pg.Pt} (n : ByteArray) {w : World} (h : OwnP w B v P) (hn : n.size ≤ 140737488351232) (hPl : P.length ≤ 1024) :
    Calls Tryz.prog 45 #[v, .string n] w fun e w' => e = .returned (.bool (Pg.mt P n.data.toList)) ∧ Below w.heap.size w w' := by
  obtain ⟨a, c, rfl, hc, hP⟩ := parts_of_own h
  obtain ⟨i0, hi, hz0, hz1, hz2⟩ := info_parts Tryz.infoBool
  have HP := hid hP
  clear h hP
  go_enter Tryz.func45, Tryz.ntmps45
  go_wp2_with (at_make; refine wpList_make_full _ rfl _ _ 60 rfl w.heap.size 4 i0 (.bool false) 1 Tryz.underlying60 hi hz0 hz1 .i64 .i64 _ _ (n.size + 1) rfl rfl (by omega) (by omega) (by rw [hz2]; omega) (by unfold maxLen; omega) (Nat.le_refl _) ?_; intro w1 hown hgrow; have HR1 := hid (BRow.made hown); have hc1 := HR1.out.cell 0 (Nat.zero_le _); have hf1 := HR1.out.free 0; have hb1 := (Below.refl w.heap.size w).grown hgrow (Nat.le_refl _) (fun k hk => by cases hk); clear hown hgrow)
  have HR2 : Hid (BRow (w1.setCell ⟨w.heap.size, 0, none⟩ (.bool true)) w.heap.size n.size (hr P n.data.toList 0)) := hid (HR1.out.set 0 true fun j hj => by rw [hr_zero _ _ _ (by rw [size_data]; exact hj)]; by_cases e : j = 0 <;> simp [e])
  have hb2 : Below w.heap.size w (w1.setCell ⟨w.heap.size, 0, none⟩ (.bool true)) := hb1.setCell (Nat.le_refl _) _
  clear hc1 hf1 HR1 hb1
  go_loopw [5, 6] (fun t5 t6 wr => ∃ (i g : Nat), i ≤ P.length ∧ t5 = .slice (some ⟨g, 0, none⟩) (n.size + 1) (n.size + 1) ∧ t6 = .int .i64 i ∧ w.heap.size ≤ g ∧ Below w.heap.size w wr ∧ BRow wr g n.size (hr P n.data.toList i)) (fun _ t6 _ => P.length - (intOf t6).toNat)
  case atStart => exact ⟨0, _, Nat.zero_le _, rfl, rfl, Nat.le_refl _, hb2, HR2.out⟩
  case round =>
    obtain ⟨i, g, hi1, rfl, rfl, hg, hb, hR⟩ := hrel
    have HR := hid hR
    have hgl := hR.lt
    have hzb := hb.size
    clear hR HR2 hb2
    by_cases hlt : i < P.length
    · obtain ⟨p, hp⟩ : ∃ p, P[i]? = some p := ⟨_, List.getElem?_eq_getElem hlt⟩
      have HPp := hid hp
      obtain ⟨b, rfl, hbl, hpa⟩ : ∃ b, a = some ⟨b, 0, none⟩ ∧ b < w.heap.size ∧ PartsAt w b P := by
        rcases HP.out with rfl | h
        · simp at hlt
        · exact h
      have HPA := hid (hpa i p hp)
      clear hp hpa
      obtain ⟨w2, rfl⟩ : ∃ w2, w2 = wr := ⟨_, rfl⟩
      go_wp2_with (at_make; refine wpList_make_full _ rfl _ _ 60 rfl w.heap.size 4 i0 (.bool false) 1 Tryz.underlying60 hi hz0 hz1 .i64 .i64 _ _ (n.size + 1) rfl rfl (by omega) (by omega) (by rw [hz2]; omega) (by unfold maxLen; omega) hzb ?_; intro w3 hown hgrow; have HR3 := hid (BRow.made hown); have HB3 := hid ((Below.refl w2.heap.size w2).grown hgrow (Nat.le_refl _) (fun k hk => by cases hk)); clear hown hgrow)
      have hb3 := hb.trans (HB3.out.mono hzb)
      have HR4 := hid (HR.out.later HB3.out)
      go_loopw [8] (fun t8 wr => ∃ k : Nat, k ≤ n.size + 1 ∧ t8 = .int .i64 k ∧ Below w.heap.size w wr ∧ BRow wr g n.size (hr P n.data.toList i) ∧ BRow wr w2.heap.size n.size (nx P n.data.toList i k)) (fun t8 _ => n.size + 1 - (intOf t8).toNat)
      case atStart => exact ⟨0, Nat.zero_le _, rfl, hb3, HR4.out, by have := HR3.out; unfold nx; simpa using this⟩
      case round =>
        obtain ⟨k, hk, rfl, hb4, hR5, hR6⟩ := hrel
        have HR5 := hid hR5
        have HR6 := hid hR6
        clear hR5 hR6 HR3 HB3 hb3 HR4 HR
        by_cases hkl : k ≤ n.size
        · have hst := (hb4.cell (p := ⟨b, i * 257, none⟩) hbl).trans HPA.out.1
          have hc6 := HR6.out.cell k hkl
          have hf6 := HR6.out.free k
          have hNl := size_data n
          cases hs : p.star with
          | true =>
            rw [hs] at hst
            have hc5 := HR5.out.cell k hkl
            have HV := hid (hr_star HPp.out hs n.data.toList k (by omega))
            clear hs
            cases hh : hr P n.data.toList i k with
            | true =>
              rw [hh] at hc5
              have HU : Hid (true = hr P n.data.toList (i + 1) k) := hid (by rw [HV.out, hh]; rfl)
              clear hh
              go_wp2
              go_roundw
              case rel => exact ⟨k + 1, by omega, by go_num, hb4.setCell hzb _, HR5.out.other (by omega) _, HR6.out.set (k) true fun j _ => nx_set _ _ _ _ _ _ HU.out⟩
              case measure => simp [intOf]; omega
            | false =>
              rw [hh] at hc5
              rw [hh] at HV
              clear hh
              by_cases hk0 : k = 0
              · subst hk0
                have HU : Hid (false = hr P n.data.toList (i + 1) 0) := hid (by rw [HV.out]; rfl)
                go_wp2
                go_roundw
                case rel => exact ⟨0 + 1, by omega, by go_num, hb4.setCell hzb _, HR5.out.other (by omega) _, HR6.out.set (0) false fun j _ => nx_set _ _ _ _ _ _ HU.out⟩
                case measure => simp [intOf]
              · obtain ⟨m, rfl⟩ : ∃ m, k = m + 1 := ⟨k - 1, by omega⟩
                have hc7 := HR6.out.cell m (by omega)
                have e7 : nx P n.data.toList i (m + 1) m = hr P n.data.toList (i + 1) m := by unfold nx; simp
                rw [e7] at hc7
                have HU : Hid (hr P n.data.toList (i + 1) m = hr P n.data.toList (i + 1) (m + 1)) := hid (by rw [HV.out]; simp)
                clear e7
                go_wp2
                go_roundw
                case rel => exact ⟨m + 1 + 1, by omega, by go_num, hb4.setCell hzb _, HR5.out.other (by omega) _, HR6.out.set (m + 1) _ fun j _ => nx_set _ _ _ _ _ _ HU.out⟩
                case measure => simp [intOf]; omega
          | false =>
            rw [hs] at hst
            have HS := hid hs
            clear hs
            by_cases hk0 : k = 0
            · subst hk0
              have HU : Hid (false = hr P n.data.toList (i + 1) 0) := hid (hr_none HPp.out HS.out _).symm
              go_wp2
              refine wp_region_qtail 24 (by kernel_rfl) (by kernel_rfl) ?_
              simp only [List.take_succ_cons, List.take_zero, List.drop_succ_cons, List.drop_zero]
              repeat go_big_quiet_step (fail)
              refine wpQuiet_nil ?_
              go_wp2
              go_roundw
              case rel => exact ⟨0 + 1, by omega, by go_num, (below_drewN hb4 1).setCell hzb _, BRow.other (w := wr.drewN 1) HR5.out (by omega) _, BRow.set (w := wr.drewN 1) HR6.out (0) false fun j _ => nx_set _ _ _ _ _ _ HU.out⟩
              case measure => simp [intOf] <;> omega
            · obtain ⟨m, rfl⟩ : ∃ m, k = m + 1 := ⟨k - 1, by omega⟩
              have hml : m < n.size := by omega
              have hby0 : (0 : Int) ≤ (n[m].toNat : Int) := by omega
              have hby1 : (n[m].toNat : Int) < 256 := by have := n[m].toNat_lt; omega
              have hc5 := HR5.out.cell m (by omega)
              have HV := hid (hr_one HPp.out HS.out n.data.toList m n[m] (at_data n m hml))
              have hcs := (hb4.cell (p := ⟨b, i * 257 + 1 + n[m].toNat, none⟩) hbl).trans (HPA.out.2 n[m])
              cases hh : hr P n.data.toList i m with
              | true =>
                rw [hh] at hc5
                have HU : Hid (p.set n[m] = hr P n.data.toList (i + 1) (m + 1)) := hid (by rw [HV.out, hh]; rfl)
                clear hh
                go_wp2
                refine wp_region_qtail 24 (by kernel_rfl) (by kernel_rfl) ?_
                simp only [List.take_succ_cons, List.take_zero, List.drop_succ_cons, List.drop_zero]
                repeat go_big_quiet_step (fail)
                refine wpQuiet_nil ?_
                go_wp2
                go_roundw
                case rel => exact ⟨m + 1 + 1, by omega, by go_num, (below_drewN hb4 1).setCell hzb _, BRow.other (w := wr.drewN 1) HR5.out (by omega) _, BRow.set (w := wr.drewN 1) HR6.out (m + 1) _ fun j _ => nx_set _ _ _ _ _ _ HU.out⟩
                case measure => simp [intOf] <;> omega
              | false =>
                rw [hh] at hc5
                have HU : Hid (false = hr P n.data.toList (i + 1) (m + 1)) := hid (by rw [HV.out, hh]; rfl)
                clear hh
                go_wp2
                refine wp_region_qtail 24 (by kernel_rfl) (by kernel_rfl) ?_
                simp only [List.take_succ_cons, List.take_zero, List.drop_succ_cons, List.drop_zero]
                repeat go_big_quiet_step (fail)
                refine wpQuiet_nil ?_
                go_wp2
                go_roundw
                case rel => exact ⟨m + 1 + 1, by omega, by go_num, (below_drewN hb4 1).setCell hzb _, BRow.other (w := wr.drewN 1) HR5.out (by omega) _, BRow.set (w := wr.drewN 1) HR6.out (m + 1) _ fun j _ => nx_set _ _ _ _ _ _ HU.out⟩
                case measure => simp [intOf] <;> omega
        · obtain rfl : k = n.size + 1 := by omega
          have HR7 := hid (HR6.out.to (f' := hr P n.data.toList (i + 1)) fun j hj => by unfold nx; rw [decide_eq_true (by omega), Bool.true_and])
          go_wp2
          go_roundw
          case rel => exact ⟨i + 1, _, hlt, rfl, by go_num, hzb, hb4, HR7.out⟩
          case measure => simp [intOf]; omega
    · obtain rfl : i = P.length := by omega
      have hc5 := HR.out.cell n.size (Nat.le_refl _)
      have HF : Hid (hr P n.data.toList P.length n.size = Pg.mt P n.data.toList) := hid (by rw [← hr_all, size_data])
      go_wp2
      go_ret
      exact ⟨ret_bool HF.out, hb⟩
end Go.Proofs.YtfjhjhjdneihbaaGreatDoor
