/-
  The walk of the document's set.
-/
import Derived.Test.YtfjhjhjdneihbaaGreatDoorRf
namespace Go.Proofs.YtfjhjhjdneihbaaGreatDoor
open Go.RowKit

/-- one byte after another -/
theorem upd_or (g q : UInt8 → Bool) (j : Nat) (h : j < 256) (v : Bool) (hv : v = (g (UInt8.ofNat j) || q (UInt8.ofNat j))) : upd (Pg.or2 g (pk q j)) j v = Pg.or2 g (pk q (j + 1)) := by
  funext x
  unfold upd
  have e : (UInt8.ofNat j).toNat = j := by rw [UInt8.toNat_ofNat']; omega
  by_cases hx : x.toNat = j
  · have : x = UInt8.ofNat j := UInt8.toNat_inj.1 (by rw [e, hx])
    rw [if_pos hx, hv, this]
    simp [Pg.or2, pk, e]
  · rw [if_neg hx]
    simp only [Pg.or2, pk]
    congr 2
    rw [decide_eq_decide]
    omega
theorem upd_rg (g : UInt8 → Bool) (lo k : Nat) (h : lo ≤ k) : upd (Pg.or2 g (rg lo k)) k true = Pg.or2 g (rg lo (k + 1)) := by
  funext x
  unfold upd
  by_cases hx : x.toNat = k
  · rw [if_pos hx]
    simp [Pg.or2, rg, hx, h]
  · rw [if_neg hx]
    simp only [Pg.or2, rg]
    congr 2
    rw [decide_eq_decide]
    omega
/-- the first bytes turned -/
def fl (g : UInt8 → Bool) (n : Bool) (j : Nat) : UInt8 → Bool := fun c => if c.toNat < j then (g c != n) else g c
theorem fl_zero (g : UInt8 → Bool) (n : Bool) : fl g n 0 = g := by funext c; simp [fl]
theorem fl_all (g : UInt8 → Bool) (n : Bool) : fl g n 256 = Pg.turn n g := by
  funext c
  have := c.toNat_lt
  unfold fl Pg.turn
  rw [if_pos (by omega)]
theorem upd_fl (g : UInt8 → Bool) (n : Bool) (j : Nat) (h : j < 256) : upd (fl g n j) j (g (UInt8.ofNat j) != n) = fl g n (j + 1) := by
  funext x
  unfold upd fl
  have e : (UInt8.ofNat j).toNat = j := by rw [UInt8.toNat_ofNat']; omega
  by_cases hx : x.toNat = j
  · have : x = UInt8.ofNat j := UInt8.toNat_inj.1 (by rw [e, hx])
    rw [if_pos hx, if_pos (by omega), this]
  · rw [if_neg hx]
    by_cases h1 : x.toNat < j
    · rw [if_pos h1, if_pos (by omega)]
    · rw [if_neg h1, if_neg (by omega)]
/-- a byte's cell of a part, written -/
theorem part_set {W : World} {g : Nat} {f : UInt8 → Bool} {j : Nat} {v : Bool} (hj : j < 256) (hg : W.heap[g]? = some (.cells (rpC ⟨false, f⟩) 130 (0, 0))) :
    (W.setCell ⟨g, 1 + j, none⟩ (.bool v)).heap[g]? = some (.cells (rpC ⟨false, upd f j v⟩) 130 (0, 0)) := by
  rw [heap_setCell_same _ _ _ _ _ _ hg, rpC_set _ _ _ hj]
theorem part_cell {W : World} {g : Nat} {p : Pg.Pt} (j : Nat) (hj : j < 256) (hg : W.heap[g]? = some (.cells (rpC p) 130 (0, 0))) : W.cell? ⟨g, 1 + j, none⟩ = some (.bool (p.set (UInt8.ofNat j))) := (cell_of_blk hg _).trans (rpC_at p j hj)

/-- an item that is read: what is left -/
theorem goOn_neg {fr : Bool} {t : List UInt8} (h : GoOn fr t) : ¬ (fr = false ∧ t.head? = some 93) := by
  rintro ⟨h1, h2⟩
  rcases h with h | h
  · rw [h1] at h; cases h
  · exact h h2
theorem loopR_none {fr : Bool} {g : UInt8 → Bool} {t : List UInt8} (h : GoOn fr t) (hi : Pg.itemR g t = none) : Pg.loop fr g t = none := by
  rw [Pg.loop_R (goOn_neg h), hi]
theorem loopR_some {fr : Bool} {g g' : UInt8 → Bool} {t r : List UInt8} (h : GoOn fr t) (hi : Pg.itemR g t = some (g', r)) : Pg.loop fr g t = Pg.loop false g' r := by
  rw [Pg.loop_R (goOn_neg h), hi]
theorem itemR_cls {g : UInt8 → Bool} {t : List UInt8} (h : Pg.isCls t = true) : Pg.itemR g t = (Pg.rc t).map fun x => (Pg.or2 g x.1, x.2) := by unfold Pg.itemR; rw [if_pos h]
theorem itemR_bad {g : UInt8 → Bool} {t : List UInt8} (h : Pg.isCls t = false) (hb : Pg.rb t = none) : Pg.itemR g t = none := by unfold Pg.itemR; rw [if_neg (by rw [h]; simp), hb]
theorem itemR_lone {g : UInt8 → Bool} {t r : List UInt8} {lo : UInt8} (h : Pg.isCls t = false) (hb : Pg.rb t = some (lo, r)) (hr : Pg.rngR r = false) : Pg.itemR g t = some (Pg.addR g lo lo, r) := by
  unfold Pg.itemR; rw [if_neg (by rw [h]; simp), hb]; simp only; rw [if_neg (by rw [hr]; simp)]
theorem itemR_rng0 {g : UInt8 → Bool} {t r : List UInt8} {lo : UInt8} (h : Pg.isCls t = false) (hb : Pg.rb t = some (lo, r)) (hr : Pg.rngR r = true) (hb2 : Pg.rb (r.drop 1) = none) : Pg.itemR g t = none := by
  unfold Pg.itemR; rw [if_neg (by rw [h]; simp), hb]; simp only; rw [if_pos hr, hb2]
theorem itemR_rng {g : UInt8 → Bool} {t r r' : List UInt8} {lo hi : UInt8} (h : Pg.isCls t = false) (hb : Pg.rb t = some (lo, r)) (hr : Pg.rngR r = true) (hb2 : Pg.rb (r.drop 1) = some (hi, r')) : Pg.itemR g t = some (Pg.addR g lo hi, r') := by
  unfold Pg.itemR; rw [if_neg (by rw [h]; simp), hb]; simp only; rw [if_pos hr, hb2]
/-- the mark of a range, as the document asks for it -/
theorem rngR_two (s : ByteArray) (k : Nat) (h : k + 1 < s.size) : Pg.rngR (s.data.toList.drop k) = (decide (s[k] = 45) && !decide (s[k + 1] = 93) && !Pg.isCls (s.data.toList.drop (k + 1))) := by
  unfold Pg.rngR
  rw [drop_two s k h, decide_eq_true (by simp), Bool.true_and]
  simp only [Pg.rng]
  rw [drop_head s (k + 1) h]
  simp
theorem rngR_short (s : ByteArray) (k : Nat) (h : s.size ≤ k + 1) : Pg.rngR (s.data.toList.drop k) = false := by
  unfold Pg.rngR
  rw [decide_eq_false (by rw [List.length_drop, size_data]; omega)]; rfl

/-- what set answers -/
def SetP (s : ByteArray) (k0 : Nat) (nt : Bool) (p : Pg.Pt) (n : Nat) : Prop :=
  (n = 0 ∧ Pg.loop true Pg.no (s.data.toList.drop k0) = none) ∨ (1 ≤ n ∧ n ≤ s.size ∧ ∃ g, p = ⟨false, Pg.turn nt g⟩ ∧ Pg.loop true Pg.no (s.data.toList.drop k0) = some (g, s.data.toList.drop n))
/-- what the walk of set keeps -/
def SetR (s : ByteArray) (k0 : Nat) (w wr : World) (fr : Bool) (k : Nat) (g : UInt8 → Bool) : Prop :=
  Below w.heap.size w wr ∧ wr.heap[w.heap.size]? = some (.cells (rpC ⟨false, Pg.no⟩) 130 (0, 0)) ∧ wr.heap[w.heap.size + 1]? = some (.cells (rpC ⟨false, g⟩) 130 (0, 0)) ∧ Pg.loop fr g (s.data.toList.drop k) = Pg.loop true Pg.no (s.data.toList.drop k0)

set_option maxHeartbeats 16000000 in
set_option maxRecDepth 100000 in
theorem set_any (s : ByteArray) (k0 : Nat) (nt : Bool) (w : World) (hs : s.size ≤ 1024) (hk0 : k0 ≤ s.size) :
    Calls Tryz.prog 65 #[.string s, .int .i64 k0, .bool nt] w fun e w' => ∃ p n, e = .returned (.tuple #[.agg (rpC p), .int .i64 (n : Nat)]) ∧ SetP s k0 nt p n ∧ Below w.heap.size w w' := by
  have hz := zeroPart
  have hB1 := heap_b1 w (.cells (rpC ⟨false, Pg.no⟩) 130) (.cells (rpC ⟨false, Pg.no⟩) 130)
  have hB0 := heap_b0 w (.cells (rpC ⟨false, Pg.no⟩) 130) (.cells (rpC ⟨false, Pg.no⟩) 130)
  have hst := setRow_id hB1
  have hs0 := rpC_size ⟨false, Pg.no⟩
  have H0 : Hid (SetR s k0 w ((w.alloc (.cells (rpC ⟨false, Pg.no⟩) 130)).alloc (.cells (rpC ⟨false, Pg.no⟩) 130)) true k0 Pg.no) := hid
    ⟨((Below.refl _ _).alloc (Nat.le_refl _) _).alloc (by simp) _, hB0, hB1, rfl⟩
  clear hB1 hB0
  go_enter Tryz.func65, Tryz.ntmps65
  go_wp2
  clear hst hs0 hz
  go_loopw [1, 9] (fun i b wr => ∃ (k : Nat) (fr : Bool) (g : UInt8 → Bool), k ≤ s.size ∧ i = .int .i64 k ∧ b = .bool fr ∧ SetR s k0 w wr fr k g) (fun i _ _ => s.size - (intOf i).toNat)
  case atStart => exact ⟨k0, true, Pg.no, hk0, rfl, rfl, H0.out⟩
  case round =>
    obtain ⟨k, fr, g, hk, rfl, rfl, hb, hB, hC, hL⟩ := hrel
    obtain ⟨w1, rfl⟩ : ∃ w1, w1 = wr := ⟨_, rfl⟩
    have HB := hid hB
    have HC := hid hC
    have HL := hid hL
    clear hB hC hL H0
    by_cases hlt : k < s.size
    · have i0 : (k : Int) < (s.size : Int) := by omega
      have ed := drop_head s k hlt
      by_cases hend : fr = false ∧ s[k] = 93
      · obtain ⟨rfl, h93⟩ := hend
        have t93 : ((s[k].toNat : Int) != 93) = false := by rw [h93]; rfl
        have HE : Hid (Pg.loop true Pg.no (s.data.toList.drop k0) = some (g, s.data.toList.drop (k + 1))) := hid (by
          rw [← HL.out, ed, loop_end (by rw [h93]; rfl)]; rfl)
        clear h93 ed HL
        go_wp2
        go_loopw [21] (fun i wr => ∃ j : Nat, j ≤ 256 ∧ i = .int .i64 j ∧ Below w.heap.size w wr ∧ wr.heap[w.heap.size]? = some (.cells (rpC ⟨false, Pg.no⟩) 130 (0, 0)) ∧ wr.heap[w.heap.size + 1]? = some (.cells (rpC ⟨false, fl g nt j⟩) 130 (0, 0))) (fun i _ => 256 - (intOf i).toNat)
        case atStart => exact ⟨0, by omega, rfl, hb, HB.out, by rw [fl_zero]; exact HC.out⟩
        case round =>
          obtain ⟨j, hj, rfl, hb2, hB2, hC2⟩ := hrel
          have HB2 := hid hB2
          have HC2 := hid hC2
          clear hB2 hC2 HB HC hb
          by_cases hjl : j < 256
          · have j0 : (0 : Int) ≤ (j : Int) := by omega
            have j1 : (j : Int) < 256 := by omega
            have hc := part_cell j hjl HC2.out
            have hf := free_of_blk HC2.out (1 + j)
            have e : fl g nt j (UInt8.ofNat j) = g (UInt8.ofNat j) := by
              unfold fl
              rw [if_neg (by rw [UInt8.toNat_ofNat']; omega)]
            have hc' : wr.cell? ⟨w.heap.size + 1, 1 + j, none⟩ = some (.bool (g (UInt8.ofNat j))) := by rw [hc]; simp [e]
            clear hc e
            go_wp2
            go_roundw
            case rel => exact ⟨j + 1, by omega, by go_num, hb2.setCell (by simp) _, (heap_setCell_other _ _ _ _ (by simp)).trans HB2.out, by rw [← upd_fl g nt j hjl]; exact part_set hjl HC2.out⟩
            case measure => simp [intOf]; omega
          · obtain rfl : j = 256 := by omega
            rw [fl_all] at HC2
            have HF : Hid (SetP s k0 nt ⟨false, Pg.turn nt g⟩ (k + 1)) := hid (.inr ⟨by omega, by omega, g, rfl, HE.out⟩)
            go_wp2_with (first | (guard_target =~ wpList _ _ _ (_ :: _) _ _; refine wpList_ld rfl rfl HC2.out rfl ?_) | (guard_target =~ wpList _ _ _ (_ :: _) _ _; refine wpList_st rfl rfl HB2.out rfl rfl ?_))
            exact bodyPost_ret (results_part2 rfl rfl (setRow_same HB2.out)) rfl ⟨_, k + 1, rfl, HF.out, Below.setRow hb2 (by simp) _⟩
      · have hgo : GoOn fr (s.data.toList.drop k) := by
          cases fr with
          | true => exact .inl rfl
          | false => exact .inr (by rw [ed]; exact fun e => hend ⟨rfl, Option.some.inj e⟩)
        have hfr : fr = true ∨ (fr = false ∧ ((s[k].toNat : Int) != 93) = true) := by
          cases fr with
          | true => exact .inl rfl
          | false => exact .inr ⟨rfl, by rw [bne_iff_ne]; exact fun e => hend ⟨rfl, (byte_iff s[k] 93).1 e⟩⟩
        clear hend ed
        rcases hfr with rfl | ⟨rfl, t93⟩
        all_goals
          go_wp2_with fail
          refine (begins_any s k _ (by omega) (by omega)).mono ?_
          rintro e w2 ⟨rfl, rfl⟩
          cases hcl : Pg.isCls (s.data.toList.drop k) with
          | true =>
            obtain ⟨X, hX⟩ : ∃ X, X = s.extract k s.size := ⟨_, rfl⟩
            have hXd : X.data.toList = s.data.toList.drop k := by rw [hX, ext_drop s k]
            have hXs : X.size = s.size - k := by rw [← size_data, hXd, List.length_drop, size_data]
            have HN := hid (named_any X w2 (by omega) (by rw [hXd]; exact hcl))
            have HCl := hid hcl
            have HX := hid hX
            have HXd := hid hXd
            clear hcl hX hXd
            go_wp2_with fail
            rw [← HX.out]
            refine HN.out.mono ?_
            rintro e w3 ⟨nm, n, rfl, hNP, rfl⟩
            rcases hNP with ⟨rfl, hrc⟩ | ⟨hn1, hn2, p, hlk, hrc⟩
            · have HE : Hid (Pg.loop true Pg.no (s.data.toList.drop k0) = none) := hid (by
                rw [HXd.out] at hrc
                rw [← HL.out, loopR_none hgo (by rw [itemR_cls HCl.out, hrc]; rfl)])
              clear hrc
              go_wp2_with (first | (guard_target =~ wpList _ _ _ (_ :: _) _ _; refine wpList_ld rfl rfl HC.out rfl ?_) | (guard_target =~ wpList _ _ _ (_ :: _) _ _; refine wpList_st rfl rfl HB.out rfl rfl ?_))
              exact bodyPost_ret (results_part2 rfl rfl (setRow_same HB.out)) rfl ⟨_, 0, rfl, .inl ⟨rfl, HE.out⟩, Below.setRow hb (by simp) _⟩
            · have HE : Hid (Pg.loop false (Pg.or2 g p) (s.data.toList.drop (k + n)) = Pg.loop true Pg.no (s.data.toList.drop k0)) := hid (by
                rw [HXd.out] at hrc
                rw [← HL.out, loopR_some hgo (by rw [itemR_cls HCl.out, hrc]; rfl), List.drop_drop])
              have HK := hid hlk
              have t0 : ((n : Int) == 0) = false := ine (by omega)
              clear hrc hlk
              go_wp2
              go_loopw [12] (fun i wr => ∃ j : Nat, j ≤ 256 ∧ i = .int .i64 j ∧ Below w.heap.size w wr ∧ wr.heap[w.heap.size]? = some (.cells (rpC ⟨false, Pg.no⟩) 130 (0, 0)) ∧ wr.heap[w.heap.size + 1]? = some (.cells (rpC ⟨false, Pg.or2 g (pk p j)⟩) 130 (0, 0))) (fun i _ => 256 - (intOf i).toNat)
              case atStart => exact ⟨0, by omega, rfl, hb, HB.out, by rw [pk_zero]; exact HC.out⟩
              case round =>
                obtain ⟨j, hj, rfl, hb2, hB2, hC2⟩ := hrel
                have HB2 := hid hB2
                have HC2 := hid hC2
                clear hB2 hC2 HB HC hb
                by_cases hjl : j < 256
                · have j0 : (0 : Int) ≤ (j : Int) := by omega
                  have j1 : (j : Int) < 256 := by omega
                  have hf := free_of_blk HC2.out (1 + j)
                  have e : Pg.or2 g (pk p j) (UInt8.ofNat j) = g (UInt8.ofNat j) := by
                    unfold Pg.or2 pk
                    rw [decide_eq_false (by rw [UInt8.toNat_ofNat']; omega), Bool.and_false, Bool.or_false]
                  have hc' : wr.cell? ⟨w.heap.size + 1, 1 + j, none⟩ = some (.bool (g (UInt8.ofNat j))) := by
                    rw [part_cell j hjl HC2.out]
                    show some (Value.bool (Pg.or2 g (pk p j) (UInt8.ofNat j))) = _
                    rw [e]
                  have HCC := hid (class_any nm j hjl wr)
                  have hcl : clsT nm.data.toList j = .tuple #[.bool (p (UInt8.ofNat j)), .bool true] := by unfold clsT; rw [HK.out]
                  rw [hcl] at HCC
                  clear e hcl
                  cases hgj : g (UInt8.ofNat j) with
                  | true =>
                    rw [hgj] at hc'
                    have HU := hid (upd_or g p j hjl true (by rw [hgj]; rfl))
                    clear hgj
                    go_wp2_with fail
                    refine HCC.out.mono ?_
                    rintro e w4 ⟨rfl, rfl⟩
                    go_wp2
                    go_roundw
                    case rel => exact ⟨j + 1, by omega, by go_num, hb2.setCell (by simp) _, (heap_setCell_other _ _ _ _ (by simp)).trans HB2.out, by rw [← HU.out]; exact part_set hjl HC2.out⟩
                    case measure => simp [intOf]; omega
                  | false =>
                    rw [hgj] at hc'
                    have HU := hid (upd_or g p j hjl (p (UInt8.ofNat j)) (by rw [hgj]; rfl))
                    clear hgj
                    go_wp2_with fail
                    refine HCC.out.mono ?_
                    rintro e w4 ⟨rfl, rfl⟩
                    go_wp2
                    go_roundw
                    case rel => exact ⟨j + 1, by omega, by go_num, hb2.setCell (by simp) _, (heap_setCell_other _ _ _ _ (by simp)).trans HB2.out, by rw [← HU.out]; exact part_set hjl HC2.out⟩
                    case measure => simp [intOf]; omega
                · obtain rfl : j = 256 := by omega
                  rw [pk_all] at HC2
                  go_wp2
                  go_roundw
                  case rel => exact ⟨k + n, false, Pg.or2 g p, by omega, by go_num, rfl, hb2, HB2.out, HC2.out, HE.out⟩
                  case measure => simp [intOf]; omega
          | false =>
            have HCl := hid hcl
            clear hcl
            go_wp2_with fail
            refine (lone_any s k _ (by omega) (by omega)).mono ?_
            rintro e w3 ⟨lo, n, rfl, hLP, rfl⟩
            rcases hLP with ⟨rfl, hrb⟩ | ⟨hn1, hn2, hn3, hrb⟩
            · have HE : Hid (Pg.loop true Pg.no (s.data.toList.drop k0) = none) := hid (by rw [← HL.out, loopR_none hgo (itemR_bad HCl.out hrb)])
              clear hrb
              go_wp2_with (first | (guard_target =~ wpList _ _ _ (_ :: _) _ _; refine wpList_ld rfl rfl HC.out rfl ?_) | (guard_target =~ wpList _ _ _ (_ :: _) _ _; refine wpList_st rfl rfl HB.out rfl rfl ?_))
              exact bodyPost_ret (results_part2 rfl rfl (setRow_same HB.out)) rfl ⟨_, 0, rfl, .inl ⟨rfl, HE.out⟩, Below.setRow hb (by simp) _⟩
            · have HRb := hid hrb
              clear hrb
              have t0 : ((n : Int) == 0) = false := ine (by omega)
              have hlo := lo.toNat_lt
              by_cases h1 : k + n + 1 < s.size
              · have i1 : (k : Int) + (n : Int) + 1 < (s.size : Int) := by omega
                have i2 : (k : Int) + (n : Int) < (s.size : Int) := by omega
                have hr2 := rngR_two s (k + n) h1
                by_cases ha : s[k + n] = 45
                · have ta := byte_eq ha (m := 45) rfl
                  by_cases hbk : s[k + n + 1] = 93
                  · have tb : ((s[k + n + 1].toNat : Int) != 93) = false := by rw [hbk]; rfl
                    have HE : Hid (Pg.loop false (Pg.addR g lo lo) (s.data.toList.drop (k + n)) = Pg.loop true Pg.no (s.data.toList.drop k0)) := hid (by
                      rw [← HL.out, loopR_some hgo (itemR_lone HCl.out HRb.out (by rw [hr2, decide_eq_true hbk]; simp))])
                    clear hr2 ha hbk
                    go_wp2
                    go_loopw [20] (fun i wr => ∃ j : Nat, lo.toNat ≤ j ∧ j ≤ 256 ∧ (j = lo.toNat ∨ j ≤ lo.toNat + 1) ∧ i = .int .i64 j ∧ Below w.heap.size w wr ∧ wr.heap[w.heap.size]? = some (.cells (rpC ⟨false, Pg.no⟩) 130 (0, 0)) ∧ wr.heap[w.heap.size + 1]? = some (.cells (rpC ⟨false, Pg.or2 g (rg lo.toNat j)⟩) 130 (0, 0))) (fun i _ => 256 - (intOf i).toNat)
                    case atStart => exact ⟨lo.toNat, Nat.le_refl _, by omega, .inl rfl, rfl, hb, HB.out, by rw [rg_none]; exact HC.out⟩
                    case round =>
                      obtain ⟨j, hj1, hj2, hj3, rfl, hb2, hB2, hC2⟩ := hrel
                      have HB2 := hid hB2
                      have HC2 := hid hC2
                      clear hB2 hC2 HB HC hb
                      by_cases hjl : j ≤ lo.toNat
                      · have j0 : (0 : Int) ≤ (j : Int) := by omega
                        have j1 : (j : Int) < 256 := by omega
                        have hc := part_cell j (by omega) HC2.out
                        have hf := free_of_blk HC2.out (1 + j)
                        go_wp2
                        go_roundw
                        case rel => exact ⟨j + 1, by omega, by omega, by omega, by go_num, hb2.setCell (by simp) _, (heap_setCell_other _ _ _ _ (by simp)).trans HB2.out, by rw [← upd_rg g lo.toNat j hj1]; exact part_set (by omega) HC2.out⟩
                        case measure => simp [intOf]; omega
                      · have hF : Pg.or2 g (rg lo.toNat j) = Pg.addR g lo lo := funext fun c => rg_all g lo lo c j (by omega) (by omega)
                        rw [hF] at HC2
                        clear hF
                        go_wp2
                        go_roundw
                        case rel => exact ⟨k + n, false, Pg.addR g lo lo, by omega, by go_num, rfl, hb2, HB2.out, HC2.out, HE.out⟩
                        case measure => simp [intOf]; omega
                  · have tb : ((s[k + n + 1].toNat : Int) != 93) = true := by rw [bne_iff_ne]; exact fun e => hbk ((byte_iff s[k + n + 1] 93).1 e)
                    rw [decide_eq_true ha, decide_eq_false hbk, Bool.true_and, Bool.not_false, Bool.true_and] at hr2
                    have HR2 := hid hr2
                    clear hr2 ha hbk
                    go_wp2_with fail
                    refine (begins_any s (k + n + 1) _ (by omega) (by omega)).mono ?_
                    rintro e w4 ⟨rfl, rfl⟩
                    cases hcl2 : Pg.isCls (s.data.toList.drop (k + n + 1)) with
                    | true =>
                      have HE : Hid (Pg.loop false (Pg.addR g lo lo) (s.data.toList.drop (k + n)) = Pg.loop true Pg.no (s.data.toList.drop k0)) := hid (by
                        rw [← HL.out, loopR_some hgo (itemR_lone HCl.out HRb.out (by rw [HR2.out, hcl2]; rfl))])
                      clear hcl2
                      go_wp2
                      go_loopw [20] (fun i wr => ∃ j : Nat, lo.toNat ≤ j ∧ j ≤ 256 ∧ (j = lo.toNat ∨ j ≤ lo.toNat + 1) ∧ i = .int .i64 j ∧ Below w.heap.size w wr ∧ wr.heap[w.heap.size]? = some (.cells (rpC ⟨false, Pg.no⟩) 130 (0, 0)) ∧ wr.heap[w.heap.size + 1]? = some (.cells (rpC ⟨false, Pg.or2 g (rg lo.toNat j)⟩) 130 (0, 0))) (fun i _ => 256 - (intOf i).toNat)
                      case atStart => exact ⟨lo.toNat, Nat.le_refl _, by omega, .inl rfl, rfl, hb, HB.out, by rw [rg_none]; exact HC.out⟩
                      case round =>
                        obtain ⟨j, hj1, hj2, hj3, rfl, hb2, hB2, hC2⟩ := hrel
                        have HB2 := hid hB2
                        have HC2 := hid hC2
                        clear hB2 hC2 HB HC hb
                        by_cases hjl : j ≤ lo.toNat
                        · have j0 : (0 : Int) ≤ (j : Int) := by omega
                          have j1 : (j : Int) < 256 := by omega
                          have hc := part_cell j (by omega) HC2.out
                          have hf := free_of_blk HC2.out (1 + j)
                          go_wp2
                          go_roundw
                          case rel => exact ⟨j + 1, by omega, by omega, by omega, by go_num, hb2.setCell (by simp) _, (heap_setCell_other _ _ _ _ (by simp)).trans HB2.out, by rw [← upd_rg g lo.toNat j hj1]; exact part_set (by omega) HC2.out⟩
                          case measure => simp [intOf]; omega
                        · have hF : Pg.or2 g (rg lo.toNat j) = Pg.addR g lo lo := funext fun c => rg_all g lo lo c j (by omega) (by omega)
                          rw [hF] at HC2
                          clear hF
                          go_wp2
                          go_roundw
                          case rel => exact ⟨k + n, false, Pg.addR g lo lo, by omega, by go_num, rfl, hb2, HB2.out, HC2.out, HE.out⟩
                          case measure => simp [intOf]; omega
                    | false =>
                      have hr3 : Pg.rngR (s.data.toList.drop (k + n)) = true := by rw [HR2.out, hcl2]; rfl
                      have HR3 := hid hr3
                      clear hr3 hcl2
                      go_wp2_with fail
                      refine (lone_any s (k + n + 1) _ (by omega) (by omega)).mono ?_
                      rintro e w5 ⟨hi, m, rfl, hLP2, rfl⟩
                      rcases hLP2 with ⟨rfl, hrb2⟩ | ⟨hm1, hm2, hm3, hrb2⟩
                      · have HE : Hid (Pg.loop true Pg.no (s.data.toList.drop k0) = none) := hid (by
                          rw [← HL.out, loopR_none hgo (itemR_rng0 HCl.out HRb.out HR3.out (by rw [List.drop_drop]; exact hrb2))])
                        clear hrb2
                        go_wp2_with (first | (guard_target =~ wpList _ _ _ (_ :: _) _ _; refine wpList_ld rfl rfl HC.out rfl ?_) | (guard_target =~ wpList _ _ _ (_ :: _) _ _; refine wpList_st rfl rfl HB.out rfl rfl ?_))
                        exact bodyPost_ret (results_part2 rfl rfl (setRow_same HB.out)) rfl ⟨_, 0, rfl, .inl ⟨rfl, HE.out⟩, Below.setRow hb (by simp) _⟩
                      · have HE : Hid (Pg.loop false (Pg.addR g lo hi) (s.data.toList.drop (k + n + 1 + m)) = Pg.loop true Pg.no (s.data.toList.drop k0)) := hid (by
                          rw [← HL.out, loopR_some hgo (itemR_rng HCl.out HRb.out HR3.out (by rw [List.drop_drop]; exact hrb2))])
                        have t1 : ((m : Int) == 0) = false := ine (by omega)
                        have hhi := hi.toNat_lt
                        clear hrb2
                        go_wp2
                        go_loopw [20] (fun i wr => ∃ j : Nat, lo.toNat ≤ j ∧ j ≤ 256 ∧ (j = lo.toNat ∨ j ≤ hi.toNat + 1) ∧ i = .int .i64 j ∧ Below w.heap.size w wr ∧ wr.heap[w.heap.size]? = some (.cells (rpC ⟨false, Pg.no⟩) 130 (0, 0)) ∧ wr.heap[w.heap.size + 1]? = some (.cells (rpC ⟨false, Pg.or2 g (rg lo.toNat j)⟩) 130 (0, 0))) (fun i _ => 256 - (intOf i).toNat)
                        case atStart => exact ⟨lo.toNat, Nat.le_refl _, by omega, .inl rfl, rfl, hb, HB.out, by rw [rg_none]; exact HC.out⟩
                        case round =>
                          obtain ⟨j, hj1, hj2, hj3, rfl, hb2, hB2, hC2⟩ := hrel
                          have HB2 := hid hB2
                          have HC2 := hid hC2
                          clear hB2 hC2 HB HC hb
                          by_cases hjl : j ≤ hi.toNat
                          · have j0 : (0 : Int) ≤ (j : Int) := by omega
                            have j1 : (j : Int) < 256 := by omega
                            have hc := part_cell j (by omega) HC2.out
                            have hf := free_of_blk HC2.out (1 + j)
                            go_wp2
                            go_roundw
                            case rel => exact ⟨j + 1, by omega, by omega, by omega, by go_num, hb2.setCell (by simp) _, (heap_setCell_other _ _ _ _ (by simp)).trans HB2.out, by rw [← upd_rg g lo.toNat j hj1]; exact part_set (by omega) HC2.out⟩
                            case measure => simp [intOf]; omega
                          · have hF : Pg.or2 g (rg lo.toNat j) = Pg.addR g lo hi := funext fun c => rg_all g lo hi c j (by omega) (by omega)
                            rw [hF] at HC2
                            clear hF
                            go_wp2
                            go_roundw
                            case rel => exact ⟨k + n + 1 + m, false, Pg.addR g lo hi, by omega, by go_num, rfl, hb2, HB2.out, HC2.out, HE.out⟩
                            case measure => simp [intOf]; omega
                · have ta := byte_ne ha (m := 45) rfl
                  have HE : Hid (Pg.loop false (Pg.addR g lo lo) (s.data.toList.drop (k + n)) = Pg.loop true Pg.no (s.data.toList.drop k0)) := hid (by
                    rw [← HL.out, loopR_some hgo (itemR_lone HCl.out HRb.out (by rw [hr2, decide_eq_false ha]; rfl))])
                  clear hr2 ha
                  go_wp2
                  go_loopw [20] (fun i wr => ∃ j : Nat, lo.toNat ≤ j ∧ j ≤ 256 ∧ (j = lo.toNat ∨ j ≤ lo.toNat + 1) ∧ i = .int .i64 j ∧ Below w.heap.size w wr ∧ wr.heap[w.heap.size]? = some (.cells (rpC ⟨false, Pg.no⟩) 130 (0, 0)) ∧ wr.heap[w.heap.size + 1]? = some (.cells (rpC ⟨false, Pg.or2 g (rg lo.toNat j)⟩) 130 (0, 0))) (fun i _ => 256 - (intOf i).toNat)
                  case atStart => exact ⟨lo.toNat, Nat.le_refl _, by omega, .inl rfl, rfl, hb, HB.out, by rw [rg_none]; exact HC.out⟩
                  case round =>
                    obtain ⟨j, hj1, hj2, hj3, rfl, hb2, hB2, hC2⟩ := hrel
                    have HB2 := hid hB2
                    have HC2 := hid hC2
                    clear hB2 hC2 HB HC hb
                    by_cases hjl : j ≤ lo.toNat
                    · have j0 : (0 : Int) ≤ (j : Int) := by omega
                      have j1 : (j : Int) < 256 := by omega
                      have hc := part_cell j (by omega) HC2.out
                      have hf := free_of_blk HC2.out (1 + j)
                      go_wp2
                      go_roundw
                      case rel => exact ⟨j + 1, by omega, by omega, by omega, by go_num, hb2.setCell (by simp) _, (heap_setCell_other _ _ _ _ (by simp)).trans HB2.out, by rw [← upd_rg g lo.toNat j hj1]; exact part_set (by omega) HC2.out⟩
                      case measure => simp [intOf]; omega
                    · have hF : Pg.or2 g (rg lo.toNat j) = Pg.addR g lo lo := funext fun c => rg_all g lo lo c j (by omega) (by omega)
                      rw [hF] at HC2
                      clear hF
                      go_wp2
                      go_roundw
                      case rel => exact ⟨k + n, false, Pg.addR g lo lo, by omega, by go_num, rfl, hb2, HB2.out, HC2.out, HE.out⟩
                      case measure => simp [intOf]; omega
              · have i1 : ¬ (k : Int) + (n : Int) + 1 < (s.size : Int) := by omega
                have HE : Hid (Pg.loop false (Pg.addR g lo lo) (s.data.toList.drop (k + n)) = Pg.loop true Pg.no (s.data.toList.drop k0)) := hid (by
                  rw [← HL.out, loopR_some hgo (itemR_lone HCl.out HRb.out (rngR_short s (k + n) (by omega)))])
                go_wp2
                go_loopw [20] (fun i wr => ∃ j : Nat, lo.toNat ≤ j ∧ j ≤ 256 ∧ (j = lo.toNat ∨ j ≤ lo.toNat + 1) ∧ i = .int .i64 j ∧ Below w.heap.size w wr ∧ wr.heap[w.heap.size]? = some (.cells (rpC ⟨false, Pg.no⟩) 130 (0, 0)) ∧ wr.heap[w.heap.size + 1]? = some (.cells (rpC ⟨false, Pg.or2 g (rg lo.toNat j)⟩) 130 (0, 0))) (fun i _ => 256 - (intOf i).toNat)
                case atStart => exact ⟨lo.toNat, Nat.le_refl _, by omega, .inl rfl, rfl, hb, HB.out, by rw [rg_none]; exact HC.out⟩
                case round =>
                  obtain ⟨j, hj1, hj2, hj3, rfl, hb2, hB2, hC2⟩ := hrel
                  have HB2 := hid hB2
                  have HC2 := hid hC2
                  clear hB2 hC2 HB HC hb
                  by_cases hjl : j ≤ lo.toNat
                  · have j0 : (0 : Int) ≤ (j : Int) := by omega
                    have j1 : (j : Int) < 256 := by omega
                    have hc := part_cell j (by omega) HC2.out
                    have hf := free_of_blk HC2.out (1 + j)
                    go_wp2
                    go_roundw
                    case rel => exact ⟨j + 1, by omega, by omega, by omega, by go_num, hb2.setCell (by simp) _, (heap_setCell_other _ _ _ _ (by simp)).trans HB2.out, by rw [← upd_rg g lo.toNat j hj1]; exact part_set (by omega) HC2.out⟩
                    case measure => simp [intOf]; omega
                  · have hF : Pg.or2 g (rg lo.toNat j) = Pg.addR g lo lo := funext fun c => rg_all g lo lo c j (by omega) (by omega)
                    rw [hF] at HC2
                    clear hF
                    go_wp2
                    go_roundw
                    case rel => exact ⟨k + n, false, Pg.addR g lo lo, by omega, by go_num, rfl, hb2, HB2.out, HC2.out, HE.out⟩
                    case measure => simp [intOf]; omega
    · have i0 : ¬ (k : Int) < (s.size : Int) := by omega
      have HN : Hid (Pg.loop true Pg.no (s.data.toList.drop k0) = none) := hid (by rw [← HL.out, drop_past s k (by omega)]; exact Pg.loop_nil _ _)
      go_wp2_with (first | (guard_target =~ wpList _ _ _ (_ :: _) _ _; refine wpList_ld rfl rfl HC.out rfl ?_) | (guard_target =~ wpList _ _ _ (_ :: _) _ _; refine wpList_st rfl rfl HB.out rfl rfl ?_))
      exact bodyPost_ret (results_part2 rfl rfl (setRow_same HB.out)) rfl ⟨_, 0, rfl, .inl ⟨rfl, HN.out⟩, Below.setRow hb (by simp) _⟩
end Go.Proofs.YtfjhjhjdneihbaaGreatDoor
