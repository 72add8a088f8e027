/-
  The walk of Match.
-/
import Derived.Test.YtfjhjhjdneihbaaGreatDoorGi
namespace Go.Proofs.YtfjhjhjdneihbaaGreatDoor
open Go.RowKit

/-- three counts as one, the first ahead of the second ahead of the third -/
def ms (N K x y z : Nat) : Nat := x * ((N + 2) * (K + 2)) + y * (K + 2) + z
theorem ms1 {N K x y z x' y' z' : Nat} (h : x' < x) (hy : y' ≤ N + 1) (hz : z' ≤ K + 1) : ms N K x' y' z' < ms N K x y z := by
  unfold ms
  have h1 : (x' + 1) * ((N + 2) * (K + 2)) ≤ x * ((N + 2) * (K + 2)) := Nat.mul_le_mul_right _ h
  have h2 : y' * (K + 2) ≤ (N + 1) * (K + 2) := Nat.mul_le_mul_right _ hy
  have h3 : (N + 2) * (K + 2) = (N + 1) * (K + 2) + (K + 2) := by rw [show N + 2 = (N + 1) + 1 by omega, Nat.succ_mul]
  have h4 : (x' + 1) * ((N + 2) * (K + 2)) = x' * ((N + 2) * (K + 2)) + (N + 2) * (K + 2) := Nat.succ_mul _ _
  omega
theorem ms2 {N K x y z y' z' : Nat} (h : y' < y) (hz : z' ≤ K + 1) : ms N K x y' z' < ms N K x y z := by
  unfold ms
  have h1 : (y' + 1) * (K + 2) ≤ y * (K + 2) := Nat.mul_le_mul_right _ h
  have h4 : (y' + 1) * (K + 2) = y' * (K + 2) + (K + 2) := Nat.succ_mul _ _
  omega
theorem ms3 {N K x y z z' : Nat} (h : z' < z) : ms N K x y z' < ms N K x y z := by
  unfold ms
  omega
/-- the part behind the last star, the byte where it was tried, as the program counts them -/
def agV : Option (Nat × Nat) → Int
  | none => -1
  | some (ag, _) => ag
def frV : Option (Nat × Nat) → Nat
  | none => 0
  | some (_, fr) => fr
theorem st_ag {P : List Pg.Pt} {N : List UInt8} {at' i : Nat} {st : Option (Nat × Nat)} (h : Pg.St P N at' i st) : -1 ≤ agV st ∧ agV st ≤ at' ∧ frV st ≤ i := by
  cases st with
  | none => exact ⟨by simp [agV], by simp only [agV]; omega, by simp [frV]⟩
  | some x =>
    obtain ⟨ag, fr⟩ := x
    obtain ⟨h1, h2, _⟩ := h.2.2.2 ag fr rfl
    exact ⟨by simp only [agV]; omega, by simp only [agV]; omega, h2⟩
theorem has_drew {b o : Nat} {f : UInt8 → Bool} {c : UInt8} {w : World} (h : FlAt w b o f) (m : Nat) :
    Calls Tryz.prog 48 #[.pointer (some ⟨b, o, none⟩), .int .u8 c.toNat] (w.drewN m) fun e w' => e = .returned (.bool (f c)) ∧ w' = w.drewN m :=
  has_any b o f c (w.drewN m) (fun j hj => h j hj)
/-- at a place of a pattern -/
theorem glob_part {w : World} {b : Nat} {P : List Pg.Pt} {j : Nat} {p : Pg.Pt} (h : ∀ (j : Nat) p, P[j]? = some p → PtAt w b (j * 5) p) (hj : P[j]? = some p) : FlAt w b (j * 5) p.set ∧ w.cell? ⟨b, j * 5 + 4, none⟩ = some (.bool p.star) := h j p hj

set_option maxHeartbeats 8000000 in
set_option maxRecDepth 100000 in
theorem match_some (bg b c : Nat) (P : List Pg.Pt) (n : ByteArray) (w : World) (hcell : w.cell? ⟨bg, 0, none⟩ = some (.slice (some ⟨b, 0, none⟩) P.length c)) (_hc : P.length ≤ c) (hP : ∀ (j : Nat) p, P[j]? = some p → PtAt w b (j * 5) p) (hn : n.size ≤ 140737488355328) (hPl : P.length ≤ 140737488355328) :
    Calls Tryz.prog 26 #[.pointer (some ⟨bg, 0, none⟩), .string n] w fun e w' => e = .returned (.bool (Pg.mt P n.data.toList)) ∧ ∃ q, w' = w.drewN q := by
  have HP := hid hP
  clear hP
  go_enter Tryz.func26, Tryz.ntmps26
  go_wp2
  go_loopw [5, 6, 7, 8] (fun t5 t6 t7 t8 wr => ∃ (at' i : Nat) (st : Option (Nat × Nat)), t5 = .int .i64 at' ∧ t6 = .int .i64 i ∧ t7 = .int .i64 (agV st) ∧ t8 = .int .i64 (frV st) ∧ Pg.St P n.data.toList at' i st ∧ ∃ q, wr = w.drewN q) (fun t5 _ t7 t8 _ => ms n.size P.length (P.length + 1 - (intOf t7 + 1).toNat) (n.size + 1 - (intOf t8).toNat) (P.length + 1 - (intOf t5).toNat))
  case atStart => exact ⟨0, 0, none, rfl, rfl, rfl, rfl, Pg.St.start _ _, 0, rfl⟩
  case round =>
    obtain ⟨at', i, st, rfl, rfl, rfl, rfl, hS, q, rfl⟩ := hrel
    have hS1 := hS.1
    have hS2 := hS.2.1
    rw [size_data] at hS2
    obtain ⟨ha1, ha2, ha3⟩ := st_ag hS
    have HS := hid hS
    clear hS
    generalize hW : w.drewN q = W
    have HW := hid hW
    have hcell' : W.cell? ⟨bg, 0, none⟩ = some (.slice (some ⟨b, 0, none⟩) P.length c) := by rw [← hW]; exact hcell
    have HP' : Hid (∀ (j : Nat) p, P[j]? = some p → PtAt W b (j * 5) p) := hid (by rw [← hW]; exact HP.out)
    clear hW
    by_cases hlt : i < n.size
    · have hci := at_data n i hlt
      have HCi := hid hci
      clear hci
      by_cases hat : at' < P.length
      · obtain ⟨p, hp⟩ : ∃ p, P[at']? = some p := ⟨_, List.getElem?_eq_getElem hat⟩
        obtain ⟨hfl, hst⟩ := glob_part HP'.out hp
        have HPp := hid hp
        have HFl := hid hfl
        clear hp hfl
        cases hs : p.star with
        | true =>
          rw [hs] at hst
          have HS2 := hid (HS.out.many HPp.out hs)
          clear hs
          go_wp2
          go_roundw
          case rel => exact ⟨at' + 1, i, some (at' + 1, i), by go_num, rfl, by simp only [agV]; go_num, rfl, HS2.out, q, HW.out.symm⟩
          case measure =>
            simp only [intOf]
            refine ms1 ?_ ?_ ?_ <;> omega
        | false =>
          rw [hs] at hst
          have hi0 : (0 : Int) ≤ (i : Int) := by omega
          have hi1 : (i : Int) < (n.size : Int) := by omega
          have ht0 : (0 : Int) ≤ (at' : Int) := by omega
          have ht1 : (at' : Int) < (P.length : Int) := by omega
          have hd : decide ((at' : Int) < (P.length : Int)) = true := decide_eq_true ht1
          cases hh : p.set n[i] with
          | true =>
            have HS2 := hid (HS.out.has HPp.out hs HCi.out hh)
            have HH := hid hh
            clear hs hh
            go_wp2
            go_quiet ((go_at_call 48; exact Calls.quiet_of_same (has_drew HFl.out _)))
            rw [HH.out]
            go_wp2
            go_roundw
            case rel => exact ⟨at' + 1, i + 1, st, by go_num, by go_num, rfl, rfl, HS2.out, _, by rw [← HW.out]; exact World.drewN_drewN _ _ _⟩
            case measure =>
              simp only [intOf]
              refine ms3 ?_ <;> omega
          | false =>
            have HNo : Hid (∀ p, P[at']? = some p → p.star = false ∧ p.set n[i] = false) := hid (fun p' hp' => by
              rw [HPp.out] at hp'
              cases hp'
              exact ⟨hs, hh⟩)
            have HH := hid hh
            clear hs hh
            cases st with
            | none =>
              have HF := hid (HS.out.fails HCi.out HNo.out)
              simp only [agV, frV]
              go_wp2
              go_quiet ((go_at_call 48; exact Calls.quiet_of_same (has_drew HFl.out _)))
              rw [HH.out]
              go_wp2
              go_ret
              exact ⟨ret_bool HF.out.symm, _, by rw [← HW.out]; exact World.drewN_drewN _ _ _⟩
            | some x =>
              obtain ⟨ag, fr⟩ := x
              have HS2 := hid (HS.out.again HCi.out HNo.out)
              have hag := HS2.out.1
              simp only [agV, frV] at ha1 ha2 ha3 ⊢
              go_wp2
              go_quiet ((go_at_call 48; exact Calls.quiet_of_same (has_drew HFl.out _)))
              rw [HH.out]
              go_wp2
              go_roundw
              case rel => exact ⟨ag, fr + 1, some (ag, fr + 1), rfl, by go_num, rfl, by go_num, HS2.out, _, by rw [← HW.out]; exact World.drewN_drewN _ _ _⟩
              case measure =>
                simp only [intOf]
                refine ms2 ?_ ?_ <;> omega
      · have hd : decide ((at' : Int) < (P.length : Int)) = false := decide_eq_false (by omega)
        have HNo : Hid (∀ p, P[at']? = some p → p.star = false ∧ p.set n[i] = false) := hid (fun p' hp' => by
          rw [List.getElem?_eq_none (by omega)] at hp'
          cases hp')
        cases st with
        | none =>
          have HF := hid (HS.out.fails HCi.out HNo.out)
          simp only [agV, frV]
          go_wp2
          go_quiet (fail)
          go_wp2
          go_ret
          exact ⟨ret_bool HF.out.symm, _, by rw [← HW.out]; exact World.drewN_drewN _ _ _⟩
        | some x =>
          obtain ⟨ag, fr⟩ := x
          have HS2 := hid (HS.out.again HCi.out HNo.out)
          have hag := HS2.out.1
          simp only [agV, frV] at ha1 ha2 ha3 ⊢
          go_wp2
          go_quiet (fail)
          go_wp2
          go_roundw
          case rel => exact ⟨ag, fr + 1, some (ag, fr + 1), rfl, by go_num, rfl, by go_num, HS2.out, _, by rw [← HW.out]; exact World.drewN_drewN _ _ _⟩
          case measure =>
            simp only [intOf]
            refine ms2 ?_ ?_ <;> omega
    · have HD := hid (HS.out.done (by rw [size_data]; omega))
      clear ha1 ha2 ha3
      go_wp2
      go_loopw [5] (fun t5 wr => ∃ k : Nat, k ≤ P.length ∧ t5 = .int .i64 k ∧ wr = W ∧ Hid (Pg.mt P n.data.toList = Pg.mt (P.drop k) [])) (fun t5 _ => P.length - (intOf t5).toNat)
      case atStart => exact ⟨at', hS1, rfl, rfl, HD⟩
      case round =>
        obtain ⟨k, hk, rfl, rfl, HK⟩ := hrel
        by_cases hkl : k < P.length
        · obtain ⟨p, hp⟩ : ∃ p, P[k]? = some p := ⟨_, List.getElem?_eq_getElem hkl⟩
          obtain ⟨hfl, hst⟩ := glob_part HP'.out hp
          have HPp := hid hp
          clear hp hfl
          cases hs : p.star with
          | true =>
            rw [hs] at hst
            have HK2 := hid (HK.out.trans (Pg.mt_end_many HPp.out hs))
            clear hs
            go_wp2
            go_roundw
            case rel => exact ⟨k + 1, by omega, by go_num, trivial, HK2⟩
            case measure => simp only [intOf]; omega
          | false =>
            rw [hs] at hst
            have HK2 := hid (HK.out.trans (Pg.mt_end_one HPp.out hs))
            have t1 : ((k : Int) == (P.length : Int)) = false := ine (by omega)
            clear hs
            go_wp2
            go_ret
            exact ⟨ret_bool HK2.out.symm, q, HW.out.symm⟩
        · have HK2 := hid (HK.out.trans (Pg.mt_end (by omega)))
          have t1 : ((k : Int) == (P.length : Int)) = true := ieq (by omega)
          go_wp2
          go_ret
          exact ⟨ret_bool HK2.out.symm, q, HW.out.symm⟩
set_option maxHeartbeats 4000000 in
set_option maxRecDepth 100000 in
theorem match_nil (bg c : Nat) (a : Option Addr) (n : ByteArray) (w : World) (hcell : w.cell? ⟨bg, 0, none⟩ = some (.slice a 0 c)) (hn : n.size ≤ 140737488355328) :
    Calls Tryz.prog 26 #[.pointer (some ⟨bg, 0, none⟩), .string n] w fun e w' => e = .returned (.bool (Pg.mt [] n.data.toList)) ∧ ∃ q, w' = w.drewN q := by
  by_cases h0 : n.size = 0
  · have HF : Hid (true = Pg.mt [] n.data.toList) := hid (by rw [nil_data n h0]; rfl)
    go_enter Tryz.func26, Tryz.ntmps26
    go_wp2
    refine wp_loop_rounds 1 ?_
    rw [rounds_succ]
    go_wp2
    refine wp_loop_rounds 1 ?_
    rw [rounds_succ]
    go_wp2
    go_ret
    exact ⟨ret_bool HF.out, 0, rfl⟩
  · have HF : Hid (false = Pg.mt [] n.data.toList) := hid (by
      rw [Pg.mt_nil]
      cases hl : n.data.toList with
      | nil => exact absurd (data_nil n hl) h0
      | cons _ _ => rfl)
    have h1 : (0 : Int) < (n.size : Int) := by omega
    go_enter Tryz.func26, Tryz.ntmps26
    go_wp2
    refine wp_loop_rounds 1 ?_
    rw [rounds_succ]
    go_wp2
    go_quiet (fail)
    go_wp2
    go_ret
    exact ⟨ret_bool HF.out, _, rfl⟩
theorem match_any {bg : Nat} {P : List Pg.Pt} (n : ByteArray) {w : World} (h : GlobAt w bg P) (hn : n.size ≤ 140737488355328) (hP : P.length ≤ 140737488355328) :
    Calls Tryz.prog 26 #[.pointer (some ⟨bg, 0, none⟩), .string n] w fun e w' => e = .returned (.bool (Pg.mt P n.data.toList)) ∧ Below w.heap.size w w' := by
  obtain ⟨a, c, h1, h2, h3⟩ := h
  rcases h3 with rfl | ⟨b, rfl, _, h3⟩
  · refine (match_nil bg c a n w h1 hn).mono ?_
    rintro e w' ⟨rfl, q, rfl⟩
    exact ⟨rfl, below_drewN (Below.refl _ _) q⟩
  · refine (match_some bg b c P n w h1 h2 h3 hn hP).mono ?_
    rintro e w' ⟨rfl, q, rfl⟩
    exact ⟨rfl, below_drewN (Below.refl _ _) q⟩
theorem comp_len : ∀ (k : Nat) (t : List UInt8) (P : List Pg.Pt), t.length ≤ k → Pg.comp t = some P → P.length ≤ t.length
  | _, [], P, _, h => by rw [Pg.comp_nil] at h; injection h with h; subst h; simp
  | 0, c :: t, P, hk, _ => by simp at hk
  | k + 1, c :: t, P, hk, h => by
    rw [Pg.comp_eq _ (by simp)] at h
    cases hp : Pg.rp (c :: t) with
    | none => rw [hp] at h; cases h
    | some x =>
      obtain ⟨p, r⟩ := x
      rw [hp] at h
      simp only at h
      have hl := Pg.rp_len hp
      cases hr : Pg.comp r with
      | none => rw [hr] at h; cases h
      | some Q =>
        rw [hr] at h
        injection h with h; subst h
        have := comp_len k r Q (by omega) hr
        simp only [List.length_cons] at hl ⊢
        omega
theorem cmp_some {t : List UInt8} {P : List Pg.Pt} (h : cmp t = some P) : t.length ≤ 1024 ∧ Pg.comp t = some P ∧ P.length ≤ 1024 := by
  unfold cmp at h
  split at h
  · cases h
  · next hl =>
    have := comp_len _ t P (Nat.le_refl _) h
    exact ⟨by omega, h, by omega⟩
end Go.Proofs.YtfjhjhjdneihbaaGreatDoor
