/-
  The walk of the document's Strip.
-/
import Derived.Test.YtmlgggnjghkojaaDoorR2
namespace Go.Proofs.YtmlgggnjghkojaaDoor
open Go.RowKit

def strLen : Value → Nat
  | .string c => c.size
  | _ => 0
theorem ext_size (c : ByteArray) (k : Nat) (h : k ≤ c.size) : (c.extract 0 k).size = k := by
  rw [← size_data, Lib.extract_from_zero, List.length_take, size_data]; omega
theorem ext_size' (c : ByteArray) (k : Nat) : (c.extract k c.size).size = c.size - k := by
  rw [← size_data, Lib.extract_to_end, List.length_drop, size_data]

set_option maxHeartbeats 1000000 in
theorem refStrip_low (s : ByteArray) (n : Int) (w : World) (h : n < -1) :
    Calls Tryd.prog 13 #[.string s, .int .i64 n] w fun e w' => e = .returned (.tuple #[.string ⟨(Pp.strip s.data.toList n).1.toArray⟩, .int .i64 (Pp.strip s.data.toList n).2]) ∧ w' = w := by
  have HP := hid (strip_low (l := s.data.toList) h)
  go_enter Tryd.func13, Tryd.ntmps13
  go_wp2
  go_ret2
  exact ⟨by rw [HP.out]; rfl, rfl⟩

set_option maxHeartbeats 2000000 in
set_option maxRecDepth 100000 in
theorem refStrip_last (s : ByteArray) (w : World) (hs : s.size < 4611686018427387904) :
    Calls Tryd.prog 13 #[.string s, .int .i64 (-1)] w fun e w' => e = .returned (.tuple #[.string ⟨(Pp.strip s.data.toList (-1)).1.toArray⟩, .int .i64 (Pp.strip s.data.toList (-1)).2]) ∧ w' = w := by
  obtain ⟨G, hG⟩ : ∃ G : ByteArray, G = ⟨(Pp.base (Pp.trimR s.data.toList)).toArray⟩ := ⟨_, rfl⟩
  have HG := hid hG
  clear hG
  go_enter Tryd.func13, Tryd.ntmps13
  go_wp2
  go_loop [0] (fun a => ∃ c : ByteArray, a = .string c ∧ c.size ≤ s.size ∧ Hid (Pp.trimR c.data.toList = Pp.trimR s.data.toList)) strLen
  case atStart => exact ⟨s, rfl, Nat.le_refl _, (rfl : Pp.trimR s.data.toList = _)⟩
  case round =>
    obtain ⟨c, rfl, hc, HT⟩ := hrel
    have fin : Hid (Pp.trimR c.data.toList = c.data.toList) → Calls Tryd.prog 26 #[.string c] w fun e w' => e = .returned (.string G) ∧ w' = w := fun h => by
      rw [HG.out, ← HT.out, h.out]
      exact refBase_any c w (by omega)
    have FIN := hid fin
    clear fin
    have HGN : Hid (G.size = 0 → Pp.strip s.data.toList (-1) = ([], 32)) := hid fun h => by rw [strip_last, if_pos (list_nil HG.out h)]
    have HGY : Hid (G.size ≠ 0 → Pp.strip s.data.toList (-1) = (Pp.base (Pp.trimR s.data.toList), 0)) := hid fun h => by rw [strip_last, if_neg (list_ne HG.out h)]
    by_cases h0 : 0 < c.size
    · have hidx : (((c.size : Int) - 1)).toNat = c.size - 1 := by omega
      by_cases hl : c[c.size - 1]'(by omega) = 47
      · have HE : Hid (Pp.trimR (c.data.toList.take (c.size - 1)) = Pp.trimR s.data.toList) := hid (by rw [trimR_step c h0 hl]; exact HT.out)
        have e1 : (((c[c.size - 1]'(by omega)).toNat : Int) == 47) = true := beq_iff_eq.2 ((slash_iff _).2 hl)
        have hcast : ((c.size - 1 : Nat) : Int) = (c.size : Int) - 1 := by omega
        clear hl FIN
        go_wp2
        go_round
        case rel => exact ⟨_, rfl, by rw [ext_size _ _ (by omega)]; omega, hid (by rw [Lib.extract_from_zero]; exact HE.out)⟩
        case measure => show (c.extract 0 (c.size - 1)).size < c.size; rw [ext_size _ _ (by omega)]; omega
      · have HC := hid (trimR_end c h0 hl)
        have e1 : (((c[c.size - 1]'(by omega)).toNat : Int) == 47) = false := beq_eq_false_iff_ne.2 fun x => hl ((slash_iff _).1 x)
        clear hl
        go_wp2_with fail
        refine (FIN.out HC).mono ?_
        rintro e w1 ⟨rfl, rfl⟩
        go_wp2
        refine wp_loop_rounds 1 ?_
        rw [rounds_succ]
        by_cases hg0 : G.size = 0
        · have t := empty_yes G hg0
          have HP := hid (HGN.out hg0)
          clear hg0
          go_wp2
          go_ret2
          exact ⟨by rw [HP.out]; rfl, rfl⟩
        · have t := empty_no G hg0
          have HP := hid (HGY.out hg0)
          clear hg0
          go_wp2
          go_ret2
          exact ⟨by rw [HP.out, ← HG.out]; rfl, rfl⟩
    · have HC : Hid (Pp.trimR c.data.toList = c.data.toList) := hid (by rw [nil_data c (by omega)]; rfl)
      go_wp2_with fail
      refine (FIN.out HC).mono ?_
      rintro e w1 ⟨rfl, rfl⟩
      go_wp2
      refine wp_loop_rounds 1 ?_
      rw [rounds_succ]
      by_cases hg0 : G.size = 0
      · have t := empty_yes G hg0
        have HP := hid (HGN.out hg0)
        clear hg0
        go_wp2
        go_ret2
        exact ⟨by rw [HP.out]; rfl, rfl⟩
      · have t := empty_no G hg0
        have HP := hid (HGY.out hg0)
        clear hg0
        go_wp2
        go_ret2
        exact ⟨by rw [HP.out, ← HG.out]; rfl, rfl⟩

set_option maxHeartbeats 4000000 in
set_option maxRecDepth 100000 in
theorem refStrip_first (s : ByteArray) (n : Nat) (w : World) (hs : s.size < 4611686018427387904) (hn : n ≤ 9223372036854775807) :
    Calls Tryd.prog 13 #[.string s, .int .i64 n] w fun e w' => e = .returned (.tuple #[.string ⟨(Pp.strip s.data.toList n).1.toArray⟩, .int .i64 (Pp.strip s.data.toList n).2]) ∧ w' = w := by
  have hn1 : ((n : Int) == -1) = false := beq_eq_false_iff_ne.2 (by omega)
  have HSF := hid (strip_first (l := s.data.toList) (n := n))
  go_enter Tryd.func13, Tryd.ntmps13
  go_wp2
  go_loop [0, 1, 6] (fun a i _ => ∃ (c : ByteArray) (k : Nat), a = .string c ∧ i = .int .i64 k ∧ k ≤ n ∧ c.size ≤ s.size ∧ Hid (Pp.stripN k c.data.toList = Pp.stripN n s.data.toList)) (fun _ i _ => (intOf i).toNat)
  case atStart => exact ⟨s, n, rfl, rfl, Nat.le_refl _, Nat.le_refl _, (rfl : Pp.stripN n s.data.toList = _)⟩
  case round =>
    obtain ⟨c, k, rfl, rfl, hk, hc, HS⟩ := hrel
    by_cases hk0 : 0 < k
    · go_wp2
      go_hide hQ
      go_loop [6] (fun i => ∃ j : Nat, j ≤ c.size ∧ i = .int .i64 j ∧ Hid ((47 : UInt8) ∉ c.data.toList.take j)) (fun i => c.size - (intOf i).toNat)
      case atStart => exact ⟨0, Nat.zero_le _, rfl, hid (by simp)⟩
      case round =>
        obtain ⟨j, hj, rfl, HJ⟩ := hrel
        by_cases hlt : j < c.size
        · by_cases h47 : c[j] = 47
          · have e1 : ((c[j].toNat : Int) != 47) = false := by rw [bne_eq_false_iff_eq]; exact (slash_iff _).2 h47
            have H47 := hid h47
            have hje : ((j : Int) == (c.size : Int)) = false := beq_eq_false_iff_ne.2 (by omega)
            clear h47
            go_wp2
            subst hQ
            go_wp2
            go_hide hQ2
            go_loop [6] (fun i => ∃ q : Nat, j ≤ q ∧ q ≤ c.size ∧ i = .int .i64 q ∧ Hid (∀ t, j ≤ t → t < q → ∀ h : t < c.size, c[t] = 47)) (fun i => c.size - (intOf i).toNat)
            case atStart => exact ⟨j, Nat.le_refl _, by omega, rfl, hid (fun t h1 h2 => by omega)⟩
            case round =>
              obtain ⟨q, hq1, hq2, rfl, HQ⟩ := hrel
              have fin : (∀ h : q < c.size, c[q] ≠ 47) → Hid (Pp.stripN (k - 1) (c.extract q c.size).data.toList = Pp.stripN n s.data.toList) := fun hend => hid (by
                have hjq : j < q := by
                  rcases Nat.lt_or_ge j q with h | h
                  · exact h
                  · obtain rfl : q = j := by omega
                    exact absurd H47.out (hend hlt)
                have h1 := strip_step c j q hlt H47.out HJ.out HQ.out hjq hq2 hend
                rw [← HS.out, Lib.extract_to_end, ← h1]
                conv => rhs; rw [show k = (k - 1) + 1 by omega]
                rfl)
              have FIN := hid fin
              clear fin
              by_cases hql : q < c.size
              · by_cases h47 : c[q] = 47
                · have e2 : ((c[q].toNat : Int) == 47) = true := beq_iff_eq.2 ((slash_iff _).2 h47)
                  have HQ2 : Hid (∀ t, j ≤ t → t < q + 1 → ∀ h : t < c.size, c[t] = 47) := hid (fun t h1 h2 h => by
                    rcases Nat.lt_or_ge t q with g | g
                    · exact HQ.out t h1 g h
                    · obtain rfl : t = q := by omega
                      exact h47)
                  clear h47 FIN
                  go_wp2
                  go_round
                  case rel => exact ⟨q + 1, by omega, by omega, by go_num, HQ2⟩
                  case measure => simp [intOf]; omega
                · have e2 : ((c[q].toNat : Int) == 47) = false := beq_eq_false_iff_ne.2 fun x => h47 ((slash_iff _).1 x)
                  have HF := FIN.out (fun _ => h47)
                  clear h47 FIN
                  go_wp2
                  subst hQ2
                  go_wp2
                  go_round
                  case rel => exact ⟨_, k - 1, rfl, by go_num, by omega, by rw [ext_size']; omega, HF⟩
                  case measure => simp [intOf]; omega
              · have HF := FIN.out (fun h => absurd h hql)
                clear FIN
                go_wp2
                subst hQ2
                go_wp2
                go_round
                case rel => exact ⟨_, k - 1, rfl, by go_num, by omega, by rw [ext_size']; omega, HF⟩
                case measure => simp [intOf]; omega
          · have e1 : ((c[j].toNat : Int) != 47) = true := by rw [bne_iff_ne]; exact fun x => h47 ((slash_iff _).1 x)
            have HJ2 := hid (no_snoc hlt h47 HJ.out)
            clear h47
            go_wp2
            go_round
            case rel => exact ⟨j + 1, by omega, by go_num, HJ2⟩
            case measure => simp [intOf]; omega
        · obtain rfl : j = c.size := by omega
          have hje : ((c.size : Int) == (c.size : Int)) = true := beq_iff_eq.2 rfl
          have HP : Hid (Pp.strip s.data.toList n = ([], 32)) := hid (by
            have hno := HJ.out
            rw [take_all c _ (Nat.le_refl _)] at hno
            have h1 := Pp.step1_none _ hno
            have h2 : Pp.stripN k c.data.toList = [] := by
              conv => lhs; rw [show k = (k - 1) + 1 by omega]
              rw [Pp.stripN, h1, Pp.stripN_nil]
            rw [HSF.out, if_pos (by rw [← HS.out]; exact h2)])
          go_wp2
          subst hQ
          go_wp2
          go_ret2
          exact ⟨by rw [HP.out]; rfl, rfl⟩
    · obtain rfl : k = 0 := by omega
      have hc2 : c.data.toList = Pp.stripN n s.data.toList := HS.out
      by_cases h0 : c.size = 0
      · have t := empty_yes c h0
        have HP : Hid (Pp.strip s.data.toList n = ([], 32)) := hid (by rw [HSF.out, ← hc2, if_pos (nil_data c h0)])
        clear hc2 h0
        go_wp2
        go_ret2
        exact ⟨by rw [HP.out]; rfl, rfl⟩
      · have t := empty_no c h0
        have HP : Hid (Pp.strip s.data.toList n = (c.data.toList, 0)) := hid (by rw [HSF.out, ← hc2, if_neg (fun e => h0 (data_nil c e))])
        clear hc2 h0
        go_wp2
        go_ret2
        exact ⟨by rw [HP.out, bytes_eta]; rfl, rfl⟩
theorem refStrip_any (s : ByteArray) (n : Int) (w : World) (hs : s.size < 4611686018427387904) (h2 : n ≤ 9223372036854775807) :
    Calls Tryd.prog 13 #[.string s, .int .i64 n] w fun e w' => e = .returned (.tuple #[.string ⟨(Pp.strip s.data.toList n).1.toArray⟩, .int .i64 (Pp.strip s.data.toList n).2]) ∧ w' = w := by
  by_cases hlow : n < -1
  · exact refStrip_low s n w hlow
  · by_cases hm : n = -1
    · subst hm; exact refStrip_last s w hs
    · obtain ⟨k, rfl⟩ : ∃ k : Nat, n = k := ⟨n.toNat, by omega⟩
      exact refStrip_first s k w hs (by omega)
end Go.Proofs.YtmlgggnjghkojaaDoor
