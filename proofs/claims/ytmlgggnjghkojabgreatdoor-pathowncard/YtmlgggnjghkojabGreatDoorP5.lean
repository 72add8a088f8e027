/-
  The walks of Strip, leadsNowhere and Below of the program.
-/
import Derived.Test.YtmlgggnjghkojabGreatDoorP4
namespace Go.Proofs.YtmlgggnjghkojabGreatDoor
open Go.RowKit

theorem trimR_lib (l : List UInt8) : Lib.trimRightB l 47 = Pp.trimR l := rfl
theorem strip_low {l : List UInt8} {n : Int} (h : n < -1) : Pp.strip l n = ([], 1) := by unfold Pp.strip; rw [if_pos h]
theorem strip_last {l : List UInt8} : Pp.strip l (-1) = if Pp.base (Pp.trimR l) = [] then ([], 32) else (Pp.base (Pp.trimR l), 0) := by
  unfold Pp.strip
  rw [if_neg (by omega)]
  rfl
theorem strip_first {l : List UInt8} {n : Nat} : Pp.strip l n = if Pp.stripN n l = [] then ([], 32) else (Pp.stripN n l, 0) := by
  rw [Pp.strip_err _ _ (by omega), Int.toNat_natCast]
  split
  · next h => rw [h]
  · rfl
theorem list_nil {l : List UInt8} {G : ByteArray} (h : G = ⟨l.toArray⟩) (h0 : G.size = 0) : l = [] := by
  rw [h, size_mk] at h0
  exact List.length_eq_zero_iff.1 h0
theorem list_ne {l : List UInt8} {G : ByteArray} (h : G = ⟨l.toArray⟩) (h0 : G.size ≠ 0) : l ≠ [] := fun e => h0 (by rw [h, e]; rfl)
theorem dropWhile_rev_len (l : List UInt8) : (Pp.trimR l).length ≤ l.length := by
  unfold Pp.trimR
  rw [List.length_reverse]
  have := Pp.dropWhile_len (· == 47) l.reverse
  rwa [List.length_reverse] at this

set_option maxHeartbeats 1000000 in
set_option maxRecDepth 100000 in
theorem strip_any (s : ByteArray) (n : Int) (w : World) (hs : s.size < 4611686018427387904) (h1 : -9223372036854775808 ≤ n) (h2 : n ≤ 9223372036854775807) :
    Calls Tryz.prog 12 #[.string s, .int .i64 n] w fun e w' => e = .returned (.tuple #[.string ⟨(Pp.strip s.data.toList n).1.toArray⟩, errV (Pp.strip s.data.toList n).2]) ∧ Below w.heap.size w w' := by
  by_cases hlow : n < -1
  · have HP := hid (strip_low (l := s.data.toList) hlow)
    go_enter Tryz.func12, Tryz.ntmps12
    go_wp2
    go_ret2
    exact ⟨by rw [HP.out]; rfl, Below.refl _ _⟩
  · have hT : (Pp.trimR s.data.toList).length ≤ s.size := by rw [← size_data s]; exact dropWhile_rev_len _
    obtain ⟨T, hT'⟩ : ∃ T : ByteArray, T = ⟨(Pp.trimR s.data.toList).toArray⟩ := ⟨_, rfl⟩
    have hTd : T.data.toList = Pp.trimR s.data.toList := by rw [hT']
    have hTs : T.size < 4611686018427387904 := by rw [hT', size_mk]; omega
    have hT2 : (ByteArray.mk (Lib.trimRightB s.data.toList 47).toArray) = T := by rw [hT', trimR_lib]
    have HT := hid hTd
    have HT2 := hid hT2
    clear hT hT' hTd hT2
    obtain ⟨G, hG⟩ : ∃ G : ByteArray, G = ⟨(Pp.base (Pp.trimR s.data.toList)).toArray⟩ := ⟨_, rfl⟩
    have HG := hid hG
    clear hG
    by_cases hm : n = -1
    · subst hm
      go_enter Tryz.func12, Tryz.ntmps12
      go_wp2_with fail
      refine (Tryz.strings_TrimRight_one s 47 (by decide) _ (by omega)).mono ?_
      rintro e w1 ⟨rfl, rfl⟩
      rw [HT2.out]
      go_wp2_with fail
      refine (base_any T _ hTs).mono ?_
      rintro e w1 ⟨rfl, rfl⟩
      rw [HT.out, ← HG.out]
      by_cases hG0 : G.size = 0
      · have t := empty_yes G hG0
        have HP : Hid (Pp.strip s.data.toList (-1) = ([], 32)) := hid (by rw [strip_last, if_pos (list_nil HG.out hG0)])
        clear hG0
        go_wp2
        go_ret2
        exact ⟨by rw [HP.out]; rfl, Below.refl _ _⟩
      · have t := empty_no G hG0
        have HP : Hid (Pp.strip s.data.toList (-1) = (Pp.base (Pp.trimR s.data.toList), 0)) := hid (by rw [strip_last, if_neg (list_ne HG.out hG0)])
        clear hG0
        go_wp2
        go_ret2
        exact ⟨by rw [HP.out, ← HG.out]; rfl, Below.refl _ _⟩
    · obtain ⟨k, rfl⟩ : ∃ k : Nat, n = k := ⟨n.toNat, by omega⟩
      have hkm : ((k : Int) != -1) = true := by rw [bne_iff_ne]; omega
      obtain ⟨R, hR⟩ : ∃ R : ByteArray, R = ⟨(Pp.stripN k s.data.toList).toArray⟩ := ⟨_, rfl⟩
      have HR := hid hR
      clear hR hm
      go_enter Tryz.func12, Tryz.ntmps12
      go_wp2_with fail
      refine (Tryz.strings_TrimRight_one s 47 (by decide) _ (by omega)).mono ?_
      rintro e w1 ⟨rfl, rfl⟩
      rw [HT2.out]
      go_wp2_with fail
      refine (base_any T _ hTs).mono ?_
      rintro e w1 ⟨rfl, rfl⟩
      rw [HT.out, ← HG.out]
      go_wp2_with fail
      refine (stripFirst_any s k _ hs (by omega)).mono ?_
      rintro e w2 ⟨rfl, hb2⟩
      rw [← HR.out]
      by_cases hR0 : R.size = 0
      · have t := empty_yes R hR0
        have HP : Hid (Pp.strip s.data.toList k = ([], 32)) := hid (by rw [strip_first, if_pos (list_nil HR.out hR0)])
        clear hR0
        go_wp2
        go_ret2
        exact ⟨by rw [HP.out]; rfl, hb2⟩
      · have t := empty_no R hR0
        have HP : Hid (Pp.strip s.data.toList k = (Pp.stripN k s.data.toList, 0)) := hid (by rw [strip_first, if_neg (list_ne HR.out hR0)])
        clear hR0
        go_wp2
        go_ret2
        exact ⟨by rw [HP.out, ← HR.out]; rfl, hb2⟩

set_option maxHeartbeats 400000 in
theorem nowhere_any (s : ByteArray) (w : World) :
    Calls Tryz.prog 24 #[.string s] w fun e w' => e = .returned (.bool (Pp.nowhere s.data.toList)) ∧ w' = w := by
  have ed := ByteArray.toList_eq s
  by_cases h0 : s.size = 0
  · have t := empty_yes s h0
    have HN : Hid (Pp.nowhere s.data.toList = true) := hid (by rw [nil_data s h0]; rfl)
    clear h0 ed
    go_enter Tryz.func24, Tryz.ntmps24
    go_wp2
    go_ret
    exact ⟨by rw [HN.out]; rfl, rfl⟩
  · have t := empty_no s h0
    have HN : Hid (Pp.nowhere s.data.toList = (s.toList == [46])) := hid (by
      unfold Pp.nowhere
      rw [beq_eq_false_iff_ne.2 (fun e => h0 (data_nil s e)), ed]; rfl)
    clear h0 ed
    go_enter Tryz.func24, Tryz.ntmps24
    go_wp2
    all_goals (go_ret; exact ⟨by rw [HN.out]; rfl, rfl⟩)
end Go.Proofs.YtmlgggnjghkojabGreatDoor
