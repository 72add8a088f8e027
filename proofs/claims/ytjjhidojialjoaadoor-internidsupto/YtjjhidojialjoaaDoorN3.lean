/-
  The walk of the document's Key (made by wip/genkey.py).
-/
import Derived.Test.YtjjhidojialjoaaDoorN2
namespace Go.Proofs.YtjjhidojialjoaaDoor
open Go.RowKit

theorem bare_data (s : ByteArray) : (bareB s).data.toList = if Pl.wh s.data.toList = true then s.data.toList.dropLast else s.data.toList := by
  unfold bareB
  split
  · rw [ext_take, List.dropLast_eq_take, size_data]
  · rfl
theorem bare_len (s : ByteArray) : (bareB s).size ≤ s.size := by
  unfold bareB
  split
  · rw [ByteArray.size_extract]; omega
  · exact Nat.le_refl _
theorem ext_drop (s : ByteArray) (k : Nat) : (s.extract k s.size).data.toList = s.data.toList.drop k := by
  rw [ByteArray.data_extract, Array.toList_extract]
  simp only [List.extract_eq_take_drop]
  exact List.take_of_length_le (by rw [List.length_drop, size_data]; exact Nat.le_refl _)
theorem end_data (s : ByteArray) : (s.extract (bareB s).size s.size).data.toList = if Pl.wh s.data.toList = true then [10] else [] := by
  rw [ext_drop]
  have hb := bare_data s
  have hl : (bareB s).size = (bareB s).data.toList.length := (size_data _).symm
  rw [hl, hb]
  cases h : Pl.wh s.data.toList with
  | true => obtain ⟨x, hx⟩ := In.wh_out _ h; rw [hx]; simp
  | false => simp
theorem key_of (n : Nat) (s T : ByteArray) (h : T.data.toList = In.fk n (bareB s).data.toList) : (T ++ s.extract (bareB s).size s.size).data.toList = In.key n s.data.toList := by
  rw [ByteArray.data_append, Array.toList_append, end_data, h, bare_data]
  unfold In.key
  cases h : Pl.wh s.data.toList <;> simp
theorem data_mk (l : List UInt8) : (ByteArray.mk l.toArray).data.toList = l := by simp
theorem size_mk (l : List UInt8) : (ByteArray.mk l.toArray).size = l.length := by show l.toArray.size = _; simp
theorem fk_odd (n : Nat) (x : List UInt8) (h : ((n : Int) % 2 == 1) = true) : In.fk n x = In.lw (In.sp (In.kd n) x) := by
  unfold In.fk
  have := eq_of_beq h
  rw [if_pos (by omega)]
theorem fk_even (n : Nat) (x : List UInt8) (h : ((n : Int) % 2 == 1) = false) : In.fk n x = In.sp (In.kd n) x := by
  unfold In.fk
  have := ne_of_beq_false h
  rw [if_neg (by omega)]
theorem kd_all (n : Nat) (h : ((n : Int) / 2 % 2 == 1) = true) : In.kd n = 3 := by
  unfold In.kd
  have := eq_of_beq h
  rw [if_pos (by omega)]
theorem kd_amount (n : Nat) (h : ((n : Int) / 2 % 2 == 1) = false) (h2 : ((n : Int) / 4 % 2 == 1) = true) : In.kd n = 2 := by
  unfold In.kd
  have := ne_of_beq_false h
  have := eq_of_beq h2
  rw [if_neg (by omega), if_pos (by omega)]
theorem kd_tail (n : Nat) (h : ((n : Int) / 2 % 2 == 1) = false) (h2 : ((n : Int) / 4 % 2 == 1) = false) (h3 : ((n : Int) / 8 % 2 == 1) = true) : In.kd n = 1 := by
  unfold In.kd
  have := ne_of_beq_false h
  have := ne_of_beq_false h2
  have := eq_of_beq h3
  rw [if_neg (by omega), if_neg (by omega), if_pos (by omega)]
theorem kd_none (n : Nat) (h : ((n : Int) / 2 % 2 == 1) = false) (h2 : ((n : Int) / 4 % 2 == 1) = false) (h3 : ((n : Int) / 8 % 2 == 1) = false) : In.kd n = 0 := by
  unfold In.kd
  have := ne_of_beq_false h
  have := ne_of_beq_false h2
  have := ne_of_beq_false h3
  rw [if_neg (by omega), if_neg (by omega), if_neg (by omega)]
theorem runs_T (s : ByteArray) (one : Bool) (w : World) (hs : s.size ≤ 140737488355327) :
    Calls Tryd.prog 18 #[.string s, .bool one] w fun e w' => ∃ T : ByteArray, e = .returned (.string T) ∧ T.data.toList = rn one s.data.toList ∧ T.size ≤ s.size ∧ Below w.heap.size w w' := by
  refine (runs_any s one w hs).mono ?_
  rintro e w' ⟨rfl, hb⟩
  refine ⟨_, rfl, data_mk _, ?_, hb⟩
  rw [size_mk, ← size_data s]
  exact rn_len one _
theorem tail_T (s : ByteArray) (w : World) (hs : s.size ≤ 140737488355327) :
    Calls Tryd.prog 19 #[.string s] w fun e w' => ∃ T : ByteArray, e = .returned (.string T) ∧ T.data.toList = In.tl s.data.toList ∧ T.size ≤ s.size ∧ w' = w := by
  refine (tail_any s w (by unfold maxLen; omega)).mono ?_
  rintro e w' ⟨rfl, hb⟩
  refine ⟨_, rfl, data_mk _, ?_, hb⟩
  rw [size_mk, ← size_data s]
  exact In.tl_len _
theorem lw_take (T : ByteArray) (k : Nat) (h : k < T.size) : In.lw (T.data.toList.take (k + 1)) = In.lw (T.data.toList.take k) ++ [In.lo T[k]] := by
  rw [take_snoc T k h, In.lw_snoc]
theorem lo_great (c : UInt8) (h1 : 65 ≤ c.toNat) (h2 : c.toNat ≤ 90) : ((In.lo c).toNat : Int) = c.toNat + 32 := by
  unfold In.lo
  rw [if_pos ⟨h1, h2⟩, UInt8.toNat_add]
  have : (32 : UInt8).toNat = 32 := rfl
  omega
theorem lo_low (c : UInt8) (h : ¬ 65 ≤ c.toNat) : In.lo c = c := by
  unfold In.lo; rw [if_neg (fun e => h e.1)]
theorem lo_high (c : UInt8) (h : ¬ c.toNat ≤ 90) : In.lo c = c := by
  unfold In.lo; rw [if_neg (fun e => h e.2)]

set_option maxHeartbeats 4000000 in
theorem refKey_all (s : ByteArray) (n : Nat) (hn : n ≤ 15) (w : World) (hs : s.size ≤ 140737488355327) (a2 : ((n : Int) / 2 % 2 == 1) = true) :
    Calls Tryd.prog 12 #[.string s, .int .i64 n] w fun e w' => e = .returned (.string ⟨(In.key n s.data.toList).toArray⟩) ∧ Below w.heap.size w w' := by
  have hs' : s.size ≤ maxLen := by unfold maxLen; omega
  have hsl := bare_len s
  have hsb : (bareB s).size ≤ 140737488355327 := by omega
  have HKD := hid (kd_all n a2)
  cases o1 : ((n : Int) % 2 == 1)
  case false =>
    go_enter Tryd.func12, Tryd.ntmps12
    go_wp2_with (go_at_call 17; refine (refBare_any _ _ hs').mono ?_; rintro e w2 ⟨rfl, h2⟩; obtain rfl : w = w2 := h2.symm)
    refine (runs_T _ _ _ hsb).mono ?_
    rintro e w3 ⟨T, rfl, hT1, hT2, hb3⟩
    have HT : Hid (T.data.toList = In.sp (In.kd n) (bareB s).data.toList) := hid (by rw [HKD.out]; exact (by rw [hT1]; rfl))
    have hTs : T.size ≤ s.size := by omega
    have HB : Hid (Below w.heap.size w w3) := hid (hb3)
    clear hT1
    have HK := hid (key_of n s T (by rw [fk_even n _ o1]; exact HT.out))
    go_wp2
    go_ret
    exact ⟨ret_str (bytes_of HK.out), HB.out⟩
  case true =>
    go_enter Tryd.func12, Tryd.ntmps12
    go_wp2_with (go_at_call 17; refine (refBare_any _ _ hs').mono ?_; rintro e w2 ⟨rfl, h2⟩; obtain rfl : w = w2 := h2.symm)
    refine (runs_T _ _ _ hsb).mono ?_
    rintro e w3 ⟨T, rfl, hT1, hT2, hb3⟩
    have HT : Hid (T.data.toList = In.sp (In.kd n) (bareB s).data.toList) := hid (by rw [HKD.out]; exact (by rw [hT1]; rfl))
    have hTs : T.size ≤ s.size := by omega
    have HB : Hid (Below w.heap.size w w3) := hid (hb3)
    clear hT1
    go_wp2
    go_loopw [7, 8] (fun v i wr => ∃ k : Nat, k ≤ T.size ∧ i = .int .i64 k ∧ OwnB wr w.heap.size v (In.lw (T.data.toList.take k)) ∧ Below w.heap.size w wr) (fun _ i _ => T.size - (intOf i).toNat)
    case atStart => exact ⟨0, Nat.zero_le _, rfl, OwnB.nil _ _, HB.out⟩
    case round =>
      obtain ⟨k, hk, rfl, hown, hb⟩ := hrel
      have hz := hb.size
      have hlen : (In.lw (T.data.toList.take k)).length ≤ k := by unfold In.lw; rw [List.length_map, List.length_take]; omega
      by_cases hlt : k < T.size
      · have HS := hid (lw_take T k hlt)
        generalize In.lw (T.data.toList.take k) = L at hown hlen HS
        by_cases g1 : 65 ≤ T[k].toNat
        · by_cases g2 : T[k].toNat ≤ 90
          · have HG := hid (lo_great T[k] g1 g2)
            go_wp2_with (at_builtin; refine wpList_append_byte rfl _ _ rfl w.heap.size _ L rfl (hown.alloc _) ⟨wr.heap.size, 0, none⟩ 1 (In.lo T[k]) (T[k].toNat + 32) HG.out.symm rfl ?c1 ?c2 ?c3 ?_)
            case c1 => simp [Addr.add]
            case c2 => omega
            case c3 => first | omega | (simp; omega)
            intro v3 w3 hown3 hb3
            have hB3 : Below w.heap.size w w3 := (hb.alloc hz _).trans hb3
            have HO3 : Hid (OwnB w3 w.heap.size v3 (In.lw (T.data.toList.take (k + 1)))) := hid (by rw [HS.out]; exact hown3)
            clear hown3 hown
            go_wp2
            go_roundw
            case rel => exact ⟨k + 1, by omega, by go_num, HO3.out, hB3⟩
            case measure => simp [intOf]; omega
          · have HG : Hid ((T[k].toNat : Int) = (In.lo T[k]).toNat) := hid (by rw [lo_high _ g2])
            go_wp2_with (at_builtin; refine wpList_append_byte rfl _ _ rfl w.heap.size _ L rfl (hown.alloc _) ⟨wr.heap.size, 0, none⟩ 1 (In.lo T[k]) T[k].toNat HG.out rfl ?c1 ?c2 ?c3 ?_)
            case c1 => simp [Addr.add]
            case c2 => omega
            case c3 => first | omega | (simp; omega)
            intro v3 w3 hown3 hb3
            have hB3 : Below w.heap.size w w3 := (hb.alloc hz _).trans hb3
            have HO3 : Hid (OwnB w3 w.heap.size v3 (In.lw (T.data.toList.take (k + 1)))) := hid (by rw [HS.out]; exact hown3)
            clear hown3 hown
            go_wp2
            go_roundw
            case rel => exact ⟨k + 1, by omega, by go_num, HO3.out, hB3⟩
            case measure => simp [intOf]; omega
        · have HG : Hid ((T[k].toNat : Int) = (In.lo T[k]).toNat) := hid (by rw [lo_low _ g1])
          go_wp2_with (at_builtin; refine wpList_append_byte rfl _ _ rfl w.heap.size _ L rfl (hown.alloc _) ⟨wr.heap.size, 0, none⟩ 1 (In.lo T[k]) T[k].toNat HG.out rfl ?c1 ?c2 ?c3 ?_)
          case c2 => omega
          case c3 => first | omega | (simp; omega)
          intro v3 w3 hown3 hb3
          have hB3 : Below w.heap.size w w3 := (hb.alloc hz _).trans hb3
          have HO3 : Hid (OwnB w3 w.heap.size v3 (In.lw (T.data.toList.take (k + 1)))) := hid (by rw [HS.out]; exact hown3)
          clear hown3 hown
          go_wp2
          go_roundw
          case rel => exact ⟨k + 1, by omega, by go_num, HO3.out, hB3⟩
          case measure => simp [intOf]; omega
      · have hall : T.data.toList.take k = T.data.toList := List.take_of_length_le (by rw [size_data]; omega)
        rw [hall] at hown
        have hcv := conv_own hown
        have HK := hid (key_of n s ⟨(In.lw T.data.toList).toArray⟩ (by rw [data_mk, fk_odd n _ o1]; exact congrArg In.lw HT.out))
        have hcat : (In.lw T.data.toList).length ≤ s.size := by unfold In.lw; rw [List.length_map, size_data]; exact hTs
        clear hall hlen hown
        go_wp2
        go_ret
        exact ⟨ret_str (bytes_of HK.out), hb⟩
set_option maxHeartbeats 4000000 in
theorem refKey_amount (s : ByteArray) (n : Nat) (hn : n ≤ 15) (w : World) (hs : s.size ≤ 140737488355327) (a2 : ((n : Int) / 2 % 2 == 1) = false) (a4 : ((n : Int) / 4 % 2 == 1) = true) :
    Calls Tryd.prog 12 #[.string s, .int .i64 n] w fun e w' => e = .returned (.string ⟨(In.key n s.data.toList).toArray⟩) ∧ Below w.heap.size w w' := by
  have hs' : s.size ≤ maxLen := by unfold maxLen; omega
  have hsl := bare_len s
  have hsb : (bareB s).size ≤ 140737488355327 := by omega
  have HKD := hid (kd_amount n a2 a4)
  cases o1 : ((n : Int) % 2 == 1)
  case false =>
    go_enter Tryd.func12, Tryd.ntmps12
    go_wp2_with (go_at_call 17; refine (refBare_any _ _ hs').mono ?_; rintro e w2 ⟨rfl, h2⟩; obtain rfl : w = w2 := h2.symm)
    refine (runs_T _ _ _ hsb).mono ?_
    rintro e w3 ⟨T1, rfl, hT1, hT2, hb3⟩
    go_wp2_with fail
    refine (tail_T _ _ (by omega)).mono ?_
    rintro e w4 ⟨T, rfl, hT3, hT4, h4⟩
    obtain rfl : w3 = w4 := h4.symm
    have HT : Hid (T.data.toList = In.sp (In.kd n) (bareB s).data.toList) := hid (by rw [HKD.out]; exact (by rw [hT3, hT1]; show In.tl (In.sq _) = In.sq (In.tl _); rw [In.sq_tl]))
    have hTs : T.size ≤ s.size := by omega
    have HB : Hid (Below w.heap.size w w3) := hid (hb3)
    clear hT1 hT3
    have HK := hid (key_of n s T (by rw [fk_even n _ o1]; exact HT.out))
    go_wp2
    go_ret
    exact ⟨ret_str (bytes_of HK.out), HB.out⟩
  case true =>
    go_enter Tryd.func12, Tryd.ntmps12
    go_wp2_with (go_at_call 17; refine (refBare_any _ _ hs').mono ?_; rintro e w2 ⟨rfl, h2⟩; obtain rfl : w = w2 := h2.symm)
    refine (runs_T _ _ _ hsb).mono ?_
    rintro e w3 ⟨T1, rfl, hT1, hT2, hb3⟩
    go_wp2_with fail
    refine (tail_T _ _ (by omega)).mono ?_
    rintro e w4 ⟨T, rfl, hT3, hT4, h4⟩
    obtain rfl : w3 = w4 := h4.symm
    have HT : Hid (T.data.toList = In.sp (In.kd n) (bareB s).data.toList) := hid (by rw [HKD.out]; exact (by rw [hT3, hT1]; show In.tl (In.sq _) = In.sq (In.tl _); rw [In.sq_tl]))
    have hTs : T.size ≤ s.size := by omega
    have HB : Hid (Below w.heap.size w w3) := hid (hb3)
    clear hT1 hT3
    go_wp2
    go_loopw [7, 8] (fun v i wr => ∃ k : Nat, k ≤ T.size ∧ i = .int .i64 k ∧ OwnB wr w.heap.size v (In.lw (T.data.toList.take k)) ∧ Below w.heap.size w wr) (fun _ i _ => T.size - (intOf i).toNat)
    case atStart => exact ⟨0, Nat.zero_le _, rfl, OwnB.nil _ _, HB.out⟩
    case round =>
      obtain ⟨k, hk, rfl, hown, hb⟩ := hrel
      have hz := hb.size
      have hlen : (In.lw (T.data.toList.take k)).length ≤ k := by unfold In.lw; rw [List.length_map, List.length_take]; omega
      by_cases hlt : k < T.size
      · have HS := hid (lw_take T k hlt)
        generalize In.lw (T.data.toList.take k) = L at hown hlen HS
        by_cases g1 : 65 ≤ T[k].toNat
        · by_cases g2 : T[k].toNat ≤ 90
          · have HG := hid (lo_great T[k] g1 g2)
            go_wp2_with (at_builtin; refine wpList_append_byte rfl _ _ rfl w.heap.size _ L rfl (hown.alloc _) ⟨wr.heap.size, 0, none⟩ 1 (In.lo T[k]) (T[k].toNat + 32) HG.out.symm rfl ?c1 ?c2 ?c3 ?_)
            case c1 => simp [Addr.add]
            case c2 => omega
            case c3 => first | omega | (simp; omega)
            intro v3 w3 hown3 hb3
            have hB3 : Below w.heap.size w w3 := (hb.alloc hz _).trans hb3
            have HO3 : Hid (OwnB w3 w.heap.size v3 (In.lw (T.data.toList.take (k + 1)))) := hid (by rw [HS.out]; exact hown3)
            clear hown3 hown
            go_wp2
            go_roundw
            case rel => exact ⟨k + 1, by omega, by go_num, HO3.out, hB3⟩
            case measure => simp [intOf]; omega
          · have HG : Hid ((T[k].toNat : Int) = (In.lo T[k]).toNat) := hid (by rw [lo_high _ g2])
            go_wp2_with (at_builtin; refine wpList_append_byte rfl _ _ rfl w.heap.size _ L rfl (hown.alloc _) ⟨wr.heap.size, 0, none⟩ 1 (In.lo T[k]) T[k].toNat HG.out rfl ?c1 ?c2 ?c3 ?_)
            case c1 => simp [Addr.add]
            case c2 => omega
            case c3 => first | omega | (simp; omega)
            intro v3 w3 hown3 hb3
            have hB3 : Below w.heap.size w w3 := (hb.alloc hz _).trans hb3
            have HO3 : Hid (OwnB w3 w.heap.size v3 (In.lw (T.data.toList.take (k + 1)))) := hid (by rw [HS.out]; exact hown3)
            clear hown3 hown
            go_wp2
            go_roundw
            case rel => exact ⟨k + 1, by omega, by go_num, HO3.out, hB3⟩
            case measure => simp [intOf]; omega
        · have HG : Hid ((T[k].toNat : Int) = (In.lo T[k]).toNat) := hid (by rw [lo_low _ g1])
          go_wp2_with (at_builtin; refine wpList_append_byte rfl _ _ rfl w.heap.size _ L rfl (hown.alloc _) ⟨wr.heap.size, 0, none⟩ 1 (In.lo T[k]) T[k].toNat HG.out rfl ?c1 ?c2 ?c3 ?_)
          case c2 => omega
          case c3 => first | omega | (simp; omega)
          intro v3 w3 hown3 hb3
          have hB3 : Below w.heap.size w w3 := (hb.alloc hz _).trans hb3
          have HO3 : Hid (OwnB w3 w.heap.size v3 (In.lw (T.data.toList.take (k + 1)))) := hid (by rw [HS.out]; exact hown3)
          clear hown3 hown
          go_wp2
          go_roundw
          case rel => exact ⟨k + 1, by omega, by go_num, HO3.out, hB3⟩
          case measure => simp [intOf]; omega
      · have hall : T.data.toList.take k = T.data.toList := List.take_of_length_le (by rw [size_data]; omega)
        rw [hall] at hown
        have hcv := conv_own hown
        have HK := hid (key_of n s ⟨(In.lw T.data.toList).toArray⟩ (by rw [data_mk, fk_odd n _ o1]; exact congrArg In.lw HT.out))
        have hcat : (In.lw T.data.toList).length ≤ s.size := by unfold In.lw; rw [List.length_map, size_data]; exact hTs
        clear hall hlen hown
        go_wp2
        go_ret
        exact ⟨ret_str (bytes_of HK.out), hb⟩
set_option maxHeartbeats 4000000 in
theorem refKey_tail (s : ByteArray) (n : Nat) (hn : n ≤ 15) (w : World) (hs : s.size ≤ 140737488355327) (a2 : ((n : Int) / 2 % 2 == 1) = false) (a4 : ((n : Int) / 4 % 2 == 1) = false) (a8 : ((n : Int) / 8 % 2 == 1) = true) :
    Calls Tryd.prog 12 #[.string s, .int .i64 n] w fun e w' => e = .returned (.string ⟨(In.key n s.data.toList).toArray⟩) ∧ Below w.heap.size w w' := by
  have hs' : s.size ≤ maxLen := by unfold maxLen; omega
  have hsl := bare_len s
  have hsb : (bareB s).size ≤ 140737488355327 := by omega
  have HKD := hid (kd_tail n a2 a4 a8)
  cases o1 : ((n : Int) % 2 == 1)
  case false =>
    go_enter Tryd.func12, Tryd.ntmps12
    go_wp2_with (go_at_call 17; refine (refBare_any _ _ hs').mono ?_; rintro e w2 ⟨rfl, h2⟩; obtain rfl : w = w2 := h2.symm)
    refine (tail_T _ _ (by omega)).mono ?_
    rintro e w4 ⟨T, rfl, hT3, hT4, h4⟩
    obtain rfl : w = w4 := h4.symm
    have HT : Hid (T.data.toList = In.sp (In.kd n) (bareB s).data.toList) := hid (by rw [HKD.out]; exact (by rw [hT3]; rfl))
    have hTs : T.size ≤ s.size := by omega
    have HB : Hid (Below w.heap.size w w) := hid (Below.refl _ _)
    clear hT3
    have HK := hid (key_of n s T (by rw [fk_even n _ o1]; exact HT.out))
    go_wp2
    go_ret
    exact ⟨ret_str (bytes_of HK.out), HB.out⟩
  case true =>
    go_enter Tryd.func12, Tryd.ntmps12
    go_wp2_with (go_at_call 17; refine (refBare_any _ _ hs').mono ?_; rintro e w2 ⟨rfl, h2⟩; obtain rfl : w = w2 := h2.symm)
    refine (tail_T _ _ (by omega)).mono ?_
    rintro e w4 ⟨T, rfl, hT3, hT4, h4⟩
    obtain rfl : w = w4 := h4.symm
    have HT : Hid (T.data.toList = In.sp (In.kd n) (bareB s).data.toList) := hid (by rw [HKD.out]; exact (by rw [hT3]; rfl))
    have hTs : T.size ≤ s.size := by omega
    have HB : Hid (Below w.heap.size w w) := hid (Below.refl _ _)
    clear hT3
    go_wp2
    go_loopw [7, 8] (fun v i wr => ∃ k : Nat, k ≤ T.size ∧ i = .int .i64 k ∧ OwnB wr w.heap.size v (In.lw (T.data.toList.take k)) ∧ Below w.heap.size w wr) (fun _ i _ => T.size - (intOf i).toNat)
    case atStart => exact ⟨0, Nat.zero_le _, rfl, OwnB.nil _ _, HB.out⟩
    case round =>
      obtain ⟨k, hk, rfl, hown, hb⟩ := hrel
      have hz := hb.size
      have hlen : (In.lw (T.data.toList.take k)).length ≤ k := by unfold In.lw; rw [List.length_map, List.length_take]; omega
      by_cases hlt : k < T.size
      · have HS := hid (lw_take T k hlt)
        generalize In.lw (T.data.toList.take k) = L at hown hlen HS
        by_cases g1 : 65 ≤ T[k].toNat
        · by_cases g2 : T[k].toNat ≤ 90
          · have HG := hid (lo_great T[k] g1 g2)
            go_wp2_with (at_builtin; refine wpList_append_byte rfl _ _ rfl w.heap.size _ L rfl (hown.alloc _) ⟨wr.heap.size, 0, none⟩ 1 (In.lo T[k]) (T[k].toNat + 32) HG.out.symm rfl ?c1 ?c2 ?c3 ?_)
            case c1 => simp [Addr.add]
            case c2 => omega
            case c3 => first | omega | (simp; omega)
            intro v3 w3 hown3 hb3
            have hB3 : Below w.heap.size w w3 := (hb.alloc hz _).trans hb3
            have HO3 : Hid (OwnB w3 w.heap.size v3 (In.lw (T.data.toList.take (k + 1)))) := hid (by rw [HS.out]; exact hown3)
            clear hown3 hown
            go_wp2
            go_roundw
            case rel => exact ⟨k + 1, by omega, by go_num, HO3.out, hB3⟩
            case measure => simp [intOf]; omega
          · have HG : Hid ((T[k].toNat : Int) = (In.lo T[k]).toNat) := hid (by rw [lo_high _ g2])
            go_wp2_with (at_builtin; refine wpList_append_byte rfl _ _ rfl w.heap.size _ L rfl (hown.alloc _) ⟨wr.heap.size, 0, none⟩ 1 (In.lo T[k]) T[k].toNat HG.out rfl ?c1 ?c2 ?c3 ?_)
            case c1 => simp [Addr.add]
            case c2 => omega
            case c3 => first | omega | (simp; omega)
            intro v3 w3 hown3 hb3
            have hB3 : Below w.heap.size w w3 := (hb.alloc hz _).trans hb3
            have HO3 : Hid (OwnB w3 w.heap.size v3 (In.lw (T.data.toList.take (k + 1)))) := hid (by rw [HS.out]; exact hown3)
            clear hown3 hown
            go_wp2
            go_roundw
            case rel => exact ⟨k + 1, by omega, by go_num, HO3.out, hB3⟩
            case measure => simp [intOf]; omega
        · have HG : Hid ((T[k].toNat : Int) = (In.lo T[k]).toNat) := hid (by rw [lo_low _ g1])
          go_wp2_with (at_builtin; refine wpList_append_byte rfl _ _ rfl w.heap.size _ L rfl (hown.alloc _) ⟨wr.heap.size, 0, none⟩ 1 (In.lo T[k]) T[k].toNat HG.out rfl ?c1 ?c2 ?c3 ?_)
          case c2 => omega
          case c3 => first | omega | (simp; omega)
          intro v3 w3 hown3 hb3
          have hB3 : Below w.heap.size w w3 := (hb.alloc hz _).trans hb3
          have HO3 : Hid (OwnB w3 w.heap.size v3 (In.lw (T.data.toList.take (k + 1)))) := hid (by rw [HS.out]; exact hown3)
          clear hown3 hown
          go_wp2
          go_roundw
          case rel => exact ⟨k + 1, by omega, by go_num, HO3.out, hB3⟩
          case measure => simp [intOf]; omega
      · have hall : T.data.toList.take k = T.data.toList := List.take_of_length_le (by rw [size_data]; omega)
        rw [hall] at hown
        have hcv := conv_own hown
        have HK := hid (key_of n s ⟨(In.lw T.data.toList).toArray⟩ (by rw [data_mk, fk_odd n _ o1]; exact congrArg In.lw HT.out))
        have hcat : (In.lw T.data.toList).length ≤ s.size := by unfold In.lw; rw [List.length_map, size_data]; exact hTs
        clear hall hlen hown
        go_wp2
        go_ret
        exact ⟨ret_str (bytes_of HK.out), hb⟩
set_option maxHeartbeats 4000000 in
theorem refKey_none (s : ByteArray) (n : Nat) (hn : n ≤ 15) (w : World) (hs : s.size ≤ 140737488355327) (a2 : ((n : Int) / 2 % 2 == 1) = false) (a4 : ((n : Int) / 4 % 2 == 1) = false) (a8 : ((n : Int) / 8 % 2 == 1) = false) :
    Calls Tryd.prog 12 #[.string s, .int .i64 n] w fun e w' => e = .returned (.string ⟨(In.key n s.data.toList).toArray⟩) ∧ Below w.heap.size w w' := by
  have hs' : s.size ≤ maxLen := by unfold maxLen; omega
  have hsl := bare_len s
  have hsb : (bareB s).size ≤ 140737488355327 := by omega
  have HKD := hid (kd_none n a2 a4 a8)
  cases o1 : ((n : Int) % 2 == 1)
  case false =>
    go_enter Tryd.func12, Tryd.ntmps12
    go_wp2_with (go_at_call 17; refine (refBare_any _ _ hs').mono ?_; rintro e w2 ⟨rfl, h2⟩; obtain rfl : w = w2 := h2.symm)
    have HT : Hid ((bareB s).data.toList = In.sp (In.kd n) (bareB s).data.toList) := hid (by rw [HKD.out]; exact (rfl))
    have hTs : (bareB s).size ≤ s.size := by exact hsl
    have HB : Hid (Below w.heap.size w w) := hid (Below.refl _ _)
    have HK := hid (key_of n s (bareB s) (by rw [fk_even n _ o1]; exact HT.out))
    go_wp2
    go_ret
    exact ⟨ret_str (bytes_of HK.out), HB.out⟩
  case true =>
    go_enter Tryd.func12, Tryd.ntmps12
    go_wp2_with (go_at_call 17; refine (refBare_any _ _ hs').mono ?_; rintro e w2 ⟨rfl, h2⟩; obtain rfl : w = w2 := h2.symm)
    have HT : Hid ((bareB s).data.toList = In.sp (In.kd n) (bareB s).data.toList) := hid (by rw [HKD.out]; exact (rfl))
    have hTs : (bareB s).size ≤ s.size := by exact hsl
    have HB : Hid (Below w.heap.size w w) := hid (Below.refl _ _)
    go_wp2
    go_loopw [7, 8] (fun v i wr => ∃ k : Nat, k ≤ (bareB s).size ∧ i = .int .i64 k ∧ OwnB wr w.heap.size v (In.lw ((bareB s).data.toList.take k)) ∧ Below w.heap.size w wr) (fun _ i _ => (bareB s).size - (intOf i).toNat)
    case atStart => exact ⟨0, Nat.zero_le _, rfl, OwnB.nil _ _, HB.out⟩
    case round =>
      obtain ⟨k, hk, rfl, hown, hb⟩ := hrel
      have hz := hb.size
      have hlen : (In.lw ((bareB s).data.toList.take k)).length ≤ k := by unfold In.lw; rw [List.length_map, List.length_take]; omega
      by_cases hlt : k < (bareB s).size
      · have HS := hid (lw_take (bareB s) k hlt)
        generalize In.lw ((bareB s).data.toList.take k) = L at hown hlen HS
        by_cases g1 : 65 ≤ (bareB s)[k].toNat
        · by_cases g2 : (bareB s)[k].toNat ≤ 90
          · have HG := hid (lo_great (bareB s)[k] g1 g2)
            go_wp2_with (at_builtin; refine wpList_append_byte rfl _ _ rfl w.heap.size _ L rfl (hown.alloc _) ⟨wr.heap.size, 0, none⟩ 1 (In.lo (bareB s)[k]) ((bareB s)[k].toNat + 32) HG.out.symm rfl ?c1 ?c2 ?c3 ?_)
            case c1 => simp [Addr.add]
            case c2 => omega
            case c3 => first | omega | (simp; omega)
            intro v3 w3 hown3 hb3
            have hB3 : Below w.heap.size w w3 := (hb.alloc hz _).trans hb3
            have HO3 : Hid (OwnB w3 w.heap.size v3 (In.lw ((bareB s).data.toList.take (k + 1)))) := hid (by rw [HS.out]; exact hown3)
            clear hown3 hown
            go_wp2
            go_roundw
            case rel => exact ⟨k + 1, by omega, by go_num, HO3.out, hB3⟩
            case measure => simp [intOf]; omega
          · have HG : Hid (((bareB s)[k].toNat : Int) = (In.lo (bareB s)[k]).toNat) := hid (by rw [lo_high _ g2])
            go_wp2_with (at_builtin; refine wpList_append_byte rfl _ _ rfl w.heap.size _ L rfl (hown.alloc _) ⟨wr.heap.size, 0, none⟩ 1 (In.lo (bareB s)[k]) (bareB s)[k].toNat HG.out rfl ?c1 ?c2 ?c3 ?_)
            case c1 => simp [Addr.add]
            case c2 => omega
            case c3 => first | omega | (simp; omega)
            intro v3 w3 hown3 hb3
            have hB3 : Below w.heap.size w w3 := (hb.alloc hz _).trans hb3
            have HO3 : Hid (OwnB w3 w.heap.size v3 (In.lw ((bareB s).data.toList.take (k + 1)))) := hid (by rw [HS.out]; exact hown3)
            clear hown3 hown
            go_wp2
            go_roundw
            case rel => exact ⟨k + 1, by omega, by go_num, HO3.out, hB3⟩
            case measure => simp [intOf]; omega
        · have HG : Hid (((bareB s)[k].toNat : Int) = (In.lo (bareB s)[k]).toNat) := hid (by rw [lo_low _ g1])
          go_wp2_with (at_builtin; refine wpList_append_byte rfl _ _ rfl w.heap.size _ L rfl (hown.alloc _) ⟨wr.heap.size, 0, none⟩ 1 (In.lo (bareB s)[k]) (bareB s)[k].toNat HG.out rfl ?c1 ?c2 ?c3 ?_)
          case c2 => omega
          case c3 => first | omega | (simp; omega)
          intro v3 w3 hown3 hb3
          have hB3 : Below w.heap.size w w3 := (hb.alloc hz _).trans hb3
          have HO3 : Hid (OwnB w3 w.heap.size v3 (In.lw ((bareB s).data.toList.take (k + 1)))) := hid (by rw [HS.out]; exact hown3)
          clear hown3 hown
          go_wp2
          go_roundw
          case rel => exact ⟨k + 1, by omega, by go_num, HO3.out, hB3⟩
          case measure => simp [intOf]; omega
      · have hall : (bareB s).data.toList.take k = (bareB s).data.toList := List.take_of_length_le (by rw [size_data]; omega)
        rw [hall] at hown
        have hcv := conv_own hown
        have HK := hid (key_of n s ⟨(In.lw (bareB s).data.toList).toArray⟩ (by rw [data_mk, fk_odd n _ o1]; exact congrArg In.lw HT.out))
        have hcat : (In.lw (bareB s).data.toList).length ≤ s.size := by unfold In.lw; rw [List.length_map, size_data]; exact hTs
        clear hall hlen hown
        go_wp2
        go_ret
        exact ⟨ret_str (bytes_of HK.out), hb⟩
theorem refKey_in (s : ByteArray) (n : Nat) (hn : n ≤ 15) (w : World) (hs : s.size ≤ 140737488355327) :
    Calls Tryd.prog 12 #[.string s, .int .i64 n] w fun e w' => e = .returned (.string ⟨(In.key n s.data.toList).toArray⟩) ∧ Below w.heap.size w w' := by
  cases a2 : ((n : Int) / 2 % 2 == 1) with
  | true => exact refKey_all s n hn w hs a2
  | false =>
    cases a4 : ((n : Int) / 4 % 2 == 1) with
    | true => exact refKey_amount s n hn w hs a2 a4
    | false =>
      cases a8 : ((n : Int) / 8 % 2 == 1) with
      | true => exact refKey_tail s n hn w hs a2 a4 a8
      | false => exact refKey_none s n hn w hs a2 a4 a8
set_option maxHeartbeats 1000000 in
theorem refKey_any (s : ByteArray) (e : Int) (w : World) (hs : s.size ≤ 140737488355327) :
    Calls Tryd.prog 12 #[.string s, .int .i64 e] w fun r w' => r = .returned (.string ⟨(In.keyI e s.data.toList).toArray⟩) ∧ Below w.heap.size w w' := by
  by_cases h : 0 ≤ e ∧ e ≤ 15
  · obtain ⟨n, rfl⟩ : ∃ n : Nat, e = n := ⟨e.toNat, by omega⟩
    have hk : In.keyI (n : Int) s.data.toList = In.key n s.data.toList := by unfold In.keyI; rw [if_pos h]; rfl
    rw [hk]
    exact refKey_in s n (by omega) w hs
  · have HK : Hid (In.keyI e s.data.toList = s.data.toList) := hid (by unfold In.keyI; rw [if_neg h])
    by_cases h1 : e < 0
    · clear h
      go_enter Tryd.func12, Tryd.ntmps12
      go_wp2
      go_ret
      exact ⟨ret_str (bytes_of HK.out.symm), Below.refl _ _⟩
    · have h2 : 15 < e := by omega
      clear h
      go_enter Tryd.func12, Tryd.ntmps12
      go_wp2
      go_ret
      exact ⟨ret_str (bytes_of HK.out.symm), Below.refl _ _⟩
end Go.Proofs.YtjjhidojialjoaaDoor
