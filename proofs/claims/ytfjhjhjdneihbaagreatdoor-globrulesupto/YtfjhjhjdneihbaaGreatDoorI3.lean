/-
  The walk of the document's trimmed.
-/
import Derived.Test.YtfjhjhjdneihbaaGreatDoorI2
namespace Go.Proofs.YtfjhjhjdneihbaaGreatDoor
open Go.RowKit

theorem snoc_of (l : List UInt8) (n : Nat) (c : UInt8) (hl : l.length = n + 1) (hc : l[n]? = some c) : l = l.take n ++ [c] := by
  conv => lhs; rw [← List.take_append_drop n l]
  congr 1
  have hn : n < l.length := by omega
  rw [List.drop_eq_getElem_cons hn]
  rw [List.getElem?_eq_getElem hn] at hc
  rw [Option.some.inj hc, List.drop_of_length_le (by omega)]
theorem c32_iff (c : UInt8) : ((c.toNat : Int) = 32) ↔ c = 32 := by
  constructor
  · intro h; exact UInt8.toNat_inj.1 (by simpa using (show c.toNat = 32 by omega))
  · rintro rfl; rfl
theorem c92_iff (c : UInt8) : ((c.toNat : Int) = 92) ↔ c = 92 := by
  constructor
  · intro h; exact UInt8.toNat_inj.1 (by simpa using (show c.toNat = 92 by omega))
  · rintro rfl; rfl
theorem c33_iff (c : UInt8) : ((c.toNat : Int) = 33) ↔ c = 33 := by
  constructor
  · intro h; exact UInt8.toNat_inj.1 (by simpa using (show c.toNat = 33 by omega))
  · rintro rfl; rfl
theorem c35_iff (c : UInt8) : ((c.toNat : Int) = 35) ↔ c = 35 := by
  constructor
  · intro h; exact UInt8.toNat_inj.1 (by simpa using (show c.toNat = 35 by omega))
  · rintro rfl; rfl
theorem c47_iff (c : UInt8) : ((c.toNat : Int) = 47) ↔ c = 47 := by
  constructor
  · intro h; exact UInt8.toNat_inj.1 (by simpa using (show c.toNat = 47 by omega))
  · rintro rfl; rfl

set_option maxHeartbeats 2000000 in
theorem refTrimmed_any (s : ByteArray) (w : World) (hs : s.size ≤ 4294967296) :
    Calls Tryz.prog 15 #[.string s] w fun e w' => e = .returned (.string ⟨(trm s.data.toList).toArray⟩) ∧ w' = w := by
  obtain ⟨T, hT⟩ : ∃ T, T = trm s.data.toList := ⟨_, rfl⟩
  rw [← hT]
  have HT := hid hT.symm
  clear hT
  go_enter Tryz.func15, Tryz.ntmps15
  go_wp2
  go_loopw [0] (fun v wr => ∃ x : ByteArray, v = .string x ∧ x.size ≤ s.size ∧ Hid (trm x.data.toList = T) ∧ wr = w) (fun v _ => match v with | .string x => x.size | _ => 0)
  case atStart => exact ⟨s, rfl, Nat.le_refl _, HT, rfl⟩
  case round =>
    obtain ⟨x, rfl, hx, HX, rfl⟩ := hrel
    have HRT : Hid (∀ y : ByteArray, trm y.data.toList = y.data.toList → trm y.data.toList = T → (⟨T.toArray⟩ : ByteArray) = y) := hid (fun y h1 h2 => by rw [← h2, h1])
    by_cases h0 : x.size = 0
    · have he := empty_yes x h0
      have HE : Hid ((⟨T.toArray⟩ : ByteArray) = x) := hid (HRT.out x (by rw [show x.data.toList = [] from List.length_eq_zero_iff.1 (by rw [size_data]; exact h0)]; rfl) HX.out)
      clear h0
      go_wp2
      go_ret
      exact ⟨by rw [HE.out]; rfl, rfl⟩
    · have he := empty_no x h0
      obtain ⟨n, hn⟩ : ∃ n, x.size = n + 1 := ⟨x.size - 1, by omega⟩
      have hlt : n < x.size := by omega
      have HAT := hid (at_data x n hlt)
      have HSN := hid (snoc_of x.data.toList n x[n] (by rw [size_data]; exact hn) HAT.out)
      have i1 : IntKind.i64.wrap ((x.size : Int) - 1) = (n : Int) := by rw [IntKind.wrap_i64]; omega
      have j1 : (0 : Int) ≤ (n : Int) := by omega
      have j2 : (n : Int) < (x.size : Int) := by omega
      have j3 : (n : Int) ≤ (x.size : Int) := by omega
      have HEX : Hid ((x.extract 0 n).data.toList = x.data.toList.take n) := hid (by rw [Lib.extract_data, List.drop_zero, Nat.sub_zero])
      have HES : Hid ((x.extract 0 n).size = n) := hid (by rw [← size_data, HEX.out, List.length_take, size_data]; omega)
      by_cases h32 : x[n] = 32
      · have t1 : ((x[n].toNat : Int) == 32) = true := beq_iff_eq.2 ((c32_iff _).2 h32)
        by_cases hn0 : n = 0
        · subst hn0
          have k1 : (x.size : Int) < 2 := by omega
          have HN : Hid (trm ByteArray.empty.data.toList = T) := hid (by
            rw [show ByteArray.empty.data.toList = [] from rfl, trm_nil, ← HX.out, HSN.out, h32, List.take_zero]
            exact trm_one.symm)
          clear h32 HSN HAT h0 HX
          go_wp2
          exact ⟨⟨ByteArray.empty, rfl, Nat.zero_le _, HN, trivial⟩, by show 0 < x.size; omega⟩
        · obtain ⟨m, rfl⟩ : ∃ m, n = m + 1 := ⟨n - 1, by omega⟩
          have k1 : ¬ (x.size : Int) < 2 := by omega
          have hlt2 : m < x.size := by omega
          have HAT2 := hid (at_data x m hlt2)
          have HSN2 := hid (snoc_of (x.data.toList.take (m + 1)) m x[m] (by rw [List.length_take, size_data]; omega) (by rw [List.getElem?_take, if_pos (by omega)]; exact HAT2.out))
          have i2 : IntKind.i64.wrap ((x.size : Int) - 2) = (m : Int) := by rw [IntKind.wrap_i64]; omega
          have j4 : (0 : Int) ≤ (m : Int) := by omega
          have j5 : (m : Int) < (x.size : Int) := by omega
          obtain ⟨M, hM⟩ : ∃ M, M = m + 1 := ⟨_, rfl⟩
          rw [← hM] at HES i1 j1 j2 j3
          have hltM : M < x.size := by omega
          have t1' : ((x[M].toNat : Int) == 32) = true := by subst hM; exact t1
          have HXM : Hid (x.size = M + 1) := hid (by omega)
          by_cases h92 : x[m] = 92
          · have t2 : ((x[m].toNat : Int) == 92) = true := beq_iff_eq.2 ((c92_iff _).2 h92)
            have HE : Hid ((⟨T.toArray⟩ : ByteArray) = x) := hid (HRT.out x (by
              have e : x.data.toList = (x.data.toList.take (m + 1)).take m ++ [92, 32] := by
                conv => lhs; rw [HSN.out, h32, HSN2.out, h92]
                simp
              rw [e]; exact trm_kept _) HX.out)
            clear h32 h92 HSN HSN2 HAT HAT2 h0 t1 hn hM HEX hlt
            go_wp2
            go_ret
            exact ⟨by rw [HE.out]; rfl, rfl⟩
          · have t2 : ((x[m].toNat : Int) == 92) = false := beq_eq_false_iff_ne.2 (fun e => h92 ((c92_iff _).1 e))
            have HN : Hid (trm (x.extract 0 (m + 1)).data.toList = T) := hid (by
              rw [HEX.out, ← HX.out]
              have e : x.data.toList = (x.data.toList.take (m + 1)).take m ++ [x[m]] ++ [32] := by
                conv => lhs; rw [HSN.out, h32, HSN2.out]
              conv => rhs; rw [e]
              rw [trm_blank _ _ h92, ← HSN2.out])
            rw [← hM] at HN
            clear h32 h92 HSN HSN2 HAT HAT2 h0 HX t1 hn hM HEX hlt
            go_wp2
            exact ⟨⟨x.extract 0 M, rfl, by have := HXM.out; rw [HES.out]; omega, HN, trivial⟩, by show (x.extract 0 M).size < x.size; have := HXM.out; rw [HES.out]; omega⟩
      · have t1 : ((x[n].toNat : Int) == 32) = false := beq_eq_false_iff_ne.2 (fun e => h32 ((c32_iff _).1 e))
        have HE : Hid ((⟨T.toArray⟩ : ByteArray) = x) := hid (HRT.out x (by conv => lhs; rw [HSN.out]
                                                                            rw [trm_other _ _ h32, ← HSN.out]) HX.out)
        clear h32 HSN HAT h0
        go_wp2
        go_ret
        exact ⟨by rw [HE.out]; rfl, rfl⟩
end Go.Proofs.YtfjhjhjdneihbaaGreatDoor
