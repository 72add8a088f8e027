/-
  The walks of Dir, Base, stripFirst, Strip, leadsNowhere and Below of the program.
-/
import Derived.Test.YtmlgggnjghkojabGreatDoorP3
namespace Go.Proofs.YtmlgggnjghkojabGreatDoor
open Go.RowKit

theorem last_of (s : ByteArray) (w : World) (hs : s.size < 4611686018427387904) :
    Calls Tryz.prog 28 #[.string s, .string ⟨#[47]⟩] w fun e w' => e = .returned (.int .i64 (Lib.lastIndexByte s 47)) ∧ w' = w :=
  Tryz.strings_LastIndex_one s ⟨#[47]⟩ rfl hs w
theorem ext_take' (s : ByteArray) (k : Nat) : s.extract 0 k = ⟨(s.data.toList.take k).toArray⟩ := bytes_ext (by rw [Lib.extract_from_zero])
theorem ext_drop' (s : ByteArray) (k : Nat) : s.extract k s.size = ⟨(s.data.toList.drop k).toArray⟩ := bytes_ext (by rw [Lib.extract_to_end])

set_option maxHeartbeats 1000000 in
theorem base_any (s : ByteArray) (w : World) (hs : s.size < 4611686018427387904) :
    Calls Tryz.prog 16 #[.string s] w fun e w' => e = .returned (.string ⟨(Pp.base s.data.toList).toArray⟩) ∧ w' = w := by
  rcases last_cases s with ⟨h1, h2⟩ | ⟨i, h1, h2, h3, h4⟩
  · have HB := hid (Pp.base_none _ h2)
    have HL := hid h1
    clear h1 h2
    go_enter Tryz.func16, Tryz.ntmps16
    go_wp2_with fail
    refine (last_of s _ hs).mono ?_
    rintro e w1 ⟨rfl, rfl⟩
    rw [HL.out]
    go_wp2
    go_ret
    exact ⟨by rw [HB.out]; simp, rfl⟩
  · have HB : Hid (Pp.base s.data.toList = s.data.toList.drop (i + 1)) := hid (by
      have e := Pp.base_last (s.data.toList.take i) (s.data.toList.drop (i + 1)) h4
      rwa [← h3] at e)
    have HL := hid h1
    clear h1 h3 h4
    go_enter Tryz.func16, Tryz.ntmps16
    go_wp2_with fail
    refine (last_of s _ hs).mono ?_
    rintro e w1 ⟨rfl, rfl⟩
    rw [HL.out]
    go_wp2
    go_ret
    exact ⟨by rw [HB.out, ← ext_drop']; rfl, rfl⟩

set_option maxHeartbeats 1000000 in
theorem dir_any (s : ByteArray) (w : World) (hs : s.size < 4611686018427387904) :
    Calls Tryz.prog 17 #[.string s] w fun e w' => e = .returned (.string ⟨(Pp.dir s.data.toList).toArray⟩) ∧ w' = w := by
  rcases last_cases s with ⟨h1, h2⟩ | ⟨i, h1, h2, h3, h4⟩
  · have HB := hid (Pp.dir_none _ h2)
    have HL := hid h1
    clear h1 h2
    go_enter Tryz.func17, Tryz.ntmps17
    go_wp2_with fail
    refine (last_of s _ hs).mono ?_
    rintro e w1 ⟨rfl, rfl⟩
    rw [HL.out]
    go_wp2
    go_ret
    exact ⟨by rw [HB.out]; exact congrArg (fun x => Ending.returned (.string x)) (ext_take' s 0), rfl⟩
  · have HB : Hid (Pp.dir s.data.toList = s.data.toList.take i) := hid (by
      have e := Pp.dir_last (s.data.toList.take i) (s.data.toList.drop (i + 1)) h4
      rwa [← h3] at e)
    have HL := hid h1
    clear h1 h3 h4
    go_enter Tryz.func17, Tryz.ntmps17
    go_wp2_with fail
    refine (last_of s _ hs).mono ?_
    rintro e w1 ⟨rfl, rfl⟩
    rw [HL.out]
    go_wp2
    go_ret
    exact ⟨by rw [HB.out, ← ext_take']; rfl, rfl⟩

/-! ### stripping -/
set_option maxHeartbeats 1000000 in
theorem cutl_any (s : ByteArray) (w : World) (hs : s.size < 4611686018427387904) :
    Calls Tryz.prog 59 #[.string s, .string ⟨#[47]⟩] w fun e w' => ∃ a b f, e = .returned (.tuple #[.string a, .string b, .bool f]) ∧ b.data.toList = (s.data.toList.dropWhile (· != 47)).drop 1 ∧ Below w.heap.size w w' := by
  rcases index_slash s.data.toList with ⟨h1, h2⟩ | ⟨i, h1, h2, h3, h4⟩
  · rw [Lib.index_one] at h1
    have HD := hid (Pp.dropWhile_none _ h2)
    have HL := hid h1
    clear h1 h2
    go_enter Tryz.func59, Tryz.ntmps59
    go_wp2_with fail
    refine (Tryz.stringslite_Index_one s 47 _).mono ?_
    rintro e w1 ⟨rfl, rfl⟩
    rw [HL.out]
    go_wp2
    go_ret3
    rw [HD.out]
    exact ⟨_, _, _, rfl, rfl, Below.refl _ _⟩
  · rw [Lib.index_one] at h1
    have HD : Hid ((s.data.toList.dropWhile (· != 47)).drop 1 = s.data.toList.drop (i + 1)) := hid (by
      have e := Pp.dropWhile_first (s.data.toList.take i) (s.data.toList.drop (i + 1)) h4
      rw [← h3] at e
      rw [e]; rfl)
    have HL := hid h1
    have hi : i < s.size := by rw [← size_data]; exact h2
    clear h1 h2 h3 h4
    go_enter Tryz.func59, Tryz.ntmps59
    go_wp2_with fail
    refine (Tryz.stringslite_Index_one s 47 _).mono ?_
    rintro e w1 ⟨rfl, rfl⟩
    rw [HL.out]
    go_wp2
    go_quiet (fail)
    have hB1 := below_drewN w1 nq
    go_wp2
    go_ret3
    rw [HD.out]
    exact ⟨_, _, _, rfl, Lib.extract_to_end s (i + 1), hB1⟩
set_option maxHeartbeats 1000000 in
theorem cut_any (s : ByteArray) (w : World) (hs : s.size < 4611686018427387904) :
    Calls Tryz.prog 38 #[.string s, .string ⟨#[47]⟩] w fun e w' => ∃ a b f, e = .returned (.tuple #[.string a, .string b, .bool f]) ∧ b.data.toList = (s.data.toList.dropWhile (· != 47)).drop 1 ∧ Below w.heap.size w w' := by
  go_enter Tryz.func38, Tryz.ntmps38
  go_wp2_with fail
  refine (cutl_any s _ hs).mono ?_
  rintro e w1 ⟨a, b, f, rfl, hb, hB⟩
  have HD := hid hb
  clear hb
  go_wp2
  go_ret3
  exact ⟨_, _, _, rfl, HD.out, hB⟩

set_option maxHeartbeats 1000000 in
theorem stripFirst_any (s : ByteArray) (n : Nat) (w : World) (hs : s.size < 4611686018427387904) (hn : n ≤ 9223372036854775807) :
    Calls Tryz.prog 21 #[.string s, .int .i64 n] w fun e w' => e = .returned (.string ⟨(Pp.stripN n s.data.toList).toArray⟩) ∧ Below w.heap.size w w' := by
  go_enter Tryz.func21, Tryz.ntmps21
  go_wp2
  go_loopw [0, 1, 5, 6, 7] (fun a i _ _ _ wr => ∃ (c : ByteArray) (k : Nat), a = .string c ∧ i = .int .i64 k ∧ k ≤ n ∧ c.size ≤ s.size ∧ Hid (Pp.stripN k c.data.toList = Pp.stripN n s.data.toList) ∧ Below w.heap.size w wr) (fun _ i _ _ _ _ => (intOf i).toNat)
  case atStart => exact ⟨s, n, rfl, rfl, Nat.le_refl _, Nat.le_refl _, (rfl : Pp.stripN n s.data.toList = _), Below.refl _ _⟩
  case round =>
    obtain ⟨c, k, rfl, rfl, hk, hc, HS, hB⟩ := hrel
    by_cases hk0 : 0 < k
    · by_cases hc0 : c.size = 0
      · have t := empty_yes c hc0
        have HF : Hid (Pp.stripN n s.data.toList = c.data.toList) := hid (by rw [← HS.out, nil_data c hc0, Pp.stripN_nil])
        clear hc0
        go_wp2
        go_ret
        exact ⟨by rw [HF.out, bytes_eta]; rfl, hB⟩
      · have t := empty_no c hc0
        go_wp2_with fail
        refine (cut_any c _ (by omega)).mono ?_
        rintro e w1 ⟨a, b, f, rfl, hb, hB1⟩
        have HD := hid hb
        clear hb
        go_wp2_with fail
        refine (Tryz.strings_TrimLeft_one b 47 (by decide) _).mono ?_
        rintro e w2 ⟨rfl, rfl⟩
        obtain ⟨c', hc'⟩ : ∃ c' : ByteArray, c' = ⟨(Lib.trimLeftB b.data.toList 47).toArray⟩ := ⟨_, rfl⟩
        rw [← hc']
        have hd : c'.data.toList = Pp.step1 c.data.toList := by
          rw [hc']
          show Lib.trimLeftB b.data.toList 47 = _
          unfold Lib.trimLeftB
          rw [HD.out]; rfl
        have hsz : c'.size ≤ s.size := by
          have := Pp.step1_len c.data.toList
          rw [← hd, size_data, size_data] at this
          omega
        have HE : Hid (Pp.stripN (k - 1) c'.data.toList = Pp.stripN n s.data.toList) := hid (by
          rw [← HS.out, hd]
          conv => rhs; rw [show k = (k - 1) + 1 by omega]
          rfl)
        clear hc' hd HD
        go_wp2
        go_roundw
        case rel => exact ⟨c', k - 1, rfl, by go_num, by omega, hsz, HE, hB.trans (hB1.mono hB.size)⟩
        case measure => simp [intOf]; omega
    · have hk1 : k = 0 := by omega
      subst hk1
      have HF : Hid (Pp.stripN n s.data.toList = c.data.toList) := hid HS.out.symm
      go_wp2
      go_ret
      exact ⟨by rw [HF.out, bytes_eta]; rfl, hB⟩
end Go.Proofs.YtmlgggnjghkojabGreatDoor
