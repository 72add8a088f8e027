/-
  Unified diffs: the program's Row, readMark, begins.
-/
import Derived.Test.YtkolgglllladfaaGreatDoorFi
import Derived.Test.YtkolgglllladfaaGreatDoorShelf2
namespace Go.Proofs.YtkolgglllladfaaGreatDoor
open Go.RowKit

def bB (l : Un.Bs) : ByteArray := ⟨l.toArray⟩
theorem bB_data (l : Un.Bs) : (bB l).data.toList = l := rfl
theorem bB_eta (x : ByteArray) : bB x.data.toList = x := by cases x; simp [bB]
theorem bareB_eq (s : ByteArray) : Cx.bareB s = bB (Un.bare s.data.toList) := by
  apply ba_ext
  rw [bB_data]
  unfold Cx.bareB Un.bare
  split
  · rename_i h
    rw [ext0]
    have := dsize s
    rw [← this, ← List.dropLast_eq_take]
  · rfl
theorem isEnd_pre (l : Un.Bs) : Lib.hasPrefix l [92] = Un.isEnd l := by
  cases l with
  | nil => rfl
  | cons c t =>
    unfold Lib.hasPrefix Un.isEnd
    by_cases h : c = 92
    · subst h; simp [List.isPrefixOf]
    · have h1 : ((92 : UInt8) == c) = false := beq_eq_false_iff_ne.2 (fun e => h e.symm)
      simp [List.isPrefixOf, h1, h]
/-- what Row reads -/
def rowX (x : ByteArray) : ByteArray := if Un.isEnd (Un.nx (Un.adv x.data.toList)) then advB (advB x) else advB x
def rowC (x : ByteArray) (c : Nat) : Nat := if Un.isEnd (Un.nx (Un.adv x.data.toList)) then c + 2 else c + 1
def rowV (x : ByteArray) (j : Nat) : ByteArray := if Un.isEnd (Un.nx (Un.adv x.data.toList)) then bB (Un.bare ((Un.nx x.data.toList).drop j)) else bB ((Un.nx x.data.toList).drop j)
set_option maxHeartbeats 1000000 in
set_option maxRecDepth 100000 in
theorem row_any {w : World} {R c j : Nat} {x : ByteArray} (h : RdrAt w R c x) (hs : x.size ≤ 4194304) (hc9 : c ≤ 8000000) (hj : j ≤ (nxB x).size) :
    Calls Tryz.prog 96 #[.pointer (some ⟨R, 0, none⟩), .string (nxB x), .int .i64 j] w fun e w' => e = .returned (.string (rowV x j)) ∧ RdrAt w' R (rowC x c) (rowX x) ∧ KeptR R w w' := by
  have HP := hid (pass_any h hs (by omega))
  have hsz := nxB_size x
  have ha := advB_size x
  have HN := hid (fun w1 (h1 : RdrAt w1 R (c + 1) (advB x)) => next_any h1 (by omega))
  have HP2 := hid (fun w1 (h1 : RdrAt w1 R (c + 1) (advB x)) => pass_any h1 (by omega) (by omega))
  have HH := hid (fun w1 => Tryz.strings_HasPrefix (nxB (advB x)) ⟨#[92]⟩ w1)
  have hpe : Lib.hasPrefix (nxB (advB x)).data.toList (ByteArray.mk #[92]).data.toList = Un.isEnd (Un.nx (Un.adv x.data.toList)) := isEnd_pre _
  rw [hpe] at HH
  have HX : Hid ((nxB x).extract j (nxB x).size = bB ((Un.nx x.data.toList).drop j)) := hid (ba_ext (by rw [ext1, bB_data, nxB_data]))
  have hbs : (bB ((Un.nx x.data.toList).drop j)).size ≤ (nxB x).size := by rw [← HX.out]; simp
  have HB := hid (fun w1 => Cx.bare_any (bB ((Un.nx x.data.toList).drop j)) w1 (by unfold maxLen; omega))
  rw [bareB_eq, bB_data] at HB
  unfold rowV rowC rowX
  generalize Un.isEnd (Un.nx (Un.adv x.data.toList)) = E at HH ⊢
  generalize bB (Un.bare ((Un.nx x.data.toList).drop j)) = U at HB ⊢
  generalize bB ((Un.nx x.data.toList).drop j) = V at HX HB hbs ⊢
  generalize nxB (advB x) = y2 at HN HP2 HH
  generalize advB (advB x) = x2 at HP2 ⊢
  generalize advB x = x1 at HP HN HP2 ha ⊢
  generalize nxB x = y at HP HX hj hsz hbs ⊢
  have hj' : (j : Int) ≤ (y.size : Int) := by omega
  clear h hpe hbs
  go_enter Tryz.func96, Tryz.ntmps96
  go_wp2_with fail
  refine HP.out.mono ?_
  rintro e w1 ⟨rfl, hr1, hk1⟩
  have HR1 := hid hr1
  have HK1 := hid hk1
  clear hr1 hk1 HP
  go_wp2_with fail
  refine (HN.out w1 HR1.out).mono ?_
  rintro e w2 ⟨rfl, rfl⟩
  rw [HX.out]
  go_wp2_with fail
  refine (HH.out _).mono ?_
  rintro e w2 ⟨rfl, rfl⟩
  cases E with
  | true =>
    go_wp2_with fail
    refine (HP2.out w2 HR1.out).mono ?_
    rintro e w3 ⟨rfl, hr3, hk3⟩
    have HR3 := hid hr3
    have HK3 := hid (HK1.out.trans hk3)
    clear hr3 hk3
    go_wp2_with fail
    refine (HB.out _).mono ?_
    rintro e w4 ⟨rfl, rfl⟩
    go_wp2_with fail
    go_ret
    exact ⟨rfl, HR3.out, HK3.out⟩
  | false =>
    go_wp2_with fail
    go_ret
    exact ⟨rfl, HR1.out, HK1.out⟩
/-! ### marks -/
def mkK (l : Un.Bs) : Int := match Un.mark l with | some (k, _) => k | none => 0
def mkJ (l : Un.Bs) : Nat := if l = [10] then 0 else if l = [] then 0 else 1
def mkO (l : Un.Bs) : Bool := (Un.mark l).isSome
theorem mark_some {l : Un.Bs} {k : Int} {j : Nat} (h : Un.mark l = some (k, j)) : mkK l = k ∧ mkJ l = j ∧ mkO l = true ∧ (k = 1 ∨ k = 2 ∨ k = 3) ∧ j ≤ l.length := by
  unfold mkK mkO
  rw [h]
  refine ⟨rfl, ?_, rfl, ?_⟩
  · unfold Un.mark at h
    unfold mkJ
    split at h
    · rename_i e; cases h; rw [if_pos e]
    · rename_i e
      rw [if_neg e]
      split at h
      · cases h
      · rename_i c hc
        rw [if_neg (by rintro rfl; cases hc)]
        split at h
        · cases h; rfl
        · split at h
          · cases h; rfl
          · split at h
            · cases h; rfl
            · cases h
  · unfold Un.mark at h
    split at h
    · cases h; exact ⟨.inl rfl, Nat.zero_le _⟩
    · split at h
      · cases h
      · rename_i c hc
        have hl : 1 ≤ l.length := by cases l with | nil => cases hc | cons => simp
        split at h
        · cases h; exact ⟨.inl rfl, hl⟩
        · split at h
          · cases h; exact ⟨.inr (.inl rfl), hl⟩
          · split at h
            · cases h; exact ⟨.inr (.inr rfl), hl⟩
            · cases h
theorem mark_none {l : Un.Bs} (h : Un.mark l = none) : mkK l = 0 ∧ mkO l = false := by
  unfold mkK mkO
  rw [h]
  exact ⟨rfl, rfl⟩
theorem mark_idx (c : UInt8) : Lib.indexByte [32, 45, 43] c = (if c = 32 then 0 else if c = 45 then 1 else if c = 43 then 2 else -1) := by
  have := Pq.all_bytes (fun c => Lib.indexByte [32, 45, 43] c == (if c = 32 then 0 else if c = 45 then 1 else if c = 43 then 2 else -1)) (by decide +kernel) c
  simpa using this
theorem mark_cons {c : UInt8} {t : Un.Bs} (h : c :: t ≠ [10]) : mkK (c :: t) = 1 + Lib.indexByte [32, 45, 43] c ∧ mkJ (c :: t) = 1 ∧ mkO (c :: t) = decide (0 ≤ Lib.indexByte [32, 45, 43] c) := by
  rw [mark_idx]
  unfold mkK mkJ mkO Un.mark
  rw [if_neg h, if_neg h]
  simp only [List.head?_cons]
  by_cases h1 : c = 32
  · simp [h1]
  · by_cases h2 : c = 45
    · simp [h2]
    · by_cases h3 : c = 43
      · simp [h3]
      · simp [h1, h2, h3]
theorem str_eq (x : ByteArray) (l : List UInt8) : (x.toList == l) = decide (x.data.toList = l) := by
  rw [Lib.toList_data]
  by_cases h : x.data.toList = l
  · rw [decide_eq_true h]; exact beq_iff_eq.2 h
  · rw [decide_eq_false h]; exact beq_eq_false_iff_ne.2 h
set_option maxHeartbeats 1000000 in
set_option maxRecDepth 100000 in
theorem readMark_any (s : ByteArray) (w : World) :
    Calls Tryz.prog 95 #[.string s] w fun e w' => e = .returned (.tuple #[.int .i64 (mkK s.data.toList), .int .i64 (mkJ s.data.toList : Nat), .bool (mkO s.data.toList)]) ∧ w' = w := by
  have e1 := str_eq s [10]
  by_cases h10 : s.data.toList = [10]
  · rw [decide_eq_true h10] at e1
    rw [h10]
    clear h10
    go_enter Tryz.func95, Tryz.ntmps95
    go_wp2_with fail
    go_ret3
    exact ⟨rfl, rfl⟩
  · rw [decide_eq_false h10] at e1
    by_cases h0 : s.size = 0
    · have he := Cx.empty_yes s h0
      have : s.data.toList = [] := List.length_eq_zero_iff.1 (by rw [dsize]; exact h0)
      rw [this]
      clear h0 this h10
      go_enter Tryz.func95, Tryz.ntmps95
      go_wp2_with fail
      go_ret3
      exact ⟨rfl, rfl⟩
    · have he := Cx.empty_no s h0
      have hd : s.data.toList = s[0] :: s.data.toList.drop 1 := by
        have h2 := Cx.byte_at s 0 (by omega)
        cases hq : s.data.toList with
        | nil => rw [hq] at h2; cases h2
        | cons a t =>
          rw [hq] at h2
          rw [Option.some.inj h2]
          rfl
      rw [hd] at h10
      have HM := hid (mark_cons h10)
      rw [← hd] at HM
      have hi := mark_idx s[0]
      have hb1 : -1 ≤ Lib.indexByte [32, 45, 43] s[0] := by rw [hi]; split; omega; split; omega; split <;> omega
      have hb2 : Lib.indexByte [32, 45, 43] s[0] ≤ 2 := by rw [hi]; split; omega; split; omega; split <;> omega
      have h1' : (0 : Int) < (s.size : Int) := by omega
      have hbt : (((s[0].toNat : Int).toNat.toUInt8)) = s[0] := by simp
      rw [HM.out.1, HM.out.2.1, HM.out.2.2]
      obtain ⟨I, hI⟩ : ∃ I, I = Lib.indexByte [32, 45, 43] s[0] := ⟨_, rfl⟩
      rw [← hI] at hb1 hb2 ⊢
      have HI := hid hI
      clear h10 hd hi HM hI
      go_enter Tryz.func95, Tryz.ntmps95
      go_wp2_with fail
      refine (Tryz.strings_IndexByte _ _ _).mono ?_
      rintro e w1 ⟨rfl, rfl⟩
      rw [hbt, show (ByteArray.mk #[32, 45, 43]).data.toList = [32, 45, 43] from rfl, ← HI.out]
      clear hbt
      go_wp2_with fail
      go_ret3
      exact ⟨rfl, rfl⟩
set_option maxHeartbeats 1000000 in
theorem begins_any (s : ByteArray) (w : World) :
    Calls Tryz.prog 29 #[.string s] w fun e w' => e = .returned (.bool (Un.begs s.data.toList)) ∧ w' = w := by
  have hpe : Lib.hasPrefix s.data.toList (ByteArray.mk #[64, 64, 32, 45]).data.toList = Un.begs s.data.toList := rfl
  have HH := hid (Tryz.strings_HasPrefix s ⟨#[64, 64, 32, 45]⟩ w)
  rw [hpe] at HH
  go_enter Tryz.func29, Tryz.ntmps29
  go_wp2_with fail
  refine HH.out.mono ?_
  rintro e w1 ⟨rfl, rfl⟩
  go_wp2_with fail
  go_ret
  exact ⟨rfl, rfl⟩
end Go.Proofs.YtkolgglllladfaaGreatDoor
