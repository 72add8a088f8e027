/-
  Unified diffs: the program's Head.
-/
import Derived.Test.YtkolgglllladfaaGreatDoorFe
namespace Go.Proofs.YtkolgglllladfaaGreatDoor
open Go.RowKit

theorem headP_pre (l : Un.Bs) : (Un.headP l).isSome = (Lib.hasPrefix l [32] || l.isEmpty) := by
  cases l with
  | nil => rfl
  | cons c r =>
    unfold Un.headP Lib.hasPrefix
    by_cases h : c = 32
    · subst h; simp [List.isPrefixOf]
    · have : (32 == c) = false := by simpa using fun e : 32 = c => h e.symm
      simp [h, List.isPrefixOf, this]
theorem headP_trim {l h : Un.Bs} (e : Un.headP l = some h) : Lib.trimPrefix l [32] = h := by
  cases l with
  | nil => cases e; rfl
  | cons c r =>
    unfold Un.headP at e
    simp only at e
    split at e
    · rename_i hc
      cases e
      subst hc
      simp [Lib.trimPrefix, Lib.hasPrefix, List.isPrefixOf]
    · cases e
set_option maxHeartbeats 1000000 in
set_option maxRecDepth 100000 in
theorem dhead_any {w : World} {s : ByteArray} :
    Calls Tryz.prog 93 #[.string s] w fun e w' => e = .returned (.tuple #[.string ⟨(Lib.trimPrefix s.data.toList [32]).toArray⟩, .bool (Un.headP s.data.toList).isSome]) ∧ w' = w := by
  have HC := hid (Tryz.strings_CutPrefix s ⟨#[32]⟩ w)
  rw [headP_pre]
  have hcl : (ByteArray.mk #[32]).data.toList = [32] := rfl
  rw [hcl] at HC
  generalize Lib.trimPrefix s.data.toList [32] = T at HC ⊢
  cases hp : Lib.hasPrefix s.data.toList [32] with
  | true =>
    rw [hp] at HC
    clear hcl hp
    go_enter Tryz.func93, Tryz.ntmps93
    go_wp2_with fail
    refine HC.out.mono ?_
    rintro e w1 ⟨rfl, rfl⟩
    go_wp2_with fail
    go_ret2
    exact ⟨rfl, rfl⟩
  | false =>
    rw [hp] at HC
    clear hcl hp
    by_cases he : s.data.toList = []
    · have e1 : (s.toList == []) = true := by
        have : s.toList = s.data.toList := Lib.toList_data s
        rw [this, he]; rfl
      rw [he]
      clear he
      go_enter Tryz.func93, Tryz.ntmps93
      go_wp2_with fail
      refine HC.out.mono ?_
      rintro e w1 ⟨rfl, rfl⟩
      go_wp2_with fail
      go_ret2
      exact ⟨rfl, rfl⟩
    · have e0 : (false || s.data.toList.isEmpty) = false := by
        cases hq : s.data.toList with
        | nil => exact absurd hq he
        | cons => rfl
      have e1 : (s.toList == []) = false := by
        have : s.toList = s.data.toList := Lib.toList_data s
        rw [this]
        cases hq : s.data.toList with
        | nil => exact absurd hq he
        | cons => rfl
      rw [e0]
      clear he e0
      go_enter Tryz.func93, Tryz.ntmps93
      go_wp2_with fail
      refine HC.out.mono ?_
      rintro e w1 ⟨rfl, rfl⟩
      go_wp2_with fail
      go_ret2
      exact ⟨rfl, rfl⟩
end Go.Proofs.YtkolgglllladfaaGreatDoor
