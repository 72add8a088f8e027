/-
  Unified diffs, plain: the library's Cut and ParseUint are those of the text Fa.
-/
import Derived.Test.YtkolgglllladfaaGreatDoorFa
import Derived.Lib.IndexMore
import Derived.Lib.ParseIntB
namespace Go.Proofs.YtkolgglllladfaaGreatDoor.Un
open Go

theorem cut_lib (sep : Bs) (hs : sep ≠ []) : ∀ s : Bs, Lib.cut s sep = cutS sep s
  | [] => by
    cases sep with
    | nil => exact absurd rfl hs
    | cons d sep => rfl
  | c :: r => by
    have ih := cut_lib sep hs r
    have hge := Lib.index_ge r sep
    unfold cutS
    unfold Lib.cut at ih ⊢
    by_cases hp : sep.isPrefixOf (c :: r) = true
    · have e : Lib.index (c :: r) sep = 0 := by unfold Lib.index; rw [if_pos hp]
      have e2 : pre sep (c :: r) = some ((c :: r).drop sep.length) := by unfold pre; rw [if_pos hp]
      rw [e2, e]
      simp
    · have e2 : pre sep (c :: r) = none := by unfold pre; rw [if_neg hp]
      rw [e2]
      simp only
      rw [← ih]
      by_cases hi : Lib.index r sep = -1
      · have e : Lib.index (c :: r) sep = -1 := by unfold Lib.index; rw [if_neg hp, hi]; rfl
        rw [e, hi]
        simp
      · have h0 : 0 ≤ Lib.index r sep := by omega
        have e : Lib.index (c :: r) sep = Lib.index r sep + 1 := by
          have h : Lib.index (c :: r) sep = if sep.isPrefixOf (c :: r) then 0 else if Lib.index r sep == -1 then -1 else Lib.index r sep + 1 := rfl
          rw [h, if_neg hp, if_neg (by simpa using hi)]
        rw [e, if_pos (by omega), if_pos h0, show (Lib.index r sep + 1).toNat = (Lib.index r sep).toNat + 1 by omega]
        simp only [List.take_succ_cons]
        rw [show (Lib.index r sep).toNat + 1 + sep.length = (Lib.index r sep).toNat + sep.length + 1 by omega, List.drop_succ_cons]
/-! ### numbers -/
def valA (acc : Nat) (l : Bs) : Nat := l.foldl (fun n c => n * 10 + (c.toNat - 48)) acc
theorem valA_ge : ∀ (l : Bs) (acc : Nat), acc ≤ valA acc l
  | [], _ => Nat.le_refl _
  | c :: r, acc => Nat.le_trans (by omega) (valA_ge r (acc * 10 + (c.toNat - 48)))
theorem uint_ok {M : Nat} : ∀ (l : Bs) (acc u : Nat), Lib.parseUintM M acc l = .ok u → l.all dg = true ∧ valA acc l = u
  | [], acc, u, h => by
    unfold Lib.parseUintM at h
    cases h
    exact ⟨rfl, rfl⟩
  | c :: r, acc, u, h => by
    unfold Lib.parseUintM at h
    split at h
    · rename_i hd
      split at h
      · cases h
      · split at h
        · cases h
        · obtain ⟨h1, h2⟩ := uint_ok r _ u h
          refine ⟨?_, h2⟩
          rw [List.all_cons, h1, Bool.and_true]
          unfold dg
          simp [hd.1, hd.2]
    · cases h
theorem uint_syntax {M : Nat} : ∀ (l : Bs) (acc : Nat), Lib.parseUintM M acc l = .syntax → l.all dg = false
  | [], acc, h => by unfold Lib.parseUintM at h; cases h
  | c :: r, acc, h => by
    unfold Lib.parseUintM at h
    rw [List.all_cons]
    split at h
    · split at h
      · cases h
      · split at h
        · cases h
        · rw [uint_syntax r _ h, Bool.and_false]
    · rename_i hd
      have : dg c = false := by
        unfold dg
        cases h1 : decide (48 ≤ c.toNat) with
        | false => rfl
        | true =>
          have h1 := of_decide_eq_true h1
          simp
          omega
      rw [this, Bool.false_and]
theorem uint_range {M : Nat} (hM : 2147483647 < M) : ∀ (l : Bs) (acc : Nat), Lib.parseUintM M acc l = .range → 2147483647 < valA acc l
  | [], acc, h => by unfold Lib.parseUintM at h; cases h
  | c :: r, acc, h => by
    unfold Lib.parseUintM at h
    have hv := valA_ge r (acc * 10 + (c.toNat - 48))
    have e : valA acc (c :: r) = valA (acc * 10 + (c.toNat - 48)) r := rfl
    rw [e]
    split at h
    · split at h
      · omega
      · split at h
        · omega
        · exact uint_range hM r _ h
    · cases h
/-- what the program takes for a number -/
theorem num_ok {l : Bs} {u : Nat} (h : Lib.parseUintB 64 l = .ok u) : numP l = if u ≤ 2147483647 then some u else none := by
  unfold Lib.parseUintB at h
  split at h
  · cases h
  · rename_i hne
    obtain ⟨h1, h2⟩ := uint_ok l 0 u h
    have e : val l = u := h2
    unfold numP
    rw [e]
    by_cases hu : u ≤ 2147483647
    · rw [if_pos ⟨hne, h1, hu⟩, if_pos hu]
    · rw [if_neg (fun hh => hu hh.2.2), if_neg hu]
theorem num_syntax {l : Bs} (h : Lib.parseUintB 64 l = .syntax) : numP l = none := by
  unfold Lib.parseUintB at h
  unfold numP
  split at h
  · rename_i he
    rw [if_neg (fun hh => hh.1 he)]
  · have := uint_syntax l 0 h
    rw [if_neg (fun hh => by rw [this] at hh; cases hh.2.1)]
theorem num_range {l : Bs} (h : Lib.parseUintB 64 l = .range) : numP l = none := by
  unfold Lib.parseUintB at h
  unfold numP
  split at h
  · cases h
  · have := uint_range (by decide) l 0 h
    have e : val l = valA 0 l := rfl
    rw [if_neg (fun hh => by have := hh.2.2; omega)]
end Go.Proofs.YtkolgglllladfaaGreatDoor.Un
