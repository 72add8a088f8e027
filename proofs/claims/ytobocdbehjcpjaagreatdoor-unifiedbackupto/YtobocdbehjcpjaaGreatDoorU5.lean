/-
  Unified diffs: Parse by what it answers; two names laid.
-/
import Derived.Test.YtobocdbehjcpjaaGreatDoorU3
import Derived.Test.YtobocdbehjcpjaaGreatDoorU4
namespace Go.Proofs.YtobocdbehjcpjaaGreatDoor
open Go.RowKit
open Hu (Rw Hk)

theorem pa_bad {w : World} {s : ByteArray} {c er : Nat} (h : Un.parse s.data.toList = .bad c er) (hv : LibV w) (hs : s.size ≤ maxLen) : Calls Tryz.prog 16 #[.string s] w fun e w' => Below w.heap.size w w' ∧ e = .returned (.tuple #[.agg #[.string ⟨#[]⟩, .string ⟨#[]⟩], .agg #[.string ⟨#[]⟩, .string ⟨#[]⟩], .slice none 0 0, .string ⟨#[]⟩, .int .i64 (c : Nat), .iface 54 (.int .i64 (er : Nat))]) := by
  refine (parse_any hv hs).mono ?_
  rintro e w' ⟨hb, ha⟩
  rw [h] at ha
  exact ⟨hb, ha⟩
theorem pa_ok {w : World} {s : ByteArray} {o q : Un.Bs × Un.Bs} {hs : List Hk} {rest : Un.Bs} (h : Un.parse s.data.toList = .ok o q hs rest) (hv : LibV w) (hz : s.size ≤ maxLen) : Calls Tryz.prog 16 #[.string s] w fun e w' => Below w.heap.size w w' ∧ ∃ va vc, e = .returned (.tuple #[.agg #[.string (bB o.1), .string (bB o.2)], .agg #[.string (bB q.1), .string (bB q.2)], .slice va hs.length vc, .string (bB rest), .int .i64 0, .nilIface]) ∧ OwnH w' w.heap.size (.slice va hs.length vc) hs ∧ (∀ h ∈ hs, SzH h) ∧ hs.length ≤ 5000000 := by
  refine (parse_any hv hz).mono ?_
  rintro e w' ⟨hb, ha⟩
  rw [h] at ha
  obtain ⟨v, he, hO, h1, h2⟩ := ha
  obtain ⟨va, vc, rfl⟩ := hO.shape
  exact ⟨hb, va, vc, he, hO, h1, h2⟩
theorem parse_ne {s : Un.Bs} {o q : Un.Bs × Un.Bs} {hs : List Hk} {rest : Un.Bs} (h : Un.parse s = .ok o q hs rest) : s ≠ [] := by
  rintro rfl
  have : Un.parse [] = .bad 1 110 := by kernel_rfl
  rw [this] at h
  cases h
theorem SzH.rowsLe {h : Hk} (hz : SzH h) : h.rows.length ≤ 5864062014800 := Nat.le_of_lt hz.1
end Go.Proofs.YtobocdbehjcpjaaGreatDoor
