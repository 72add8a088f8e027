/-
  The law's ahead: do the texts differ ahead of an offset?
-/
import Derived.Test.YtagjjhlegojpbaaYg
namespace Go.Proofs.Ytagjjhlegojpbaa
open Go.RowKit
open Ed (Ch Pr)

set_option maxHeartbeats 2000000 in
set_option maxRecDepth 100000 in
theorem ahead_any (x y : ByteArray) (o : Nat) (w : World) (h1 : 1 ≤ o) (hx : o ≤ x.size) (hy : o ≤ y.size) (hx2 : x.size ≤ 1099511627776) (hd : x.data.toList.take (o - 1) ≠ y.data.toList.take (o - 1)) :
    Calls Try.prog 17 #[.string x, .string y, .int .i64 o] w fun e w' => e = .returned (.bool true) ∧ ∃ m, w' = w.drewN m := by
  obtain ⟨p, rfl⟩ : ∃ p, o = p + 1 := ⟨o - 1, by omega⟩
  rw [Nat.add_sub_cancel] at hd
  have i1 : decide ((((p + 1 : Nat) : Int)) ≥ 1) = true := decide_eq_true (by omega)
  have i2 : decide ((((p + 1 : Nat) : Int)) ≤ (x.size : Int)) = true := decide_eq_true (by omega)
  have i3 : decide ((((p + 1 : Nat) : Int)) ≤ (y.size : Int)) = true := decide_eq_true (by omega)
  have j1 : IntKind.i64.wrap (((p + 1 : Nat) : Int) - 1) = (p : Int) := by rw [IntKind.wrap_i64]; omega
  have k1 : (0 : Int) ≤ (p : Int) := by omega
  have k2 : (p : Int) ≤ (x.size : Int) := by omega
  have k3 : (p : Int) ≤ (y.size : Int) := by omega
  have hne : ((x.extract 0 p).toList == (y.extract 0 p).toList) = false := by
    rw [ByteArray.toList_eq, ByteArray.toList_eq]
    refine beq_eq_false_iff_ne.2 fun e => hd ?_
    simpa [ByteArray.data_extract] using e
  generalize ((p + 1 : Nat) : Int) = O at i1 i2 i3 j1 ⊢
  clear hx hy h1
  go_enter Try.func17, Try.ntmps17
  go_wp2_with fail
  go_quiet (fail)
  go_wp2
  go_ret
  exact ⟨rfl, ⟨_, rfl⟩⟩
end Go.Proofs.Ytagjjhlegojpbaa
