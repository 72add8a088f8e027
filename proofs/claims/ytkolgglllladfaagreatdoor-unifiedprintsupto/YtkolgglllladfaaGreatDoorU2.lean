/-
  Unified diffs: what the law's sure asks, plain: the texts that are printed and read there.
-/
import Derived.Test.YtkolgglllladfaaGreatDoorGrU0
import Derived.KernelRfl
namespace Go.Proofs.YtkolgglllladfaaGreatDoor
open Go.RowKit
open Hu (Rw Hk)

def suR : List Rw := [⟨2, ⟨#[97, 10]⟩⟩, ⟨3, ⟨#[98]⟩⟩]
def suH : Hk := ⟨1, 1, 1, 1, ⟨#[]⟩, suR⟩
def suT : Un.Bs := [45, 45, 45, 32, 97, 47, 120, 10, 43, 43, 43, 32, 98, 47, 120, 10, 64, 64, 32, 45, 49, 32, 43, 49, 32, 64, 64, 10, 45, 97, 10, 43, 98, 10, 92, 32, 78, 111, 32, 110, 101, 119, 108, 105, 110, 101, 32, 97, 116, 32, 101, 110, 100, 32, 111, 102, 32, 102, 105, 108, 101, 10]
def suM : Un.Bs := [45, 45, 45, 32, 97, 47, 120, 10, 43, 43, 43, 32, 98, 47, 120, 10, 64, 64, 32, 45, 49, 32, 43, 49, 32, 64, 64, 10, 45, 97, 10, 43, 98, 10, 92, 32, 78, 111, 32, 110, 101, 119, 108, 105, 110, 101, 32, 97, 116, 32, 101, 110, 100, 32, 111, 102, 32, 102, 105, 108, 101, 10, 109, 111, 114, 101]
def suB : Un.Bs := [45, 45, 45, 32, 97, 10, 43, 43, 43, 32, 98, 10, 64, 64, 32, 45, 49, 44, 50, 32, 43, 49, 32, 64, 64, 10, 45, 120, 10]
theorem dec1 : Un.dec 1 = [49] := by
  have : Un.dec ((1 : Nat) : Int) = Lib.decDigits 1 := Un.dec_nat 1
  rw [show ((1 : Nat) : Int) = 1 from rfl] at this
  rw [this, Lib.decDigits_one (by omega)]
  rfl
theorem su_hunk : [suH].flatMap Un.hunkT = [64, 64, 32, 45, 49, 32, 43, 49, 32, 64, 64, 10, 45, 97, 10, 43, 98, 10, 92, 32, 78, 111, 32, 110, 101, 119, 108, 105, 110, 101, 32, 97, 116, 32, 101, 110, 100, 32, 111, 102, 32, 102, 105, 108, 101, 10] := by
  show Un.hunkT suH ++ [] = _
  unfold Un.hunkT Un.placeT
  have e : Un.rngT suH.a suH.n = [49] := (rng_one 1).trans dec1
  have e2 : Un.rngT suH.b suH.m = [49] := (rng_one 1).trans dec1
  have e3 : Un.mkB ++ ([49] ++ (Un.mkM ++ ([49] ++ (Un.mkC ++ Un.headT suH.head.data.toList)))) ++ 10 :: suH.rows.flatMap Un.rowT ++ [] = [64, 64, 32, 45, 49, 32, 43, 49, 32, 64, 64, 10, 45, 97, 10, 43, 98, 10, 92, 32, 78, 111, 32, 110, 101, 119, 108, 105, 110, 101, 32, 97, 116, 32, 101, 110, 100, 32, 111, 102, 32, 102, 105, 108, 101, 10] := by kernel_rfl
  rw [e, e2]
  exact e3
theorem su_print : Un.printT ([97, 47, 120], []) ([98, 47, 120], []) [suH] = suT := by
  have e : Un.nameT Un.mkOld ([97, 47, 120], []) ++ 10 :: (Un.nameT Un.mkNew ([98, 47, 120], []) ++ 10 :: [64, 64, 32, 45, 49, 32, 43, 49, 32, 64, 64, 10, 45, 97, 10, 43, 98, 10, 92, 32, 78, 111, 32, 110, 101, 119, 108, 105, 110, 101, 32, 97, 116, 32, 101, 110, 100, 32, 111, 102, 32, 102, 105, 108, 101, 10]) = suT := by kernel_rfl
  unfold Un.printT
  rw [su_hunk]
  exact e
theorem su_parse : Un.parse suM = .ok ([97, 47, 120], []) ([98, 47, 120], []) [suH] [109, 111, 114, 101] := by kernel_rfl
theorem su_bad : Un.parse suB = .bad 5 111 := by kernel_rfl
theorem su_chk : chkN [suH] = 0 := by kernel_rfl
theorem suH_sz : SzH suH := ⟨by decide, fun r hr => by unfold suH suR at hr; simp at hr; rcases hr with h | h <;> (rw [h]; decide), by decide⟩
end Go.Proofs.YtkolgglllladfaaGreatDoor
