/-
  Unified diffs: the program's readRange.
-/
import Derived.Test.YtkolgglllladfaaGreatDoorFd
namespace Go.Proofs.YtkolgglllladfaaGreatDoor.Un

def rgA (l : Bs) : Nat := (numP (cutS [44] l).1).getD 0
def rgC (l : Bs) : Bs := if (cutS [44] l).2.2 then (cutS [44] l).2.1 else [49]
def rgN (l : Bs) : Nat := (numP (rgC l)).getD 0
def rgB (l : Bs) : Bool := (numP (cutS [44] l).1).isSome && (numP (rgC l)).isSome
theorem num_49 : numP [49] = some 1 := by decide
theorem rng_eq (l : Bs) : rngP l = if rgB l then some (rgA l, rgN l) else none := by
  unfold rngP rgB rgA rgN rgC
  cases h : cutS [44] l with
  | mk a bf =>
    obtain ⟨b, f⟩ := bf
    cases f with
    | true =>
      simp only [if_true]
      cases numP a with
      | none => rfl
      | some x =>
        cases numP b with
        | none => rfl
        | some y => rfl
    | false =>
      simp only [Bool.false_eq_true, if_false]
      rw [num_49]
      cases numP a with
      | none => rfl
      | some x => rfl
theorem cut_len {sep : Bs} {s a b : Bs} {f : Bool} (h : cutS sep s = (a, b, f)) : a.length ≤ s.length ∧ b.length ≤ s.length := by
  cases f with
  | true =>
    have := congrArg List.length (cut_yes h)
    simp at this
    omega
  | false =>
    obtain ⟨rfl, rfl⟩ := cut_no h
    simp
end Go.Proofs.YtkolgglllladfaaGreatDoor.Un
namespace Go.Proofs.YtkolgglllladfaaGreatDoor
open Go.RowKit

set_option maxHeartbeats 2000000 in
set_option maxRecDepth 100000 in
theorem readRange_any {w : World} {s : ByteArray} (hs : s.size < 4294967281) (hv : LibV w) :
    Calls Tryz.prog 94 #[.string s] w fun e w' => e = .returned (.tuple #[.int .i64 (Un.rgA s.data.toList : Nat), .int .i64 (Un.rgN s.data.toList : Nat), .bool (Un.rgB s.data.toList)]) ∧ Below w.heap.size w w' := by
  obtain ⟨m, hm⟩ := hv.max
  have HC := hid (Tryz.strings_Cut s ⟨#[44]⟩ m w hs hm)
  have hcl : Lib.cut s.data.toList (ByteArray.mk #[44]).data.toList = Un.cutS [44] s.data.toList := Un.cut_lib [44] (by simp) _
  rw [hcl] at HC
  have HV := hid hv
  cases h : Un.cutS [44] s.data.toList with
  | mk x yf =>
    obtain ⟨y, f⟩ := yf
    have hlen := Un.cut_len h
    have hsz : s.data.toList.length = s.size := by rw [Array.length_toList]; rfl
    have e1 : Un.rgA s.data.toList = numI ⟨x.toArray⟩ := by unfold Un.rgA numI; rw [h]
    have e2 : Un.rgN s.data.toList = numI (if f then ⟨y.toArray⟩ else ⟨#[49]⟩) := by unfold Un.rgN Un.rgC numI; rw [h]; cases f <;> rfl
    have e3 : Un.rgB s.data.toList = (numB ⟨x.toArray⟩ && numB (if f then ⟨y.toArray⟩ else ⟨#[49]⟩)) := by unfold Un.rgB Un.rgC numB; rw [h]; cases f <;> rfl
    have HN1 := hid (fun w1 (hb : Below w.heap.size w w1) => number_any (w := w1) (s := ⟨x.toArray⟩) (by show x.toArray.size ≤ _; rw [List.size_toArray]; omega) (HV.out.below hb))
    have HN2 := hid (fun w1 (hb : Below w.heap.size w w1) => number_any (w := w1) (s := if f then ⟨y.toArray⟩ else ⟨#[49]⟩) (by cases f; exact (by decide : (1 : Nat) ≤ 4294967296); show y.toArray.size ≤ _; rw [List.size_toArray]; omega) (HV.out.below hb))
    rw [h] at HC
    dsimp only at HC
    rw [e1, e2, e3]
    generalize numI ⟨x.toArray⟩ = A at HN1 ⊢
    generalize numB ⟨x.toArray⟩ = B at HN1 ⊢
    clear hv hm hcl h hlen hsz e1 e2 e3
    cases f with
    | true =>
      simp only [if_true] at HN2 ⊢
      generalize numI ⟨y.toArray⟩ = C at HN2 ⊢
      generalize numB ⟨y.toArray⟩ = D at HN2 ⊢
      go_enter Tryz.func94, Tryz.ntmps94
      go_wp2_with fail
      refine HC.out.mono ?_
      rintro e w1 ⟨rfl, q, rfl⟩
      obtain ⟨w2, hw2⟩ : ∃ w2, w2 = w.drewN q := ⟨_, rfl⟩
      rw [← hw2]
      have HB := hid (show Below w.heap.size w w2 by rw [hw2]; exact below_drewN (Below.refl _ _) q)
      clear hw2 HC
      go_wp2_with fail
      refine (HN1.out _ HB.out).mono ?_
      rintro e w3 ⟨rfl, hb3⟩
      have HB3 := hid (HB.out.trans (hb3.mono HB.out.size))
      clear hb3
      go_wp2_with fail
      refine (HN2.out _ HB3.out).mono ?_
      rintro e w4 ⟨rfl, hb4⟩
      have HB4 := hid (HB3.out.trans (hb4.mono HB3.out.size))
      clear hb4
      cases B
      · go_wp2_with fail
        exact bodyPost_ret (v := .tuple #[.int .i64 A, .int .i64 C, .bool false]) (by simp [results, Tryz.results94, go_sem]) rfl ⟨rfl, HB4.out⟩
      · go_wp2_with fail
        exact bodyPost_ret (v := .tuple #[.int .i64 A, .int .i64 C, .bool D]) (by simp [results, Tryz.results94, go_sem]) rfl ⟨by simp, HB4.out⟩
    | false =>
      simp only [Bool.false_eq_true, if_false] at HN2 ⊢
      generalize numI ⟨#[49]⟩ = C at HN2 ⊢
      generalize numB ⟨#[49]⟩ = D at HN2 ⊢
      go_enter Tryz.func94, Tryz.ntmps94
      go_wp2_with fail
      refine HC.out.mono ?_
      rintro e w1 ⟨rfl, q, rfl⟩
      obtain ⟨w2, hw2⟩ : ∃ w2, w2 = w.drewN q := ⟨_, rfl⟩
      rw [← hw2]
      have HB := hid (show Below w.heap.size w w2 by rw [hw2]; exact below_drewN (Below.refl _ _) q)
      clear hw2 HC
      go_wp2_with fail
      refine (HN1.out _ HB.out).mono ?_
      rintro e w3 ⟨rfl, hb3⟩
      have HB3 := hid (HB.out.trans (hb3.mono HB.out.size))
      clear hb3
      go_wp2_with fail
      refine (HN2.out _ HB3.out).mono ?_
      rintro e w4 ⟨rfl, hb4⟩
      have HB4 := hid (HB3.out.trans (hb4.mono HB3.out.size))
      clear hb4
      cases B
      · go_wp2_with fail
        exact bodyPost_ret (v := .tuple #[.int .i64 A, .int .i64 C, .bool false]) (by simp [results, Tryz.results94, go_sem]) rfl ⟨rfl, HB4.out⟩
      · go_wp2_with fail
        exact bodyPost_ret (v := .tuple #[.int .i64 A, .int .i64 C, .bool D]) (by simp [results, Tryz.results94, go_sem]) rfl ⟨by simp, HB4.out⟩
end Go.Proofs.YtkolgglllladfaaGreatDoor
