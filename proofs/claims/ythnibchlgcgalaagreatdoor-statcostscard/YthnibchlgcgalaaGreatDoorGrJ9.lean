/-
  Several texts in one: J9, C7, Ja.
-/
import Derived.Test.YthnibchlgcgalaaGreatDoorGrJ6
import Derived.Test.YthnibchlgcgalaaGreatDoorGrC4
import Derived.Test.YthnibchlgcgalaaGreatDoorGrC
import Derived.Deep.DeepCutAuto
/-
  The walks of hunk and endsFit.
-/
namespace Go.Proofs.YthnibchlgcgalaaGreatDoor
open Go.RowKit
open Hu (Rw Hk)
open Ed (Ch)

end Go.Proofs.YthnibchlgcgalaaGreatDoor
/-
  The walks of Cost, and of the document's Valid and Cost.
-/
namespace Go.Proofs.YthnibchlgcgalaaGreatDoor
open Go.RowKit
open Ed (Ch Run Pr)

theorem costO_at {s : List Ch} {k : Nat} {c : Ch} {x y : Int} (h : s[k]? = some c) : Ed.costO (s.drop k) x y = if c.a < 0 ∨ c.n < 0 ∨ c.b < 0 ∨ c.m < 0 ∨ 4611686018427387904 - x < c.n ∨ 4611686018427387904 - y < c.m then none else Ed.costO (s.drop (k + 1)) (x + c.n) (y + c.m) := by
  rw [drop_at h]; rfl
theorem min_neg (a n b m : Int) : (if m < (if b < (if n < a then n else a) then b else (if n < a then n else a)) then m else (if b < (if n < a then n else a) then b else (if n < a then n else a))) < 0 ↔ (a < 0 ∨ n < 0 ∨ b < 0 ∨ m < 0) := by
  (repeat' split) <;> omega
theorem run_min2 (x y : Int) (w : World) : (Builtin.min2 (.int .i64 x) (.int .i64 y)).run Tryz.prog w = .ok (.int .i64 (if y < x then y else x)) w := by
  by_cases h : y < x <;> simp [Builtin.min2, go_sem, h]
theorem run_min4 (a n b m : Int) (w : World) : (Builtin.min_ #[3, 3, 3, 3] 3 #[.int .i64 a, .int .i64 n, .int .i64 b, .int .i64 m]).run Tryz.prog w = .ok (.int .i64 (if m < (if b < (if n < a then n else a) then b else (if n < a then n else a)) then m else (if b < (if n < a then n else a) then b else (if n < a then n else a)))) w := by
  simp [Builtin.min_, go_sem, run_min2]
theorem cost_none {s : List Ch} (h : Ed.costO s 0 0 = none) : Ed.costP s = (0, 0) := by unfold Ed.costP; rw [h]; rfl
theorem cost_some {s : List Ch} {x y : Int} (h : Ed.costO s 0 0 = some (x, y)) : Ed.costP s = (x, y) := by unfold Ed.costP; rw [h]; rfl
theorem ret_two {a b : Value} {p q : Int} (h1 : a = .int .i64 p) (h2 : b = .int .i64 q) : Ending.returned (.tuple #[a, b]) = .returned (.tuple #[.int .i64 p, .int .i64 q]) := by rw [h1, h2]

set_option maxHeartbeats 4000000 in
set_option maxRecDepth 100000 in
theorem refCost_any {v : Value} {s : List Ch} {w : World} (hr : RdC w v s) (hwf : ∀ c ∈ s, WfC c) (hl : s.length ≤ 10000000000000) :
    Calls Tryz.prog 10 #[v] w fun e w' => e = .returned (.tuple #[.int .i64 (Ed.costP s).1, .int .i64 (Ed.costP s).2]) ∧ Below w.heap.size w w' := by
  obtain ⟨a, c, rfl⟩ := hr.shape
  have HR := hid hr
  have HWF := hid hwf
  clear hr hwf
  have hb0 := Below.refl w.heap.size w
  go_enter Tryz.func10, Tryz.ntmps10
  go_wp2
  go_loopw [4, 5, 6] (fun x y i wr => ∃ (k : Nat) (ca cb : Int), k ≤ s.length ∧ i = .int .i64 k ∧ x = .int .i64 ca ∧ y = .int .i64 cb ∧ 0 ≤ ca ∧ ca ≤ 4611686018427387904 ∧ 0 ≤ cb ∧ cb ≤ 4611686018427387904 ∧ Hid (Ed.costO s 0 0 = Ed.costO (s.drop k) ca cb) ∧ Below w.heap.size w wr) (fun _ _ i _ => s.length - (intOf i).toNat)
  case atStart => exact ⟨0, 0, 0, Nat.zero_le _, rfl, rfl, rfl, by omega, by omega, by omega, by omega, rfl, hb0⟩
  case round =>
    obtain ⟨k, ca, cb, hk, rfl, rfl, rfl, hca0, hca1, hcb0, hcb1, HV, hb⟩ := hrel
    clear hb0
    by_cases hlt : k < s.length
    · obtain ⟨x, hx⟩ : ∃ x, s[k]? = some x := ⟨_, List.getElem?_eq_getElem hlt⟩
      obtain ⟨⟨wa1, wa2⟩, ⟨wn1, wn2⟩, ⟨wb1, wb2⟩, ⟨wm1, wm2⟩⟩ := HWF.out x (List.mem_of_getElem? hx)
      obtain ⟨b, o, rfl, hblt, c0, c1, c2, c3⟩ := rdC_at (HR.out.below hb) hx
      have HV2 := hid (HV.out.trans (costO_at hx))
      have HB1 := hid (hb.alloc hb.size (.cells #[.int .i64 x.a, .int .i64 x.n, .int .i64 x.b, .int .i64 x.m] 68))
      have i1 : (0 : Int) ≤ (k : Int) := by omega
      have i2 : (k : Int) < (s.length : Int) := by omega
      clear hx hb HV
      by_cases h1 : x.a < 0
      · have HE := hid (cost_none (HV2.out.trans (if_pos (by omega))))
        go_wp2
        go_ret2
        exact ⟨by rw [HE.out]; rfl, HB1.out⟩
      by_cases h2 : x.b < 0
      · have HE := hid (cost_none (HV2.out.trans (if_pos (by omega))))
        go_wp2
        go_ret2
        exact ⟨by rw [HE.out]; rfl, HB1.out⟩
      by_cases h3 : x.n < 0
      · have HE := hid (cost_none (HV2.out.trans (if_pos (by omega))))
        go_wp2
        go_ret2
        exact ⟨by rw [HE.out]; rfl, HB1.out⟩
      by_cases h4 : x.m < 0
      · have HE := hid (cost_none (HV2.out.trans (if_pos (by omega))))
        go_wp2
        go_ret2
        exact ⟨by rw [HE.out]; rfl, HB1.out⟩
      by_cases h5 : 4611686018427387904 - ca < x.n
      · have HE := hid (cost_none (HV2.out.trans (if_pos (by omega))))
        go_wp2
        go_ret2
        exact ⟨by rw [HE.out]; rfl, HB1.out⟩
      by_cases h6 : 4611686018427387904 - cb < x.m
      · have HE := hid (cost_none (HV2.out.trans (if_pos (by omega))))
        go_wp2
        go_ret2
        exact ⟨by rw [HE.out]; rfl, HB1.out⟩
      have HE := hid (HV2.out.trans (if_neg (by omega)))
      go_wp2
      go_roundw
      case rel => exact ⟨k + 1, ca + x.n, cb + x.m, by omega, by go_num, by go_num, by go_num, by omega, by omega, by omega, by omega, HE.out, HB1.out⟩
      case measure => simp [intOf]; omega
    · have hkk : s.drop k = [] := List.drop_eq_nil_of_le (by omega)
      have HE := hid (cost_some (HV.out.trans (by rw [hkk]; rfl)))
      have HB := hid hb
      clear hkk HV hb
      go_wp2
      go_ret2
      exact ⟨by rw [HE.out]; rfl, HB.out⟩
end Go.Proofs.YthnibchlgcgalaaGreatDoor
/-
  The walk of ofGroup: what it leans on.
-/
namespace Go.Proofs.YthnibchlgcgalaaGreatDoor.Hu
open Ed (Ch)
theorem sl_nat (l : List ByteArray) (x y : Nat) : sl l x y = (l.drop x).take (y - x) := by
  unfold sl
  rw [show ((x : Int)).toNat = x by omega, show ((y : Int) - (x : Int)).toNat = y - x by omega]
theorem ofG_facts {g : List Ch} {ctx : Int} {a b : List ByteArray} (hne : g ≠ []) (hinc : inc g (fromG ctx g) (fromH ctx g) a.length b.length) (h0 : 0 ≤ fromG ctx g) (h1 : 0 ≤ fromH ctx g) (hc0 : 0 ≤ ctx) (ha : a.length ≤ 4194304) (hb : b.length ≤ 4194304) :
    endA (fromG ctx g) g ≤ toG ctx a.length g ∧ toG ctx a.length g ≤ a.length ∧ fromG ctx g ≤ toG ctx a.length g ∧ Ed.costP g = (Ed.goneS g, Ed.comeS g) ∧ ((rowsG a b (fromG ctx g) g (toG ctx a.length g)).length : Int) = toG ctx a.length g - fromG ctx g + Ed.comeS g ∧ 0 ≤ Ed.comeS g ∧ Ed.comeS g ≤ 4194304 := by
  have e1 := endA_last (x := fromG ctx g) hne
  obtain ⟨q1, q2, q3, q4⟩ := endA_ge hinc
  have e2 : toG ctx a.length g = min (endA (fromG ctx g) g + ctx) a.length := by unfold toG; rw [← e1]
  have e3 := cost_inc hinc h0 h1 (Int.le_refl 0) (Int.le_refl 0) h0 h1 (by omega) (by omega)
  have e4 := inc_come hinc
  have h2 : endA (fromG ctx g) g ≤ toG ctx a.length g := by rw [e2]; omega
  have h3 : toG ctx a.length g ≤ a.length := by rw [e2]; omega
  refine ⟨h2, h3, by omega, ?_, len_rowsG hinc h0 h1 h2 h3 (Int.le_refl _), e4.1, by omega⟩
  unfold Ed.costP
  rw [e3]
  simp
end Go.Proofs.YthnibchlgcgalaaGreatDoor.Hu
namespace Go.Proofs.YthnibchlgcgalaaGreatDoor
open Go.RowKit
open Hu (Rw Hk)
open Ed (Ch)
theorem under_sliced {w : World} {a : Option Addr} {c x n' c' : Nat} {l : List ByteArray} {B : Nat} (h : RdT w (.slice a l.length c) l) (hu : Under B (.slice a l.length c)) (hx : x + n' ≤ l.length) : Under B (.slice (if c = x then a else a.map (·.add x)) n' c') := by
  intro b o m c2 hv hm
  injection hv with hv1 hv2 hv3
  rcases h with ⟨h0, _⟩ | ⟨b0, o0, c0, hv0, _, _, _⟩
  · omega
  · injection hv0 with e1 e2 e3
    subst e1
    have := hu b0 o0 l.length c rfl (by omega)
    split at hv1
    · cases hv1; exact this
    · rw [Option.map_some, Go.WideShapes.add_plain] at hv1
      cases hv1
      exact this
theorem Kd_app {l m : List Rw} (h1 : Kd l) (h2 : Kd m) : Kd (l ++ m) := fun r hr => (List.mem_append.1 hr).elim (h1 r) (h2 r)
theorem Kd_mk {k : Int} {l : List ByteArray} (h : k = 1 ∨ k = 2 ∨ k = 3) : Kd (Hu.mk k l) := fun r hr => by
  obtain ⟨x, _, rfl⟩ := List.mem_map.1 hr
  exact h
theorem Kd_rowsG (a b : List ByteArray) : ∀ (g : List Ch) (p q : Int), Kd (Hu.rowsG a b p g q)
  | [], _, _ => Kd_mk (.inl rfl)
  | _ :: r, _, q => Kd_app (Kd_mk (.inl rfl)) (Kd_app (Kd_mk (.inr (.inl rfl))) (Kd_app (Kd_mk (.inr (.inr rfl))) (Kd_rowsG a b r _ q)))
end Go.Proofs.YthnibchlgcgalaaGreatDoor
