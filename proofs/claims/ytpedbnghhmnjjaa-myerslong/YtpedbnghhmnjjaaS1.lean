/-
  Gathered by wip/genref.py: cost_any, refCost_any, refValid_any.
-/
import Derived.Test.YtpedbnghhmnjjaaK3
import Derived.Test.YtpedbnghhmnjjaaL1
namespace Go.Proofs.Ytpedbnghhmnjjaa
open Go.RowKit
open Ed (Ch Run Pr)

theorem drop_at {α : Type} {l : List α} {k : Nat} {x : α} (h : l[k]? = some x) : l.drop k = x :: l.drop (k + 1) := by
  have hl : k < l.length := by
    rcases Nat.lt_or_ge k l.length with q | q
    · exact q
    · rw [List.getElem?_eq_none q] at h; cases h
  rw [List.drop_eq_getElem_cons hl]
  congr 1
  exact List.getElem_eq_iff hl |>.2 h
theorem costO_at {s : List Ch} {k : Nat} {c : Ch} {x y : Int} (h : s[k]? = some c) : Ed.costO (s.drop k) x y = if c.a < 0 ∨ c.n < 0 ∨ c.b < 0 ∨ c.m < 0 ∨ 4611686018427387904 - x < c.n ∨ 4611686018427387904 - y < c.m then none else Ed.costO (s.drop (k + 1)) (x + c.n) (y + c.m) := by
  rw [drop_at h]; rfl
theorem min_neg (a n b m : Int) : (if m < (if b < (if n < a then n else a) then b else (if n < a then n else a)) then m else (if b < (if n < a then n else a) then b else (if n < a then n else a))) < 0 ↔ (a < 0 ∨ n < 0 ∨ b < 0 ∨ m < 0) := by
  (repeat' split) <;> omega
theorem run_min2 (x y : Int) (w : World) : (Builtin.min2 (.int .i64 x) (.int .i64 y)).run Try.prog w = .ok (.int .i64 (if y < x then y else x)) w := by
  by_cases h : y < x <;> simp [Builtin.min2, go_sem, h]
theorem run_min4 (a n b m : Int) (w : World) : (Builtin.min_ #[3, 3, 3, 3] 3 #[.int .i64 a, .int .i64 n, .int .i64 b, .int .i64 m]).run Try.prog w = .ok (.int .i64 (if m < (if b < (if n < a then n else a) then b else (if n < a then n else a)) then m else (if b < (if n < a then n else a) then b else (if n < a then n else a)))) w := by
  simp [Builtin.min_, go_sem, run_min2]
theorem cost_none {s : List Ch} (h : Ed.costO s 0 0 = none) : Ed.costP s = (0, 0) := by unfold Ed.costP; rw [h]; rfl
theorem cost_some {s : List Ch} {x y : Int} (h : Ed.costO s 0 0 = some (x, y)) : Ed.costP s = (x, y) := by unfold Ed.costP; rw [h]; rfl
set_option maxHeartbeats 4000000 in
set_option maxRecDepth 100000 in
theorem cost_any {v : Value} {s : List Ch} {w : World} (hr : RdC w v s) (hwf : ∀ c ∈ s, WfC c) (hl : s.length ≤ 10000000000000) :
    Calls Try.prog 25 #[v] w fun e w' => e = .returned (.tuple #[.int .i64 (Ed.costP s).1, .int .i64 (Ed.costP s).2]) ∧ Below w.heap.size w w' := by
  obtain ⟨a, c, rfl⟩ := hr.shape
  have HR := hid hr
  have HWF := hid hwf
  clear hr hwf
  have hb0 := Below.refl w.heap.size w
  go_enter Try.func25, Try.ntmps25
  go_wp2
  go_loopw [4, 5, 10] (fun x y i wr => ∃ (k : Nat) (ca cb : Int), k ≤ s.length ∧ i = .int .i64 k ∧ x = .int .i64 ca ∧ y = .int .i64 cb ∧ 0 ≤ ca ∧ ca ≤ 4611686018427387904 ∧ 0 ≤ cb ∧ cb ≤ 4611686018427387904 ∧ Hid (Ed.costO s 0 0 = Ed.costO (s.drop k) ca cb) ∧ Below w.heap.size w wr) (fun _ _ i _ => s.length - (intOf i).toNat)
  case atStart => exact ⟨0, 0, 0, Nat.zero_le _, rfl, rfl, rfl, by omega, by omega, by omega, by omega, rfl, hb0⟩
  case round =>
    obtain ⟨k, ca, cb, hk, rfl, rfl, rfl, hca0, hca1, hcb0, hcb1, HV, hb⟩ := hrel
    clear hb0
    by_cases hlt : k < s.length
    · obtain ⟨x, hx⟩ : ∃ x, s[k]? = some x := ⟨_, List.getElem?_eq_getElem hlt⟩
      obtain ⟨⟨wa1, wa2⟩, ⟨wn1, wn2⟩, ⟨wb1, wb2⟩, ⟨wm1, wm2⟩⟩ := HWF.out x (List.mem_of_getElem? hx)
      obtain ⟨b, o, rfl, hblt, c0, c1, c2, c3⟩ := rdC_at (HR.out.below hb) hx
      have HV2 := hid (HV.out.trans (costO_at hx))
      have HB1 := hid (hb.alloc hb.size (.cells #[.int .i64 x.a, .int .i64 x.n, .int .i64 x.b, .int .i64 x.m] 35))
      have i1 : (0 : Int) ≤ (k : Int) := by omega
      have i2 : (k : Int) < (s.length : Int) := by omega
      clear hx hb HV
      obtain ⟨M, hM⟩ : ∃ M : Int, M = (if x.m < (if x.b < (if x.n < x.a then x.n else x.a) then x.b else (if x.n < x.a then x.n else x.a)) then x.m else (if x.b < (if x.n < x.a then x.n else x.a) then x.b else (if x.n < x.a then x.n else x.a))) := ⟨_, rfl⟩
      have hM1 : M < 0 ↔ (x.a < 0 ∨ x.n < 0 ∨ x.b < 0 ∨ x.m < 0) := by rw [hM]; exact min_neg _ _ _ _
      have HM := hid hM
      clear hM
      by_cases h1 : M < 0
      · have HE := hid (cost_none (HV2.out.trans (if_pos (by omega))))
        go_wp2
        first | (rw [run_min4]; simp only [Result.andThen_ok]; rw [Oper.upon_value, ← HM.out]) | rw [← HM.out]
        go_wp2
        go_ret2
        exact ⟨by rw [HE.out]; rfl, HB1.out⟩
      by_cases h2 : 4611686018427387904 - ca < x.n
      · have HE := hid (cost_none (HV2.out.trans (if_pos (by omega))))
        go_wp2
        first | (rw [run_min4]; simp only [Result.andThen_ok]; rw [Oper.upon_value, ← HM.out]) | rw [← HM.out]
        go_wp2
        go_ret2
        exact ⟨by rw [HE.out]; rfl, HB1.out⟩
      by_cases h3 : 4611686018427387904 - cb < x.m
      · have HE := hid (cost_none (HV2.out.trans (if_pos (by omega))))
        go_wp2
        first | (rw [run_min4]; simp only [Result.andThen_ok]; rw [Oper.upon_value, ← HM.out]) | rw [← HM.out]
        go_wp2
        go_ret2
        exact ⟨by rw [HE.out]; rfl, HB1.out⟩
      have HE := hid (HV2.out.trans (if_neg (by omega)))
      go_wp2
      first | (rw [run_min4]; simp only [Result.andThen_ok]; rw [Oper.upon_value, ← HM.out]) | rw [← HM.out]
      go_wp2
      go_roundw
      case rel => exact ⟨k + 1, ca + x.n, cb + x.m, by omega, by go_num, by go_num, by go_num, by omega, by omega, by omega, by omega, HE.out, HB1.out⟩
      case measure => simp [intOf]; omega
    · have hkk : s.drop k = [] := List.drop_eq_nil_of_le (by omega)
      have HE := hid (cost_some (HV.out.trans (by rw [hkk]; rfl)))
      have HB := hid hb
      clear hkk HV hb
      go_wp2
      go_ret2
      exact ⟨by rw [HE.out]; rfl, HB.out⟩
set_option maxHeartbeats 4000000 in
set_option maxRecDepth 100000 in
theorem refCost_any {v : Value} {s : List Ch} {w : World} (hr : RdC w v s) (hwf : ∀ c ∈ s, WfC c) (hl : s.length ≤ 10000000000000) :
    Calls Try.prog 18 #[v] w fun e w' => e = .returned (.tuple #[.int .i64 (Ed.costP s).1, .int .i64 (Ed.costP s).2]) ∧ Below w.heap.size w w' := by
  obtain ⟨a, c, rfl⟩ := hr.shape
  have HR := hid hr
  have HWF := hid hwf
  clear hr hwf
  have hb0 := Below.refl w.heap.size w
  go_enter Try.func18, Try.ntmps18
  go_wp2
  go_loopw [4, 5, 6] (fun x y i wr => ∃ (k : Nat) (ca cb : Int), k ≤ s.length ∧ i = .int .i64 k ∧ x = .int .i64 ca ∧ y = .int .i64 cb ∧ 0 ≤ ca ∧ ca ≤ 4611686018427387904 ∧ 0 ≤ cb ∧ cb ≤ 4611686018427387904 ∧ Hid (Ed.costO s 0 0 = Ed.costO (s.drop k) ca cb) ∧ Below w.heap.size w wr) (fun _ _ i _ => s.length - (intOf i).toNat)
  case atStart => exact ⟨0, 0, 0, Nat.zero_le _, rfl, rfl, rfl, by omega, by omega, by omega, by omega, rfl, hb0⟩
  case round =>
    obtain ⟨k, ca, cb, hk, rfl, rfl, rfl, hca0, hca1, hcb0, hcb1, HV, hb⟩ := hrel
    clear hb0
    by_cases hlt : k < s.length
    · obtain ⟨x, hx⟩ : ∃ x, s[k]? = some x := ⟨_, List.getElem?_eq_getElem hlt⟩
      obtain ⟨⟨wa1, wa2⟩, ⟨wn1, wn2⟩, ⟨wb1, wb2⟩, ⟨wm1, wm2⟩⟩ := HWF.out x (List.mem_of_getElem? hx)
      obtain ⟨b, o, rfl, hblt, c0, c1, c2, c3⟩ := rdC_at (HR.out.below hb) hx
      have HV2 := hid (HV.out.trans (costO_at hx))
      have HB1 := hid (hb.alloc hb.size (.cells #[.int .i64 x.a, .int .i64 x.n, .int .i64 x.b, .int .i64 x.m] 35))
      have i1 : (0 : Int) ≤ (k : Int) := by omega
      have i2 : (k : Int) < (s.length : Int) := by omega
      clear hx hb HV
      by_cases h1 : x.a < 0
      · have HE := hid (cost_none (HV2.out.trans (if_pos (by omega))))
        go_wp2
        go_ret2
        exact ⟨by rw [HE.out]; rfl, HB1.out⟩
      by_cases h2 : x.b < 0
      · have HE := hid (cost_none (HV2.out.trans (if_pos (by omega))))
        go_wp2
        go_ret2
        exact ⟨by rw [HE.out]; rfl, HB1.out⟩
      by_cases h3 : x.n < 0
      · have HE := hid (cost_none (HV2.out.trans (if_pos (by omega))))
        go_wp2
        go_ret2
        exact ⟨by rw [HE.out]; rfl, HB1.out⟩
      by_cases h4 : x.m < 0
      · have HE := hid (cost_none (HV2.out.trans (if_pos (by omega))))
        go_wp2
        go_ret2
        exact ⟨by rw [HE.out]; rfl, HB1.out⟩
      by_cases h5 : 4611686018427387904 - ca < x.n
      · have HE := hid (cost_none (HV2.out.trans (if_pos (by omega))))
        go_wp2
        go_ret2
        exact ⟨by rw [HE.out]; rfl, HB1.out⟩
      by_cases h6 : 4611686018427387904 - cb < x.m
      · have HE := hid (cost_none (HV2.out.trans (if_pos (by omega))))
        go_wp2
        go_ret2
        exact ⟨by rw [HE.out]; rfl, HB1.out⟩
      have HE := hid (HV2.out.trans (if_neg (by omega)))
      go_wp2
      go_roundw
      case rel => exact ⟨k + 1, ca + x.n, cb + x.m, by omega, by go_num, by go_num, by go_num, by omega, by omega, by omega, by omega, HE.out, HB1.out⟩
      case measure => simp [intOf]; omega
    · have hkk : s.drop k = [] := List.drop_eq_nil_of_le (by omega)
      have HE := hid (cost_some (HV.out.trans (by rw [hkk]; rfl)))
      have HB := hid hb
      clear hkk HV hb
      go_wp2
      go_ret2
      exact ⟨by rw [HE.out]; rfl, HB.out⟩
set_option maxHeartbeats 8000000 in
set_option maxRecDepth 100000 in
theorem refValid_any {v : Value} {s : List Ch} {n m : Int} {w : World} (hr : RdC w v s) (hwf : ∀ c ∈ s, WfC c) (hl : s.length ≤ 10000000000000) :
    Calls Try.prog 26 #[v, .int .i64 n, .int .i64 m] w fun e w' => e = .returned (.int .i64 (Ed.validN s n m)) ∧ Below w.heap.size w w' := by
  obtain ⟨a, c, rfl⟩ := hr.shape
  have HR := hid hr
  have HWF := hid hwf
  clear hr hwf
  have hb0 := Below.refl w.heap.size w
  by_cases g0 : n < 0
  · have HE : Hid (Ed.validN s n m = 1) := hid (by unfold Ed.validN; rw [if_neg]; rw [Bool.and_eq_true, Ed.cnt_iff, Ed.cnt_iff]; omega)
    go_enter Try.func26, Try.ntmps26
    go_wp2
    go_ret
    exact ⟨by rw [HE.out]; rfl, hb0⟩
  by_cases g1 : 4194304 < n
  · have HE : Hid (Ed.validN s n m = 1) := hid (by unfold Ed.validN; rw [if_neg]; rw [Bool.and_eq_true, Ed.cnt_iff, Ed.cnt_iff]; omega)
    go_enter Try.func26, Try.ntmps26
    go_wp2
    go_ret
    exact ⟨by rw [HE.out]; rfl, hb0⟩
  by_cases g2 : m < 0
  · have HE : Hid (Ed.validN s n m = 1) := hid (by unfold Ed.validN; rw [if_neg]; rw [Bool.and_eq_true, Ed.cnt_iff, Ed.cnt_iff]; omega)
    go_enter Try.func26, Try.ntmps26
    go_wp2
    go_ret
    exact ⟨by rw [HE.out]; rfl, hb0⟩
  by_cases g3 : 4194304 < m
  · have HE : Hid (Ed.validN s n m = 1) := hid (by unfold Ed.validN; rw [if_neg]; rw [Bool.and_eq_true, Ed.cnt_iff, Ed.cnt_iff]; omega)
    go_enter Try.func26, Try.ntmps26
    go_wp2
    go_ret
    exact ⟨by rw [HE.out]; rfl, hb0⟩
  have HE : Hid (Ed.validN s n m = if Ed.val s 0 0 n m then 0 else 60) := hid (by unfold Ed.validN; rw [if_pos]; rw [Bool.and_eq_true, Ed.cnt_iff, Ed.cnt_iff]; omega)
  go_enter Try.func26, Try.ntmps26
  go_wp2
  go_loopw [7, 8, 9] (fun x y i wr => ∃ (k : Nat) (ca cb : Int), k ≤ s.length ∧ i = .int .i64 k ∧ x = .int .i64 ca ∧ y = .int .i64 cb ∧ 0 ≤ ca ∧ ca ≤ n ∧ 0 ≤ cb ∧ cb ≤ m ∧ Hid (Ed.val s 0 0 n m = Ed.val (s.drop k) ca cb n m) ∧ Below w.heap.size w wr) (fun _ _ i _ => s.length - (intOf i).toNat)
  case atStart => exact ⟨0, 0, 0, Nat.zero_le _, rfl, rfl, rfl, by omega, by omega, by omega, by omega, rfl, hb0⟩
  case round =>
    obtain ⟨k, ca, cb, hk, rfl, rfl, rfl, hca0, hca1, hcb0, hcb1, HV, hb⟩ := hrel
    clear hb0
    by_cases hlt : k < s.length
    · obtain ⟨x, hx⟩ : ∃ x, s[k]? = some x := ⟨_, List.getElem?_eq_getElem hlt⟩
      obtain ⟨⟨wa1, wa2⟩, ⟨wn1, wn2⟩, ⟨wb1, wb2⟩, ⟨wm1, wm2⟩⟩ := HWF.out x (List.mem_of_getElem? hx)
      obtain ⟨b, o, rfl, hblt, c0, c1, c2, c3⟩ := rdC_at (HR.out.below hb) hx
      have HV2 : Hid (Ed.val s 0 0 n m = (decide (Ed.okC ca cb n m x) && Ed.val (s.drop (k + 1)) (x.a + x.n) (x.b + x.m) n m)) := hid (by rw [HV.out, drop_at hx]; rfl)
      have HB1 := hid (hb.alloc hb.size (.cells #[.int .i64 x.a, .int .i64 x.n, .int .i64 x.b, .int .i64 x.m] 35))
      have HBAD : ¬ Ed.okC ca cb n m x → Hid (Ed.validN s n m = 60) := fun h => hid (by rw [HE.out, HV2.out, decide_eq_false h]; rfl)
      have HBAD := hid HBAD
      have i1 : (0 : Int) ≤ (k : Int) := by omega
      have i2 : (k : Int) < (s.length : Int) := by omega
      clear hx hb HV
      by_cases f0 : x.a < ca
      · have HE6 := HBAD.out (by unfold Ed.okC; omega)
        go_wp2
        go_ret
        exact ⟨by rw [HE6.out]; rfl, HB1.out⟩
      by_cases f1 : x.b < cb
      · have HE6 := HBAD.out (by unfold Ed.okC; omega)
        go_wp2
        go_ret
        exact ⟨by rw [HE6.out]; rfl, HB1.out⟩
      by_cases f2 : n < x.a
      · have HE6 := HBAD.out (by unfold Ed.okC; omega)
        go_wp2
        go_ret
        exact ⟨by rw [HE6.out]; rfl, HB1.out⟩
      by_cases f3 : m < x.b
      · have HE6 := HBAD.out (by unfold Ed.okC; omega)
        go_wp2
        go_ret
        exact ⟨by rw [HE6.out]; rfl, HB1.out⟩
      by_cases f4 : x.a - ca = x.b - cb
      case neg =>
        have HE6 := HBAD.out (by unfold Ed.okC; omega)
        have z4 : (x.a - ca == x.b - cb) = false := zne f4
        have e4 : x.a - ca < x.b - cb ∨ x.b - cb < x.a - ca := by omega
        have p1 : ca ≤ x.a := by omega
        have p2 : cb ≤ x.b := by omega
        have p3 : x.a ≤ n := by omega
        have p4 : x.b ≤ m := by omega
        go_wp2
        go_ret
        exact ⟨by rw [HE6.out]; rfl, HB1.out⟩
      have z4 : (x.a - ca == x.b - cb) = true := zeq f4
      have F4 := hid f4
      clear f4
      by_cases f5 : x.n < 0
      · have HE6 := HBAD.out (by unfold Ed.okC; omega)
        go_wp2
        go_ret
        exact ⟨by rw [HE6.out]; rfl, HB1.out⟩
      by_cases f6 : x.m < 0
      · have HE6 := HBAD.out (by unfold Ed.okC; omega)
        go_wp2
        go_ret
        exact ⟨by rw [HE6.out]; rfl, HB1.out⟩
      by_cases f7 : n - x.a < x.n
      · have HE6 := HBAD.out (by unfold Ed.okC; omega)
        go_wp2
        go_ret
        exact ⟨by rw [HE6.out]; rfl, HB1.out⟩
      by_cases f8 : m - x.b < x.m
      · have HE6 := HBAD.out (by unfold Ed.okC; omega)
        go_wp2
        go_ret
        exact ⟨by rw [HE6.out]; rfl, HB1.out⟩
      by_cases y0 : x.n = 0
      · obtain ⟨xa, xn, xb, xm⟩ := x
        dsimp only at *
        subst y0
        by_cases y2 : xm = 0
        · have HE6 := HBAD.out (by unfold Ed.okC; dsimp only; omega)
          subst y2
          go_wp2
          go_ret
          exact ⟨by rw [HE6.out]; rfl, HB1.out⟩
        · have y3 : (xm == 0) = false := zne y2
          have HG2 : Hid (Ed.val s 0 0 n m = Ed.val (s.drop (k + 1)) (xa + 0) (xb + xm) n m) := hid (by rw [HV2.out, decide_eq_true (by have := F4.out; unfold Ed.okC; dsimp only; omega)]; rfl)
          clear y2
          go_wp2
          go_roundw
          case rel => exact ⟨k + 1, xa + 0, xb + xm, by omega, by go_num, by go_num, by go_num, by omega, by omega, by omega, by omega, HG2.out, HB1.out⟩
          case measure => simp [intOf]; omega
      · have y1 : (x.n == 0) = false := zne y0
        have HG2 : Hid (Ed.val s 0 0 n m = Ed.val (s.drop (k + 1)) (x.a + x.n) (x.b + x.m) n m) := hid (by rw [HV2.out, decide_eq_true (by have := F4.out; unfold Ed.okC; omega)]; rfl)
        go_wp2
        go_roundw
        case rel => exact ⟨k + 1, x.a + x.n, x.b + x.m, by omega, by go_num, by go_num, by go_num, by omega, by omega, by omega, by omega, HG2.out, HB1.out⟩
        case measure => simp [intOf]; omega
    · have hkk : s.drop k = [] := List.drop_eq_nil_of_le (by omega)
      have hv : Ed.val s 0 0 n m = decide (n - ca = m - cb) := by rw [HV.out, hkk]; rfl
      have HB := hid hb
      clear HV hkk hb
      by_cases hq : n - ca = m - cb
      · rw [decide_eq_true hq] at hv
        have hz : (n - ca == m - cb) = true := zeq hq
        have HE0 : Hid (Ed.validN s n m = 0) := hid (by rw [HE.out, hv]; rfl)
        clear hv hq
        go_wp2
        go_ret
        exact ⟨by rw [HE0.out]; rfl, HB.out⟩
      · rw [decide_eq_false hq] at hv
        have hz : (n - ca == m - cb) = false := zne hq
        have HE0 : Hid (Ed.validN s n m = 60) := hid (by rw [HE.out, hv]; rfl)
        clear hv hq
        go_wp2
        go_ret
        exact ⟨by rw [HE0.out]; rfl, HB.out⟩
end Go.Proofs.Ytpedbnghhmnjjaa
