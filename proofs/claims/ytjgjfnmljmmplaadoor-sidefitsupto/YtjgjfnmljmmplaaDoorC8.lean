/-
  The walk of the document's Valid.
-/
import Derived.Test.YtjgjfnmljmmplaaDoorC5
namespace Go.Proofs.YtjgjfnmljmmplaaDoor
open Go.RowKit
open Ed (Ch Run Pr)

theorem ret_nat {a b : Nat} (h : a = b) : Ending.returned (.int .i64 (a : Int)) = .returned (.int .i64 (b : Int)) := by rw [h]
set_option maxHeartbeats 8000000 in
set_option maxRecDepth 100000 in
theorem refValid_any {v : Value} {s : List Ch} {n m : Int} {w : World} (hr : RdC w v s) (hwf : ∀ c ∈ s, WfC c) (hl : s.length ≤ 10000000000000) :
    Calls Tryd.prog 33 #[v, .int .i64 n, .int .i64 m] w fun e w' => e = .returned (.int .i64 (Ed.validN s n m)) ∧ Below w.heap.size w w' := by
  obtain ⟨a, c, rfl⟩ := hr.shape
  have HR := hid hr
  have HWF := hid hwf
  clear hr hwf
  have hb0 := Below.refl w.heap.size w
  by_cases g0 : n < 0
  · have HE : Hid (Ed.validN s n m = 1) := hid (by unfold Ed.validN; rw [if_neg]; rw [Bool.and_eq_true, Ed.cnt_iff, Ed.cnt_iff]; omega)
    go_enter Tryd.func33, Tryd.ntmps33
    go_wp2
    go_ret
    exact ⟨by rw [HE.out]; rfl, hb0⟩
  by_cases g1 : 4194304 < n
  · have HE : Hid (Ed.validN s n m = 1) := hid (by unfold Ed.validN; rw [if_neg]; rw [Bool.and_eq_true, Ed.cnt_iff, Ed.cnt_iff]; omega)
    go_enter Tryd.func33, Tryd.ntmps33
    go_wp2
    go_ret
    exact ⟨by rw [HE.out]; rfl, hb0⟩
  by_cases g2 : m < 0
  · have HE : Hid (Ed.validN s n m = 1) := hid (by unfold Ed.validN; rw [if_neg]; rw [Bool.and_eq_true, Ed.cnt_iff, Ed.cnt_iff]; omega)
    go_enter Tryd.func33, Tryd.ntmps33
    go_wp2
    go_ret
    exact ⟨by rw [HE.out]; rfl, hb0⟩
  by_cases g3 : 4194304 < m
  · have HE : Hid (Ed.validN s n m = 1) := hid (by unfold Ed.validN; rw [if_neg]; rw [Bool.and_eq_true, Ed.cnt_iff, Ed.cnt_iff]; omega)
    go_enter Tryd.func33, Tryd.ntmps33
    go_wp2
    go_ret
    exact ⟨by rw [HE.out]; rfl, hb0⟩
  have HE : Hid (Ed.validN s n m = if Ed.val s 0 0 n m then 0 else 60) := hid (by unfold Ed.validN; rw [if_pos]; rw [Bool.and_eq_true, Ed.cnt_iff, Ed.cnt_iff]; omega)
  go_enter Tryd.func33, Tryd.ntmps33
  go_wp2
  go_loopw [7, 8, 9] (fun x y i wr => ∃ (k : Nat) (ca cb : Int), k ≤ s.length ∧ i = .int .i64 k ∧ x = .int .i64 ca ∧ y = .int .i64 cb ∧ 0 ≤ ca ∧ ca ≤ n ∧ 0 ≤ cb ∧ cb ≤ m ∧ Hid (Ed.val s 0 0 n m = Ed.val (s.drop k) ca cb n m) ∧ Below w.heap.size w wr) (fun _ _ i _ => s.length - (intOf i).toNat)
  case atStart => exact ⟨0, 0, 0, Nat.zero_le _, rfl, rfl, rfl, by omega, by omega, by omega, by omega, rfl, hb0⟩
  case round =>
    obtain ⟨k, ca, cb, hk, rfl, rfl, rfl, hca0, hca1, hcb0, hcb1, HV, hb⟩ := hrel
    clear hb0
    by_cases hlt : k < s.length
    · obtain ⟨x, hx⟩ : ∃ x, s[k]? = some x := ⟨_, List.getElem?_eq_getElem hlt⟩
      obtain ⟨⟨wa1, wa2⟩, ⟨wn1, wn2⟩, ⟨wb1, wb2⟩, ⟨wm1, wm2⟩⟩ := HWF.out x (List.mem_of_getElem? hx)
      obtain ⟨b, o, rfl, hblt, c0, c1, c2, c3⟩ := rdC_at (HR.out.below hb) hx
      have HV2 : Hid (Ed.val s 0 0 n m = (decide (Ed.okC ca cb n m x) && Ed.val (s.drop (k + 1)) (x.a + x.n) (x.b + x.m) n m)) := hid (by rw [HV.out, drop_at hx]; rfl)
      have HB1 := hid (hb.alloc hb.size (.cells #[.int .i64 x.a, .int .i64 x.n, .int .i64 x.b, .int .i64 x.m] 45))
      have HBAD : ¬ Ed.okC ca cb n m x → Hid (Ed.validN s n m = 60) := fun h => hid (by rw [HE.out, HV2.out, decide_eq_false h]; rfl)
      have HBAD := hid HBAD
      have i1 : (0 : Int) ≤ (k : Int) := by omega
      have i2 : (k : Int) < (s.length : Int) := by omega
      clear hx hb HV
      by_cases f0 : x.a < ca
      · have HE6 := HBAD.out (by unfold Ed.okC; omega)
        go_wp2
        go_ret
        exact ⟨by rw [HE6.out]; rfl, HB1.out⟩
      by_cases f1 : x.b < cb
      · have HE6 := HBAD.out (by unfold Ed.okC; omega)
        go_wp2
        go_ret
        exact ⟨by rw [HE6.out]; rfl, HB1.out⟩
      by_cases f2 : n < x.a
      · have HE6 := HBAD.out (by unfold Ed.okC; omega)
        go_wp2
        go_ret
        exact ⟨by rw [HE6.out]; rfl, HB1.out⟩
      by_cases f3 : m < x.b
      · have HE6 := HBAD.out (by unfold Ed.okC; omega)
        go_wp2
        go_ret
        exact ⟨by rw [HE6.out]; rfl, HB1.out⟩
      by_cases f4 : x.a - ca = x.b - cb
      case neg =>
        have HE6 := HBAD.out (by unfold Ed.okC; omega)
        have z4 : (x.a - ca == x.b - cb) = false := zne f4
        have e4 : x.a - ca < x.b - cb ∨ x.b - cb < x.a - ca := by omega
        have p1 : ca ≤ x.a := by omega
        have p2 : cb ≤ x.b := by omega
        have p3 : x.a ≤ n := by omega
        have p4 : x.b ≤ m := by omega
        go_wp2
        go_ret
        exact ⟨by rw [HE6.out]; rfl, HB1.out⟩
      have z4 : (x.a - ca == x.b - cb) = true := zeq f4
      have F4 := hid f4
      clear f4
      by_cases f5 : x.n < 0
      · have HE6 := HBAD.out (by unfold Ed.okC; omega)
        go_wp2
        go_ret
        exact ⟨by rw [HE6.out]; rfl, HB1.out⟩
      by_cases f6 : x.m < 0
      · have HE6 := HBAD.out (by unfold Ed.okC; omega)
        go_wp2
        go_ret
        exact ⟨by rw [HE6.out]; rfl, HB1.out⟩
      by_cases f7 : n - x.a < x.n
      · have HE6 := HBAD.out (by unfold Ed.okC; omega)
        go_wp2
        go_ret
        exact ⟨by rw [HE6.out]; rfl, HB1.out⟩
      by_cases f8 : m - x.b < x.m
      · have HE6 := HBAD.out (by unfold Ed.okC; omega)
        go_wp2
        go_ret
        exact ⟨by rw [HE6.out]; rfl, HB1.out⟩
      by_cases y0 : x.n = 0
      · obtain ⟨xa, xn, xb, xm⟩ := x
        dsimp only at *
        subst y0
        by_cases y2 : xm = 0
        · have HE6 := HBAD.out (by unfold Ed.okC; dsimp only; omega)
          subst y2
          go_wp2
          go_ret
          exact ⟨by rw [HE6.out]; rfl, HB1.out⟩
        · have y3 : (xm == 0) = false := zne y2
          have HG2 : Hid (Ed.val s 0 0 n m = Ed.val (s.drop (k + 1)) (xa + 0) (xb + xm) n m) := hid (by rw [HV2.out, decide_eq_true (by have := F4.out; unfold Ed.okC; dsimp only; omega)]; rfl)
          clear y2
          go_wp2
          go_roundw
          case rel => exact ⟨k + 1, xa + 0, xb + xm, by omega, by go_num, by go_num, by go_num, by omega, by omega, by omega, by omega, HG2.out, HB1.out⟩
          case measure => simp [intOf]; omega
      · have y1 : (x.n == 0) = false := zne y0
        have HG2 : Hid (Ed.val s 0 0 n m = Ed.val (s.drop (k + 1)) (x.a + x.n) (x.b + x.m) n m) := hid (by rw [HV2.out, decide_eq_true (by have := F4.out; unfold Ed.okC; omega)]; rfl)
        go_wp2
        go_roundw
        case rel => exact ⟨k + 1, x.a + x.n, x.b + x.m, by omega, by go_num, by go_num, by go_num, by omega, by omega, by omega, by omega, HG2.out, HB1.out⟩
        case measure => simp [intOf]; omega
    · have hkk : s.drop k = [] := List.drop_eq_nil_of_le (by omega)
      have hv : Ed.val s 0 0 n m = decide (n - ca = m - cb) := by rw [HV.out, hkk]; rfl
      have HB := hid hb
      clear HV hkk hb
      by_cases hq : n - ca = m - cb
      · rw [decide_eq_true hq] at hv
        have hz : (n - ca == m - cb) = true := zeq hq
        have HE0 : Hid (Ed.validN s n m = 0) := hid (by rw [HE.out, hv]; rfl)
        clear hv hq
        go_wp2
        go_ret
        exact ⟨by rw [HE0.out]; rfl, HB.out⟩
      · rw [decide_eq_false hq] at hv
        have hz : (n - ca == m - cb) = false := zne hq
        have HE0 : Hid (Ed.validN s n m = 60) := hid (by rw [HE.out, hv]; rfl)
        clear hv hq
        go_wp2
        go_ret
        exact ⟨by rw [HE0.out]; rfl, HB.out⟩
end Go.Proofs.YtjgjfnmljmmplaaDoor
