/-
  The walks of isCount, isWithin, Valid.
-/
import Derived.Test.YtjgjfnmljmmplaaDoorC0
namespace Go.Proofs.YtjgjfnmljmmplaaDoor
open Go.RowKit
open Ed (Ch Run Pr)

theorem isCount_any (n : Int) (w : World) : Calls Tryd.prog 56 #[.int .i64 n] w fun e w' => e = .returned (.bool (Ed.cnt n)) ∧ w = w' := by
  unfold Ed.cnt
  by_cases h1 : 0 ≤ n
  · rw [decide_eq_true h1]
    by_cases h2 : n ≤ 4194304
    · rw [decide_eq_true h2]
      go_enter Tryd.func56, Tryd.ntmps56
      go_wp2
      go_ret
      exact ⟨rfl, rfl⟩
    · rw [decide_eq_false h2]
      go_enter Tryd.func56, Tryd.ntmps56
      go_wp2
      go_ret
      exact ⟨rfl, rfl⟩
  · rw [decide_eq_false h1]
    go_enter Tryd.func56, Tryd.ntmps56
    go_wp2
    go_ret
    exact ⟨rfl, rfl⟩

theorem isWithin_any (x k d n : Int) (w : World) (hx : I64 x) (hd : 0 ≤ d) (hn : 0 ≤ n) (hn2 : n ≤ 4194304) : Calls Tryd.prog 57 #[.int .i64 x, .int .i64 k, .int .i64 d, .int .i64 n] w fun e w' => e = .returned (.bool (Ed.within x k d n)) ∧ w = w' := by
  obtain ⟨hx1, hx2⟩ := hx
  unfold Ed.within
  by_cases h1 : d ≤ x
  · rw [decide_eq_true h1]
    by_cases h2 : 0 ≤ k
    · rw [decide_eq_true h2]
      by_cases h3 : k ≤ n - x
      · rw [decide_eq_true h3]
        go_enter Tryd.func57, Tryd.ntmps57
        go_wp2
        go_ret
        exact ⟨rfl, rfl⟩
      · rw [decide_eq_false h3]
        go_enter Tryd.func57, Tryd.ntmps57
        go_wp2
        go_ret
        exact ⟨rfl, rfl⟩
    · rw [decide_eq_false h2]
      go_enter Tryd.func57, Tryd.ntmps57
      go_wp2
      go_ret
      exact ⟨rfl, rfl⟩
  · rw [decide_eq_false h1]
    go_enter Tryd.func57, Tryd.ntmps57
    go_wp2
    go_ret
    exact ⟨rfl, rfl⟩

theorem okC_split {a b n m : Int} {c : Ch} (h : ¬ Ed.okC a b n m c) : Ed.within c.a c.n a n = false ∨ (Ed.within c.a c.n a n = true ∧ Ed.within c.b c.m b m = false) ∨ (Ed.within c.a c.n a n = true ∧ Ed.within c.b c.m b m = true ∧ c.n = 0 ∧ c.m = 0) ∨
    (Ed.within c.a c.n a n = true ∧ Ed.within c.b c.m b m = true ∧ ¬(c.n = 0 ∧ c.m = 0) ∧ c.a - a ≠ c.b - b) := by
  cases h1 : Ed.within c.a c.n a n with
  | false => exact .inl rfl
  | true =>
    cases h2 : Ed.within c.b c.m b m with
    | false => exact .inr (.inl ⟨rfl, rfl⟩)
    | true =>
      by_cases h3 : c.n = 0 ∧ c.m = 0
      · exact .inr (.inr (.inl ⟨rfl, rfl, h3.1, h3.2⟩))
      · refine .inr (.inr (.inr ⟨rfl, rfl, h3, fun h4 => h ?_⟩))
        exact ⟨Ed.within_iff.1 h1, Ed.within_iff.1 h2, h3, h4⟩
theorem drop_at {α : Type} {l : List α} {k : Nat} {x : α} (h : l[k]? = some x) : l.drop k = x :: l.drop (k + 1) := by
  have hl : k < l.length := by
    rcases Nat.lt_or_ge k l.length with q | q
    · exact q
    · rw [List.getElem?_eq_none q] at h; cases h
  rw [List.drop_eq_getElem_cons hl]
  congr 1
  exact List.getElem_eq_iff hl |>.2 h

set_option maxHeartbeats 2000000 in
theorem valid_any {v : Value} {s : List Ch} {n m : Int} {w : World} (hr : RdC w v s) (hwf : ∀ c ∈ s, WfC c) (hl : s.length ≤ 10000000000000) :
    Calls Tryd.prog 37 #[v, .int .i64 n, .int .i64 m] w fun e w' => e = .returned (errV (Ed.validN s n m)) ∧ Below w.heap.size w w' := by
  obtain ⟨a, c, rfl⟩ := hr.shape
  have HR := hid hr
  have HWF := hid hwf
  clear hr hwf
  have hb0 := Below.refl w.heap.size w
  cases hcn : Ed.cnt n with
  | false =>
    have HE : Hid (Ed.validN s n m = 1) := hid (by unfold Ed.validN; rw [hcn]; rfl)
    go_enter Tryd.func37, Tryd.ntmps37
    go_wp2_with fail
    refine (isCount_any n _).mono ?_
    rintro e w1 ⟨rfl, rfl⟩
    rw [hcn]
    go_wp2
    go_ret
    exact ⟨by rw [HE.out]; rfl, hb0⟩
  | true =>
    cases hcm : Ed.cnt m with
    | false =>
      have HE : Hid (Ed.validN s n m = 1) := hid (by unfold Ed.validN; rw [hcn, hcm]; rfl)
      go_enter Tryd.func37, Tryd.ntmps37
      go_wp2_with fail
      refine (isCount_any n _).mono ?_
      rintro e w1 ⟨rfl, rfl⟩
      rw [hcn]
      go_wp2_with fail
      refine (isCount_any m _).mono ?_
      rintro e w1 ⟨rfl, rfl⟩
      rw [hcm]
      go_wp2
      go_ret
      exact ⟨by rw [HE.out]; rfl, hb0⟩
    | true =>
      have HE : Hid (Ed.validN s n m = if Ed.val s 0 0 n m then 0 else 60) := hid (by unfold Ed.validN; rw [hcn, hcm]; rfl)
      obtain ⟨hn0, hn1⟩ := Ed.cnt_iff.1 hcn
      obtain ⟨hm0, hm1⟩ := Ed.cnt_iff.1 hcm
      go_enter Tryd.func37, Tryd.ntmps37
      go_wp2_with fail
      refine (isCount_any n _).mono ?_
      rintro e w1 ⟨rfl, rfl⟩
      rw [hcn]
      go_wp2_with fail
      refine (isCount_any m _).mono ?_
      rintro e w1 ⟨rfl, rfl⟩
      rw [hcm]
      clear hcn hcm
      go_wp2
      go_loopw [7, 8, 22] (fun x y i wr => ∃ (k : Nat) (ca cb : Int), k ≤ s.length ∧ i = .int .i64 k ∧ x = .int .i64 ca ∧ y = .int .i64 cb ∧ 0 ≤ ca ∧ ca ≤ n ∧ 0 ≤ cb ∧ cb ≤ m ∧ Ed.val s 0 0 n m = Ed.val (s.drop k) ca cb n m ∧ Below w.heap.size w wr) (fun _ _ i _ => s.length - (intOf i).toNat)
      case atStart => exact ⟨0, 0, 0, Nat.zero_le _, rfl, rfl, rfl, by omega, by omega, by omega, by omega, rfl, hb0⟩
      case round =>
        obtain ⟨k, ca, cb, hk, rfl, rfl, rfl, hca0, hca1, hcb0, hcb1, hval, hb⟩ := hrel
        have HV := hid hval
        clear hval hb0
        by_cases hlt : k < s.length
        · obtain ⟨x, hx⟩ : ∃ x, s[k]? = some x := ⟨_, List.getElem?_eq_getElem hlt⟩
          have HD := hid (drop_at hx)
          obtain ⟨wa, wn, wb, wm⟩ := HWF.out x (List.mem_of_getElem? hx)
          obtain ⟨b, o, rfl, hblt, c0, c1, c2, c3⟩ := rdC_at (HR.out.below hb) hx
          have HB1 := hid (hb.alloc hb.size (.cells #[.int .i64 x.a, .int .i64 x.n, .int .i64 x.b, .int .i64 x.m] 45))
          obtain ⟨wa1, wa2⟩ := wa
          obtain ⟨wb1, wb2⟩ := wb
          have cW1 := fun w' => isWithin_any x.a x.n ca n w' ⟨wa1, wa2⟩ hca0 hn0 hn1
          have cW2 := fun w' => isWithin_any x.b x.m cb m w' ⟨wb1, wb2⟩ hcb0 hm0 hm1
          have CW1 := hid cW1
          have CW2 := hid cW2
          have HV2 : Hid (Ed.val s 0 0 n m = (decide (Ed.okC ca cb n m x) && Ed.val (s.drop (k + 1)) (x.a + x.n) (x.b + x.m) n m)) := hid (by rw [HV.out, HD.out]; rfl)
          clear cW1 cW2 HV HD hx hb
          by_cases hok : Ed.okC ca cb n m x
          · rw [decide_eq_true hok, Bool.true_and] at HV2
            have hw1 : Ed.within x.a x.n ca n = true := Ed.within_iff.2 hok.1
            have hw2 : Ed.within x.b x.m cb m = true := Ed.within_iff.2 hok.2.1
            obtain ⟨⟨p1, p2, p3⟩, ⟨p4, p5, p6⟩, p7, p8⟩ := hok
            by_cases hxn : x.n = 0
            · have hz1 : (x.n == 0) = true := zeq hxn
              have hz2 : (x.m == 0) = false := zne (fun h => p7 ⟨hxn, h⟩)
              have hz3 : (x.a - ca == x.b - cb) = true := zeq p8
              clear p7 p8 hxn
              go_wp2_with fail
              refine (CW1.out _).mono ?_
              rintro e w2 ⟨rfl, rfl⟩
              rw [hw1]
              go_wp2_with fail
              refine (CW2.out _).mono ?_
              rintro e w2 ⟨rfl, rfl⟩
              rw [hw2]
              go_wp2
              go_quiet (fail)
              go_wp2
              go_roundw
              case rel => exact ⟨k + 1, x.a + x.n, x.b + x.m, by omega, by go_num, by go_num, by go_num, by omega, by omega, by omega, by omega, HV2.out, below_drewN HB1.out _⟩
              case measure => simp [intOf]; omega
            · have hz1 : (x.n == 0) = false := zne hxn
              have hz3 : (x.a - ca == x.b - cb) = true := zeq p8
              clear p7 p8 hxn
              go_wp2_with fail
              refine (CW1.out _).mono ?_
              rintro e w2 ⟨rfl, rfl⟩
              rw [hw1]
              go_wp2_with fail
              refine (CW2.out _).mono ?_
              rintro e w2 ⟨rfl, rfl⟩
              rw [hw2]
              go_wp2
              go_quiet (fail)
              go_wp2
              go_roundw
              case rel => exact ⟨k + 1, x.a + x.n, x.b + x.m, by omega, by go_num, by go_num, by go_num, by omega, by omega, by omega, by omega, HV2.out, below_drewN HB1.out _⟩
              case measure => simp [intOf]; omega
          · rw [decide_eq_false hok, Bool.false_and] at HV2
            have HE60 : Hid (Ed.validN s n m = 60) := hid (by rw [HE.out, HV2.out]; rfl)
            rcases okC_split hok with h1 | ⟨h1, h2⟩ | ⟨h1, h2, h3, h4⟩ | ⟨h1, h2, h3, h4⟩
            · clear hok
              go_wp2_with fail
              refine (CW1.out _).mono ?_
              rintro e w2 ⟨rfl, rfl⟩
              rw [h1]
              go_wp2
              go_ret
              exact ⟨by rw [HE60.out]; rfl, HB1.out⟩
            · clear hok
              go_wp2_with fail
              refine (CW1.out _).mono ?_
              rintro e w2 ⟨rfl, rfl⟩
              rw [h1]
              go_wp2_with fail
              refine (CW2.out _).mono ?_
              rintro e w2 ⟨rfl, rfl⟩
              rw [h2]
              go_wp2
              go_ret
              exact ⟨by rw [HE60.out]; rfl, HB1.out⟩
            · have hz1 : (x.n == 0) = true := zeq h3
              have hz2 : (x.m == 0) = true := zeq h4
              clear hok h3 h4
              go_wp2_with fail
              refine (CW1.out _).mono ?_
              rintro e w2 ⟨rfl, rfl⟩
              rw [h1]
              go_wp2_with fail
              refine (CW2.out _).mono ?_
              rintro e w2 ⟨rfl, rfl⟩
              rw [h2]
              go_wp2
              go_ret
              exact ⟨by rw [HE60.out]; rfl, HB1.out⟩
            · have hz3 : (x.a - ca == x.b - cb) = false := zne h4
              obtain ⟨p1, p2, p3⟩ := Ed.within_iff.1 h1
              obtain ⟨p4, p5, p6⟩ := Ed.within_iff.1 h2
              by_cases hxn : x.n = 0
              · have hz1 : (x.n == 0) = true := zeq hxn
                have hz2 : (x.m == 0) = false := zne (fun h => h3 ⟨hxn, h⟩)
                clear hok h3 h4 hxn
                go_wp2_with fail
                refine (CW1.out _).mono ?_
                rintro e w2 ⟨rfl, rfl⟩
                rw [h1]
                go_wp2_with fail
                refine (CW2.out _).mono ?_
                rintro e w2 ⟨rfl, rfl⟩
                rw [h2]
                go_wp2
                go_ret
                exact ⟨by rw [HE60.out]; rfl, HB1.out⟩
              · have hz1 : (x.n == 0) = false := zne hxn
                clear hok h3 h4 hxn
                go_wp2_with fail
                refine (CW1.out _).mono ?_
                rintro e w2 ⟨rfl, rfl⟩
                rw [h1]
                go_wp2_with fail
                refine (CW2.out _).mono ?_
                rintro e w2 ⟨rfl, rfl⟩
                rw [h2]
                go_wp2
                go_ret
                exact ⟨by rw [HE60.out]; rfl, HB1.out⟩
        · have hkk : s.drop k = [] := List.drop_eq_nil_of_le (by omega)
          have hv : Ed.val s 0 0 n m = decide (n - ca = m - cb) := by rw [HV.out, hkk]; rfl
          clear HV hkk
          have HB := hid hb
          clear hb
          by_cases hq : n - ca = m - cb
          · rw [decide_eq_true hq] at hv
            have hz : (n - ca == m - cb) = true := zeq hq
            have HE0 : Hid (Ed.validN s n m = 0) := hid (by rw [HE.out, hv]; rfl)
            clear hv
            go_wp2
            go_ret
            exact ⟨by rw [HE0.out]; rfl, HB.out⟩
          · rw [decide_eq_false hq] at hv
            have hz : (n - ca == m - cb) = false := zne hq
            have HE0 : Hid (Ed.validN s n m = 60) := hid (by rw [HE.out, hv]; rfl)
            clear hv
            go_wp2
            go_ret
            exact ⟨by rw [HE0.out]; rfl, HB.out⟩
end Go.Proofs.YtjgjfnmljmmplaaDoor
