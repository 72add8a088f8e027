/-
  The walks of the program's isNumber, isCount, lines, plus, scaled, Bar, and of the document's in, scaled, Bar.
-/
import Derived.Test.YtnbonghlmdnabaaDoorB1
namespace Go.Proofs.YtnbonghlmdnabaaDoor.Sx
open Go.RowKit

theorem wrapI {n : Int} (h1 : -9223372036854775808 ≤ n) (h2 : n ≤ 9223372036854775807) : IntKind.i64.wrap n = n := by
  rw [IntKind.wrap_i64]
  omega
theorem i64_quo (x y : Int) (h : 0 ≤ x ∧ x ≤ 9223372036854775807 ∧ 1 ≤ y) : IntKind.i64.wrap (x.tdiv y) = x / y := by
  rw [Int.tdiv_eq_ediv_of_nonneg h.1]
  have h1 : 0 ≤ x / y := Int.ediv_nonneg h.1 (by omega)
  have h2 : x / y ≤ x := Int.ediv_le_self _ h.1
  exact wrapI (by omega) (by omega)
theorem run_maxI (t : TypeId) (x y : Int) (w : World) : (Builtin.max_ #[3, 3] t #[.int .i64 x, .int .i64 y]).run Tryd.prog w = .ok (.int .i64 (max x y)) w := by
  rw [run_max_int2]
  congr 2
  by_cases h : y > x
  · rw [if_pos h]; omega
  · rw [if_neg h]; omega
theorem isNumber_any (n : Int) (w : World) : Calls Tryd.prog 40 #[.int .i64 n] w fun e w' => e = .returned (.bool (okN n)) ∧ w' = w := by
  by_cases h0 : 0 ≤ n
  · by_cases h1 : n ≤ 2147483647
    · rw [okN_yes h0 h1]
      go_enter Tryd.func40, Tryd.ntmps40
      go_wp2
      go_ret
      exact ⟨rfl, rfl⟩
    · rw [okN_hi h1]
      go_enter Tryd.func40, Tryd.ntmps40
      go_wp2
      go_ret
      exact ⟨rfl, rfl⟩
  · rw [okN_lo h0]
    go_enter Tryd.func40, Tryd.ntmps40
    go_wp2
    go_ret
    exact ⟨rfl, rfl⟩
theorem rIn_any (n : Int) (w : World) : Calls Tryd.prog 25 #[.int .i64 n] w fun e w' => e = .returned (.bool (okN n)) ∧ w' = w := by
  by_cases h0 : 0 ≤ n
  · by_cases h1 : n ≤ 2147483647
    · rw [okN_yes h0 h1]
      go_enter Tryd.func25, Tryd.ntmps25
      go_wp2
      go_ret
      exact ⟨rfl, rfl⟩
    · rw [okN_hi h1]
      go_enter Tryd.func25, Tryd.ntmps25
      go_wp2
      go_ret
      exact ⟨rfl, rfl⟩
  · rw [okN_lo h0]
    go_enter Tryd.func25, Tryd.ntmps25
    go_wp2
    go_ret
    exact ⟨rfl, rfl⟩
theorem scaled_any (x wd m : Int) (w : World) (h0 : 0 ≤ x) (h1 : x ≤ m) (hm : m ≤ 4294967294) (hw : 2 ≤ wd) (hw1 : wd ≤ 2147483647) :
    Calls Tryd.prog 41 #[.int .i64 x, .int .i64 wd, .int .i64 m] w fun e w' => e = .returned (.int .i64 (scl x wd m)) ∧ w' = w := by
  by_cases hx : x = 0
  · subst hx
    rw [scl_zero]
    go_enter Tryd.func41, Tryd.ntmps41
    go_wp2
    go_ret
    exact ⟨rfl, rfl⟩
  · have hp := prod_bound h0 (by omega) hw hw1
    have hq := q_bound h0 h1 hw (by omega)
    have HE := hid (scl_pos wd m hx)
    have e0 : (x == 0) = false := zne hx
    have e1 : IntKind.i64.wrap (wd - 1) = wd - 1 := wrapI (by omega) (by omega)
    have e2 : IntKind.i64.wrap (x * (wd - 1)) = x * (wd - 1) := wrapI (by omega) (by omega)
    have e3 : ¬ m = 0 := by omega
    have e5 : IntKind.i64.wrap ((x * (wd - 1)).tdiv m) = x * (wd - 1) / m := i64_quo _ _ ⟨hp.1, hp.2, by omega⟩
    have e6 : IntKind.i64.wrap (1 + x * (wd - 1) / m) = 1 + x * (wd - 1) / m := wrapI (by omega) (by omega)
    rw [HE.out]
    clear hx h0 h1 HE hq hp
    go_enter Tryd.func41, Tryd.ntmps41
    go_wp2_with fail
    go_ret
    exact ⟨rfl, rfl⟩
set_option maxHeartbeats 2000000 in
theorem bar_any (a d wd m : Int) (w : World) (ha : I64 a) (hd : I64 d) (hw : I64 wd) (hm : I64 m) :
    Calls Tryd.prog 22 #[.int .i64 a, .int .i64 d, .int .i64 wd, .int .i64 m] w fun e w' => e = .returned (.tuple #[.int .i64 (bar a d wd m).1, .int .i64 (bar a d wd m).2]) ∧ w' = w := by
  unfold I64 at ha hd hw hm
  have HA := hid (isNumber_any a w)
  have HD := hid (isNumber_any d w)
  have HW := hid (isNumber_any wd w)
  by_cases oa : 0 ≤ a ∧ a ≤ 2147483647
  · rw [okN_yes oa.1 oa.2] at HA
    by_cases od : 0 ≤ d ∧ d ≤ 2147483647
    · rw [okN_yes od.1 od.2] at HD
      by_cases ow : 0 ≤ wd ∧ wd ≤ 2147483647
      · rw [okN_yes ow.1 ow.2] at HW
        have s1 : IntKind.i64.wrap (a + d) = a + d := wrapI (by omega) (by omega)
        by_cases o2 : 2 ≤ wd
        · by_cases o3 : a + d ≤ m
          · by_cases o4 : m ≤ 4294967294
            · have hok : OkB a d wd m := ⟨oa.1, oa.2, od.1, od.2, o2, ow.2, o3, o4⟩
              by_cases o5 : m ≤ wd
              · rw [bar_fit hok o5]
                clear hok
                go_enter Tryd.func22, Tryd.ntmps22
                go_wp2_with fail
                refine HA.out.mono ?_
                rintro e w1 ⟨rfl, rfl⟩
                go_wp2_with fail
                refine HD.out.mono ?_
                rintro e w2 ⟨rfl, rfl⟩
                go_wp2_with fail
                refine HW.out.mono ?_
                rintro e w3 ⟨rfl, rfl⟩
                go_wp2_with fail
                go_ret2
                exact ⟨rfl, rfl⟩
              · have HS := hid (fun w' => scaled_any (a + d) wd m w' (by omega) o3 o4 o2 ow.2)
                have HSA := hid (fun w' => scaled_any a wd m w' (by omega) (by omega) o4 o2 ow.2)
                have HSD := hid (fun w' => scaled_any d wd m w' (by omega) (by omega) o4 o2 ow.2)
                have b1 := scl_bound (x := a + d) (w := wd) (m := m) (by omega) o3 o2 (by omega)
                have b2 := scl_bound (x := a) (w := wd) (m := m) (by omega) (by omega) o2 (by omega)
                have b3 := scl_bound (x := d) (w := wd) (m := m) (by omega) (by omega) o2 (by omega)
                have HB : Hid (bar a d wd m = if a ≤ d then (scl a wd m, (if 0 < a ∧ 0 < d then max (scl (a + d) wd m) 2 else scl (a + d) wd m) - scl a wd m) else ((if 0 < a ∧ 0 < d then max (scl (a + d) wd m) 2 else scl (a + d) wd m) - scl d wd m, scl d wd m)) := hid (by
                  by_cases h : a ≤ d
                  · rw [bar_le hok (by omega) h, if_pos h]; rfl
                  · rw [bar_gt hok (by omega) (by omega), if_neg h]; rfl)
                rw [HB.out]
                generalize scl (a + d) wd m = L at HS b1 ⊢
                generalize scl a wd m = SA at HSA b2 ⊢
                generalize scl d wd m = SD at HSD b3 ⊢
                have hmx : ∀ X : World, (Builtin.max_ #[3, 3] 3 #[.int .i64 L, .int .i64 2]).run Tryd.prog X = .ok (.int .i64 (max L 2)) X := run_maxI _ _ _
                have b4 : 0 ≤ max L 2 ∧ max L 2 ≤ 2147483647 := by omega
                clear hok HB
                by_cases hp : 0 < a ∧ 0 < d
                · rw [if_pos hp]
                  obtain ⟨hpa, hpd⟩ := hp
                  generalize max L 2 = M at hmx b4 ⊢
                  have t1 : IntKind.i64.wrap (M - SA) = M - SA := wrapI (by omega) (by omega)
                  have t2 : IntKind.i64.wrap (M - SD) = M - SD := wrapI (by omega) (by omega)
                  by_cases hle : a ≤ d
                  · rw [if_pos hle]
                    go_enter Tryd.func22, Tryd.ntmps22
                    go_wp2_with fail
                    refine HA.out.mono ?_
                    rintro e w1 ⟨rfl, rfl⟩
                    go_wp2_with fail
                    refine HD.out.mono ?_
                    rintro e w2 ⟨rfl, rfl⟩
                    go_wp2_with fail
                    refine HW.out.mono ?_
                    rintro e w3 ⟨rfl, rfl⟩
                    go_wp2_with fail
                    refine (HS.out _).mono ?_
                    rintro e w4 ⟨rfl, rfl⟩
                    go_wp2_with fail
                    refine (HSA.out _).mono ?_
                    rintro e w5 ⟨rfl, rfl⟩
                    go_wp2_with fail
                    go_ret2
                    exact ⟨rfl, rfl⟩
                  · rw [if_neg hle]
                    go_enter Tryd.func22, Tryd.ntmps22
                    go_wp2_with fail
                    refine HA.out.mono ?_
                    rintro e w1 ⟨rfl, rfl⟩
                    go_wp2_with fail
                    refine HD.out.mono ?_
                    rintro e w2 ⟨rfl, rfl⟩
                    go_wp2_with fail
                    refine HW.out.mono ?_
                    rintro e w3 ⟨rfl, rfl⟩
                    go_wp2_with fail
                    refine (HS.out _).mono ?_
                    rintro e w4 ⟨rfl, rfl⟩
                    go_wp2_with fail
                    refine (HSD.out _).mono ?_
                    rintro e w5 ⟨rfl, rfl⟩
                    go_wp2_with fail
                    go_ret2
                    exact ⟨rfl, rfl⟩
                · rw [if_neg hp]
                  have t1 : IntKind.i64.wrap (L - SA) = L - SA := wrapI (by omega) (by omega)
                  have t2 : IntKind.i64.wrap (L - SD) = L - SD := wrapI (by omega) (by omega)
                  clear hmx b4
                  by_cases hpa : 0 < a
                  · have hpd : ¬ 0 < d := fun h => hp ⟨hpa, h⟩
                    clear hp
                    by_cases hle : a ≤ d
                    · exact absurd hle (by omega)
                    · rw [if_neg hle]
                      go_enter Tryd.func22, Tryd.ntmps22
                      go_wp2_with fail
                      refine HA.out.mono ?_
                      rintro e w1 ⟨rfl, rfl⟩
                      go_wp2_with fail
                      refine HD.out.mono ?_
                      rintro e w2 ⟨rfl, rfl⟩
                      go_wp2_with fail
                      refine HW.out.mono ?_
                      rintro e w3 ⟨rfl, rfl⟩
                      go_wp2_with fail
                      refine (HS.out _).mono ?_
                      rintro e w4 ⟨rfl, rfl⟩
                      go_wp2_with fail
                      refine (HSD.out _).mono ?_
                      rintro e w5 ⟨rfl, rfl⟩
                      go_wp2_with fail
                      go_ret2
                      exact ⟨rfl, rfl⟩
                  · clear hp
                    by_cases hle : a ≤ d
                    · rw [if_pos hle]
                      go_enter Tryd.func22, Tryd.ntmps22
                      go_wp2_with fail
                      refine HA.out.mono ?_
                      rintro e w1 ⟨rfl, rfl⟩
                      go_wp2_with fail
                      refine HD.out.mono ?_
                      rintro e w2 ⟨rfl, rfl⟩
                      go_wp2_with fail
                      refine HW.out.mono ?_
                      rintro e w3 ⟨rfl, rfl⟩
                      go_wp2_with fail
                      refine (HS.out _).mono ?_
                      rintro e w4 ⟨rfl, rfl⟩
                      go_wp2_with fail
                      refine (HSA.out _).mono ?_
                      rintro e w5 ⟨rfl, rfl⟩
                      go_wp2_with fail
                      go_ret2
                      exact ⟨rfl, rfl⟩
                    · exact absurd hle (by omega)
            · rw [bar_no (fun h => o4 h.m1)]
              go_enter Tryd.func22, Tryd.ntmps22
              go_wp2_with fail
              refine HA.out.mono ?_
              rintro e w1 ⟨rfl, rfl⟩
              go_wp2_with fail
              refine HD.out.mono ?_
              rintro e w2 ⟨rfl, rfl⟩
              go_wp2_with fail
              refine HW.out.mono ?_
              rintro e w3 ⟨rfl, rfl⟩
              go_wp2_with fail
              go_ret2
              exact ⟨rfl, rfl⟩
          · rw [bar_no (fun h => o3 h.m0)]
            go_enter Tryd.func22, Tryd.ntmps22
            go_wp2_with fail
            refine HA.out.mono ?_
            rintro e w1 ⟨rfl, rfl⟩
            go_wp2_with fail
            refine HD.out.mono ?_
            rintro e w2 ⟨rfl, rfl⟩
            go_wp2_with fail
            refine HW.out.mono ?_
            rintro e w3 ⟨rfl, rfl⟩
            go_wp2_with fail
            go_ret2
            exact ⟨rfl, rfl⟩
        · rw [bar_no (fun h => o2 h.w0)]
          go_enter Tryd.func22, Tryd.ntmps22
          go_wp2_with fail
          refine HA.out.mono ?_
          rintro e w1 ⟨rfl, rfl⟩
          go_wp2_with fail
          refine HD.out.mono ?_
          rintro e w2 ⟨rfl, rfl⟩
          go_wp2_with fail
          refine HW.out.mono ?_
          rintro e w3 ⟨rfl, rfl⟩
          go_wp2_with fail
          go_ret2
          exact ⟨rfl, rfl⟩
      · have ow' : okN wd = false := by
          by_cases h : 0 ≤ wd
          · exact okN_hi (fun k => ow ⟨h, k⟩)
          · exact okN_lo h
        rw [ow'] at HW
        rw [bar_no (fun h => ow ⟨by have := h.w0; omega, h.w1⟩)]
        clear ow ow'
        go_enter Tryd.func22, Tryd.ntmps22
        go_wp2_with fail
        refine HA.out.mono ?_
        rintro e w1 ⟨rfl, rfl⟩
        go_wp2_with fail
        refine HD.out.mono ?_
        rintro e w2 ⟨rfl, rfl⟩
        go_wp2_with fail
        refine HW.out.mono ?_
        rintro e w3 ⟨rfl, rfl⟩
        go_wp2_with fail
        go_ret2
        exact ⟨rfl, rfl⟩
    · have od' : okN d = false := by
        by_cases h : 0 ≤ d
        · exact okN_hi (fun k => od ⟨h, k⟩)
        · exact okN_lo h
      rw [od'] at HD
      rw [bar_no (fun h => od ⟨h.d0, h.d1⟩)]
      clear od od'
      go_enter Tryd.func22, Tryd.ntmps22
      go_wp2_with fail
      refine HA.out.mono ?_
      rintro e w1 ⟨rfl, rfl⟩
      go_wp2_with fail
      refine HD.out.mono ?_
      rintro e w2 ⟨rfl, rfl⟩
      go_wp2_with fail
      go_ret2
      exact ⟨rfl, rfl⟩
  · have oa' : okN a = false := by
      by_cases h : 0 ≤ a
      · exact okN_hi (fun k => oa ⟨h, k⟩)
      · exact okN_lo h
    rw [oa'] at HA
    rw [bar_no (fun h => oa ⟨h.a0, h.a1⟩)]
    clear oa oa'
    go_enter Tryd.func22, Tryd.ntmps22
    go_wp2_with fail
    refine HA.out.mono ?_
    rintro e w1 ⟨rfl, rfl⟩
    go_wp2_with fail
    go_ret2
    exact ⟨rfl, rfl⟩
end Go.Proofs.YtnbonghlmdnabaaDoor.Sx
