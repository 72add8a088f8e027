/-
  The document's All; how texts end; both First.
-/
import Derived.Deep.RegionHeld3
import Derived.Deep.DrawnRows
import Derived.OrdersHeld
import Derived.Test.YtagjjhlegojpbaaYd
namespace Go.Proofs.Ytagjjhlegojpbaa
open Go.RowKit
open Ed (Ch Pr)

theorem mst_more {L : List Ch} {c : Nat} {u : Ch} {most : Int} (h : L[c]? = some u) (hm : most < 0 ∨ ((Scn.mst most (L.take c)).length : Int) < most) : Scn.mst most (L.take (c + 1)) = Scn.mst most (L.take c) ++ [u] := by
  have hc := (List.getElem?_eq_some_iff.1 h).1
  have e : L.take (c + 1) = L.take c ++ [u] := by rw [List.take_add_one, h]; rfl
  unfold Scn.mst at hm ⊢
  by_cases h0 : most < 0
  · rw [if_pos h0, if_pos h0, e]
  · rw [if_neg h0] at hm
    rw [if_neg h0, if_neg h0, List.take_take, List.take_take]
    rw [List.take_take, List.length_take] at hm
    rw [show min most.toNat (c + 1) = c + 1 by omega, show min most.toNat c = c by omega, e]
theorem mst_full {L : List Ch} {c : Nat} {u : Ch} {most : Int} (h : L[c]? = some u) (hm : ¬ (most < 0 ∨ ((Scn.mst most (L.take c)).length : Int) < most)) : Scn.mst most (L.take (c + 1)) = Scn.mst most (L.take c) := by
  have hc := (List.getElem?_eq_some_iff.1 h).1
  unfold Scn.mst at hm ⊢
  have h0 : ¬ most < 0 := fun h => hm (.inl h)
  rw [if_neg h0] at hm
  rw [if_neg h0, if_neg h0, List.take_take, List.take_take]
  rw [List.take_take, List.length_take] at hm
  rw [show min most.toNat (c + 1) = min most.toNat c by omega]
theorem get_of_drop2 {l r : List Ch} {c : Nat} {u : Ch} (h : l.drop c = u :: r) : l[c]? = some u := by
  have h0 := (get_of_drop h).1
  have h1 := (get_of_drop h).2
  rw [List.getD_eq_getElem?_getD, List.getElem?_eq_getElem h0] at h1
  rw [List.getElem?_eq_getElem h0]
  exact congrArg some h1
theorem Try.infoUn2 : (Try.prog.info? 26).map (fun i => (i.zero, i.size, i.bytes)) = some (some (.agg #[.int .i64 0, .int .i64 0, .int .i64 0, .int .i64 0]), 4, 32) := by kernel_rfl
abbrev OwnU2 (w : World) (B : Nat) (v : Value) (l : List Ch) : Prop := w.ownsRow B 26 4 v l.length (csC l)
def uC (k l : Nat) (a b : UInt8) : Ch := ⟨(k : Int) + 1, (l : Int), (a.toNat : Int), (b.toNat : Int)⟩

set_option maxHeartbeats 4000000 in
set_option maxRecDepth 100000 in
theorem refAll_any (x y : ByteArray) (most : Int) (w : World) (hx : x.size ≤ 1099511627776) (hy : y.size ≤ 1099511627776) :
    Calls Try.prog 14 #[.string x, .string y, .int .i64 most] w fun e w' => ∃ v, e = .returned v ∧ OwnU2 w' w.heap.size v (Scn.mst most (plc x y)) ∧ Below w.heap.size w w' := by
  obtain ⟨i0, hi0, hz0, hz1, hz2⟩ := info_parts Try.infoUn2
  go_enter Try.func14, Try.ntmps14
  go_wp2
  go_loopw [7, 8, 9] (fun o ln i wr => ∃ (k c l : Nat), k ≤ x.size ∧ k ≤ y.size ∧ i = .int .i64 k ∧ ln = .int .i64 l ∧ l ≤ k + 1 ∧ Hid ((plc x y).drop c = Scn.pl (x.data.toList.drop k) (y.data.toList.drop k) k l ∧ c ≤ (plc x y).length) ∧ Hid (OwnU2 wr w.heap.size o (Scn.mst most ((plc x y).take c))) ∧ Hid (Below w.heap.size w wr)) (fun _ _ i _ => x.size - (intOf i).toNat)
  case atStart => exact ⟨0, 0, 1, Nat.zero_le _, Nat.zero_le _, rfl, rfl, by omega, hid ⟨rfl, Nat.zero_le _⟩, hid (by rw [List.take_zero, show Scn.mst most [] = [] by unfold Scn.mst; split <;> simp]; exact World.ownsRow_nil _ _ _ _), hid (Below.refl _ _)⟩
  case round =>
    obtain ⟨k, c, l, hkx, hky, rfl, rfl, hl, HD, HO, HB⟩ := hrel
    have hO := HO.out
    unfold OwnU2 at hO
    obtain ⟨ao, co, e⟩ := own_shape hO
    subst e
    have HT : Hid ((Scn.mst most ((plc x y).take c)).length ≤ x.size) := hid (by
      have h1 := Scn.mst_le most ((plc x y).take c)
      have h2 := plc_len x y
      rw [List.length_take] at h1
      omega)
    obtain ⟨q, hq⟩ : ∃ q, q = (Scn.mst most ((plc x y).take c)).length := ⟨_, rfl⟩
    have HQ := hid hq
    rw [← hq] at hO HT ⊢
    have HOO := hid hO
    have hBw := HB.out.size
    clear hO hq
    by_cases hlt : k < x.size ∧ k < y.size
    · obtain ⟨hlx, hly⟩ := hlt
      have HX := hid (get_data hlx)
      have HYY := hid (get_data hly)
      have HDR := hid (drop_atY HX.out)
      have HDS := hid (drop_atY HYY.out)
      have bx : x[k].toNat < 256 := x[k].toNat_lt
      have by1 : y[k].toNat < 256 := y[k].toNat_lt
      have i1 : (0 : Int) ≤ (k : Int) := by omega
      have i2 : (k : Int) < (x.size : Int) := by omega
      have i3 : (k : Int) < (y.size : Int) := by omega
      by_cases hq : x[k] = y[k]
      · have q1 : (((x[k].toNat : Nat) : Int) != ((y[k].toNat : Nat) : Int)) = false := by rw [hq]; simp
        have HD2 : Hid ((plc x y).drop c = Scn.pl (x.data.toList.drop (k + 1)) (y.data.toList.drop (k + 1)) (k + 1) (Scn.nl x[k] l) ∧ c ≤ (plc x y).length) := hid ⟨by rw [HD.out.1, HDR.out, HDS.out, Scn.pl_same hq], HD.out.2⟩
        clear hq HD
        go_wp2_with fail
        go_quiet (fail)
        have HO2 : Hid (OwnU2 (wr.drewN nq) w.heap.size (.slice ao q co) (Scn.mst most ((plc x y).take c))) := hid (by
          have h := own_stays HOO.out (below_drewN (Below.refl wr.heap.size wr) nq)
          unfold OwnU2
          rw [← HQ.out]
          exact h)
        have HB2 := hid (below_drewN HB.out nq)
        generalize wr.drewN nq = w2 at HO2 HB2 ⊢
        by_cases h10 : x[k].toNat = 10
        · have q2 : (((x[k].toNat : Nat) : Int) == 10) = true := ieq (by omega)
          rw [nl_yes h10] at HD2
          clear h10
          go_wp2
          go_roundw
          case rel => exact ⟨k + 1, c, l + 1, by omega, by omega, by go_num, by go_num, by omega, HD2, HO2, HB2⟩
          case measure => simp [intOf]; omega
        · have q2 : (((x[k].toNat : Nat) : Int) == 10) = false := ine (by omega)
          rw [nl_no h10] at HD2
          clear h10
          go_wp2
          go_roundw
          case rel => exact ⟨k + 1, c, l, by omega, by omega, by go_num, by first | rfl | go_num, by omega, HD2, HO2, HB2⟩
          case measure => simp [intOf]; omega
      · have q1 : (((x[k].toNat : Nat) : Int) != ((y[k].toNat : Nat) : Int)) = true := by
          rw [bne_iff_ne]
          intro e
          exact hq (UInt8.toNat_inj.1 (by omega))
        have HD1 : Hid ((plc x y).drop c = uC k l x[k] y[k] :: Scn.pl (x.data.toList.drop (k + 1)) (y.data.toList.drop (k + 1)) (k + 1) (Scn.nl x[k] l)) := hid (by rw [HD.out.1, HDR.out, HDS.out, Scn.pl_diff hq]; rfl)
        clear hq HD
        have HG := hid (get_of_drop2 HD1.out)
        have HD2 : Hid ((plc x y).drop (c + 1) = Scn.pl (x.data.toList.drop (k + 1)) (y.data.toList.drop (k + 1)) (k + 1) (Scn.nl x[k] l) ∧ c + 1 ≤ (plc x y).length) := hid ⟨drop_of_drop HD1.out, (get_of_drop HD1.out).1⟩
        have j3 : IntKind.i64.wrap ((k : Int) + 1) = (k : Int) + 1 := by rw [IntKind.wrap_i64]; omega
        have j4 : IntKind.i64.wrap (x[k].toNat : Int) = (x[k].toNat : Int) := by rw [IntKind.wrap_i64]; omega
        have j5 : IntKind.i64.wrap (y[k].toNat : Int) = (y[k].toNat : Int) := by rw [IntKind.wrap_i64]; omega
        have hqx := HT.out
        by_cases hm : most < 0
        · have m1 : decide (most < 0) = true := decide_eq_true hm
          have HTK := hid (mst_more HG.out (.inl hm))
          clear hm
          go_wp2_with fail
          go_quiet (fail)
          have HO1 := hid (own_stays HOO.out (below_drewN (Below.refl wr.heap.size wr) nq))
          have HB1 := hid (below_drewN HB.out nq)
          have hB1 : w.heap.size ≤ (wr.drewN nq).heap.size := HB1.out.size
          generalize wr.drewN nq = wq at HO1 HB1 hB1 ⊢
          go_wp2_with fail
          go_region_held3 (fun _ => True)
            (trivial)
            ((refine step_append_lies _ (by rfl) _ _ _ (by rfl) w.heap.size 26 i0 _ 4 32 Try.underlying34 hi0 hz0 hz1 hz2 rfl (by omega) (.slice ao q co) q (csC (Scn.mst most ((plc x y).take c))) (by rfl) ((HO1.out.alloc _).drew)
                ⟨wq.heap.size, 0, none⟩ 1 1 (cC (uC k l x[k] y[k])) (by rfl) (by rfl) (World.news_of_block (cs := #[.int .i64 ((k : Int) + 1), .int .i64 l, .int .i64 x[k].toNat, .int .i64 y[k].toNat]) (t := 26) (fr := (0, 0)) (heap_alloc_new wq _)) (by simp [Value.oneCell', cC, uC])
                (by omega) (by unfold maxLen; omega) (by omega) (by simp; omega) (wq.heap.size + 1) (by simp) ?_; intro gg cap w2 hown2 hgrow hat hlt2))
          all_goals
            have HO2 : Hid (OwnU2 w2 w.heap.size (.slice (some ⟨gg, 0, none⟩) (q + 1) cap) (Scn.mst most ((plc x y).take (c + 1)))) := hid (by
              show World.ownsRow _ _ _ _ _ _ _
              rw [HTK.out, List.length_append, ← HQ.out, csC_append]
              exact hown2)
            have HB2 : Hid (Below w.heap.size w w2) := hid ((HB1.out.trans (below_drewN ((Below.refl w.heap.size wq).alloc hB1 _) 1)).grown hgrow (by simp; omega) (own_ge HO1.out))
            clear hown2 hgrow hat hlt2
            by_cases h10 : x[k].toNat = 10
            · have q2 : (((x[k].toNat : Nat) : Int) == 10) = true := ieq (by omega)
              rw [nl_yes h10] at HD2
              clear h10
              go_wp2
              go_roundw
              case rel => exact ⟨k + 1, c + 1, l + 1, by omega, by omega, by go_num, by go_num, by omega, HD2, HO2, HB2⟩
              case measure => simp [intOf]; omega
            · have q2 : (((x[k].toNat : Nat) : Int) == 10) = false := ine (by omega)
              rw [nl_no h10] at HD2
              clear h10
              go_wp2
              go_roundw
              case rel => exact ⟨k + 1, c + 1, l, by omega, by omega, by go_num, by first | rfl | go_num, by omega, HD2, HO2, HB2⟩
              case measure => simp [intOf]; omega
        · have m1 : decide (most < 0) = false := decide_eq_false hm
          by_cases hm2 : (q : Int) < most
          · have m2 : decide ((q : Int) < most) = true := decide_eq_true hm2
            have HTK := hid (mst_more HG.out (.inr (by rw [← HQ.out]; exact hm2)))
            clear hm hm2
            go_wp2_with fail
            go_quiet (fail)
            have HO1 := hid (own_stays HOO.out (below_drewN (Below.refl wr.heap.size wr) nq))
            have HB1 := hid (below_drewN HB.out nq)
            have hB1 : w.heap.size ≤ (wr.drewN nq).heap.size := HB1.out.size
            generalize wr.drewN nq = wq at HO1 HB1 hB1 ⊢
            go_wp2_with fail
            go_region_held3 (fun _ => True)
              (trivial)
              ((refine step_append_lies _ (by rfl) _ _ _ (by rfl) w.heap.size 26 i0 _ 4 32 Try.underlying34 hi0 hz0 hz1 hz2 rfl (by omega) (.slice ao q co) q (csC (Scn.mst most ((plc x y).take c))) (by rfl) ((HO1.out.alloc _).drew)
                  ⟨wq.heap.size, 0, none⟩ 1 1 (cC (uC k l x[k] y[k])) (by rfl) (by rfl) (World.news_of_block (cs := #[.int .i64 ((k : Int) + 1), .int .i64 l, .int .i64 x[k].toNat, .int .i64 y[k].toNat]) (t := 26) (fr := (0, 0)) (heap_alloc_new wq _)) (by simp [Value.oneCell', cC, uC])
                  (by omega) (by unfold maxLen; omega) (by omega) (by simp; omega) (wq.heap.size + 1) (by simp) ?_; intro gg cap w2 hown2 hgrow hat hlt2))
            all_goals
              have HO2 : Hid (OwnU2 w2 w.heap.size (.slice (some ⟨gg, 0, none⟩) (q + 1) cap) (Scn.mst most ((plc x y).take (c + 1)))) := hid (by
                show World.ownsRow _ _ _ _ _ _ _
                rw [HTK.out, List.length_append, ← HQ.out, csC_append]
                exact hown2)
              have HB2 : Hid (Below w.heap.size w w2) := hid ((HB1.out.trans (below_drewN ((Below.refl w.heap.size wq).alloc hB1 _) 1)).grown hgrow (by simp; omega) (own_ge HO1.out))
              clear hown2 hgrow hat hlt2
              by_cases h10 : x[k].toNat = 10
              · have q2 : (((x[k].toNat : Nat) : Int) == 10) = true := ieq (by omega)
                rw [nl_yes h10] at HD2
                clear h10
                go_wp2
                go_roundw
                case rel => exact ⟨k + 1, c + 1, l + 1, by omega, by omega, by go_num, by go_num, by omega, HD2, HO2, HB2⟩
                case measure => simp [intOf]; omega
              · have q2 : (((x[k].toNat : Nat) : Int) == 10) = false := ine (by omega)
                rw [nl_no h10] at HD2
                clear h10
                go_wp2
                go_roundw
                case rel => exact ⟨k + 1, c + 1, l, by omega, by omega, by go_num, by first | rfl | go_num, by omega, HD2, HO2, HB2⟩
                case measure => simp [intOf]; omega
          · have m2 : decide ((q : Int) < most) = false := decide_eq_false hm2
            have HTK := hid (mst_full HG.out (by rw [← HQ.out]; omega))
            clear hm hm2
            go_wp2_with fail
            go_quiet (fail)
            have HO2 : Hid (OwnU2 (wr.drewN nq) w.heap.size (.slice ao q co) (Scn.mst most ((plc x y).take (c + 1)))) := hid (by
              have h := own_stays HOO.out (below_drewN (Below.refl wr.heap.size wr) nq)
              unfold OwnU2
              rw [HTK.out]
              rw [← HQ.out]
              exact h)
            have HB2 := hid (below_drewN HB.out nq)
            generalize wr.drewN nq = w2 at HO2 HB2 ⊢
            by_cases h10 : x[k].toNat = 10
            · have q2 : (((x[k].toNat : Nat) : Int) == 10) = true := ieq (by omega)
              rw [nl_yes h10] at HD2
              clear h10
              go_wp2
              go_roundw
              case rel => exact ⟨k + 1, c + 1, l + 1, by omega, by omega, by go_num, by go_num, by omega, HD2, HO2, HB2⟩
              case measure => simp [intOf]; omega
            · have q2 : (((x[k].toNat : Nat) : Int) == 10) = false := ine (by omega)
              rw [nl_no h10] at HD2
              clear h10
              go_wp2
              go_roundw
              case rel => exact ⟨k + 1, c + 1, l, by omega, by omega, by go_num, by first | rfl | go_num, by omega, HD2, HO2, HB2⟩
              case measure => simp [intOf]; omega
    · have HE : Hid (OwnU2 wr w.heap.size (.slice ao q co) (Scn.mst most (plc x y))) := hid (by
        have e : c = (plc x y).length := by
          have h1 : (plc x y).drop c = [] := by
            rw [HD.out.1]
            rcases Nat.lt_or_ge k x.size with h | h
            · rw [List.drop_of_length_le (l := y.data.toList) (by rw [dsize]; omega)]; exact Scn.pl_nil_r _ _ _
            · rw [List.drop_of_length_le (by rw [dsize]; omega)]; rfl
          have := List.drop_eq_nil_iff.1 h1
          have := HD.out.2
          omega
        have h := HOO.out
        have h2 := HQ.out
        rw [e, List.take_of_length_le (Nat.le_refl _)] at h h2
        unfold OwnU2
        rw [← h2]
        exact h)
      by_cases h1 : k < x.size
      · have h2 : ¬ (k : Int) < (y.size : Int) := by omega
        have h3 : (k : Int) < (x.size : Int) := by omega
        clear hlt
        go_wp2
        go_ret
        exact ⟨_, rfl, HE.out, HB.out⟩
      · have h3 : ¬ (k : Int) < (x.size : Int) := by omega
        clear hlt
        go_wp2
        go_ret
        exact ⟨_, rfl, HE.out, HB.out⟩
end Go.Proofs.Ytagjjhlegojpbaa
