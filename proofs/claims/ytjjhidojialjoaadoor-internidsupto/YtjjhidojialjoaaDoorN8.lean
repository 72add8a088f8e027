/-
  The walks of same and sure.
-/
import Derived.Test.YtjjhidojialjoaaDoorN7
import Derived.Deep.QuietTactic
namespace Go.Proofs.YtjjhidojialjoaaDoor
open Go.RowKit

theorem below_drewN {B : Nat} {a w : World} (h : Below B a w) (m : Nat) : Below B a (w.drewN m) := ⟨h.os, h.tape, h.output, h.size, h.block⟩
theorem RdI.shape {w : World} {v : Value} {l : List Nat} (h : RdI w v l) : ∃ a c, v = .slice a l.length c := by
  rcases h with ⟨rfl, a, c, rfl⟩ | ⟨b, o, c, rfl, _⟩
  · exact ⟨a, c, rfl⟩
  · exact ⟨_, _, rfl⟩
theorem RdI.cell {w : World} {a : Option Addr} {n c k x : Nat} {l : List Nat} (h : RdI w (.slice a n c) l) (hk : l[k]? = some x) : ∃ b o, a = some ⟨b, o, none⟩ ∧ w.cell? ⟨b, o + k, none⟩ = some (.int .i64 x) := by
  rcases h with ⟨rfl, _⟩ | ⟨b, o, c', hv, _, _, hX⟩
  · simp at hk
  · cases hv; exact ⟨b, o, rfl, hX k x hk⟩
theorem take_eq_snoc {l m : List Nat} {k x : Nat} (h : l.take k = m.take k) (h1 : l[k]? = some x) (h2 : m[k]? = some x) : l.take (k + 1) = m.take (k + 1) := by
  rw [List.take_add_one, List.take_add_one, h, h1, h2]

set_option maxHeartbeats 1000000 in
theorem same_any {v u : Value} {l m : List Nat} {w : World} (hv : RdI w v l) (hu : RdI w u m) (_hl : l.length ≤ 100000000000) (hm : m.length ≤ 100000000000) :
    Calls Tryd.prog 6 #[v, u] w fun e w' => e = .returned (.bool (decide (l = m))) ∧ Below w.heap.size w w' := by
  obtain ⟨a, c, rfl⟩ := hv.shape
  obtain ⟨a', c', rfl⟩ := hu.shape
  have HV := hid hv
  have HU := hid hu
  clear hv hu
  by_cases hlm : l.length = m.length
  · have HLM := hid hlm
    have hbe : ((l.length : Int) != (m.length : Int)) = false := by rw [hlm]; simp
    have hle : l.length ≤ m.length := by omega
    clear hlm
    go_enter Tryd.func6, Tryd.ntmps6
    go_wp2
    go_loopw [5] (fun i wr => ∃ k : Nat, k ≤ l.length ∧ i = .int .i64 k ∧ Hid (l.take k = m.take k) ∧ ∃ q, wr = w.drewN q) (fun i _ => l.length - (intOf i).toNat)
    case atStart => exact ⟨0, Nat.zero_le _, rfl, hid rfl, 0, rfl⟩
    case round =>
      obtain ⟨k, hk, rfl, HT, q, rfl⟩ := hrel
      by_cases hlt : k < l.length
      · obtain ⟨x, hx⟩ : ∃ x, l[k]? = some x := ⟨_, List.getElem?_eq_getElem hlt⟩
        obtain ⟨y, hy⟩ : ∃ y, m[k]? = some y := ⟨_, List.getElem?_eq_getElem (by omega)⟩
        obtain ⟨b, o, rfl, hc1⟩ := HV.out.cell hx
        obtain ⟨b', o', rfl, hc2⟩ := HU.out.cell hy
        have hkm : k < m.length := by omega
        have HX := hid hx
        have HY := hid hy
        clear hx hy
        by_cases hxy : x = y
        · have hne : ((x : Int) != (y : Int)) = false := by rw [hxy]; simp
          have HXY := hid hxy
          clear hxy
          go_wp2
          go_quiet (fail)
          go_wp2
          go_roundw
          case rel => exact ⟨k + 1, by omega, by go_num, hid (take_eq_snoc HT.out HX.out (by rw [HXY.out]; exact HY.out)), _, rfl⟩
          case measure => simp [intOf]; omega
        · have hne : ((x : Int) != (y : Int)) = true := by
            rw [bne_iff_ne]; omega
          have HF : Hid (decide (l = m) = false) := hid (decide_eq_false (fun e => hxy (by
            have h1 := HX.out
            rw [e, HY.out] at h1
            exact (Option.some.inj h1).symm)))
          clear hxy
          go_wp2
          go_quiet (fail)
          go_wp2
          go_ret
          exact ⟨ret_bool HF.out.symm, below_drewN (below_drewN (Below.refl _ _) _) _⟩
      · have HF : Hid (decide (l = m) = true) := hid (decide_eq_true (by
          have h := HT.out
          rw [List.take_of_length_le (by omega), List.take_of_length_le (by have := HLM.out; omega)] at h
          exact h))
        go_wp2
        go_ret
        exact ⟨ret_bool HF.out.symm, below_drewN (Below.refl _ _) q⟩
  · have HF : Hid (decide (l = m) = false) := hid (decide_eq_false (fun e => hlm (by rw [e])))
    have hbe : ((l.length : Int) != (m.length : Int)) = true := by rw [bne_iff_ne]; omega
    clear hlm
    go_enter Tryd.func6, Tryd.ntmps6
    go_wp2
    go_ret
    exact ⟨ret_bool HF.out.symm, Below.refl _ _⟩

theorem rd_two {w : World} {b c : Nat} {x y : ByteArray} (h : w.heap[b]? = some (.cells #[.string x, .string y] 9 (0, 0))) (hc : 2 ≤ c) : Rd w (.slice (some ⟨b, 0, none⟩) 2 c) [x, y] := by
  refine .inr ⟨b, 0, c, rfl, hc, lt_of_heap h, fun j z hj => ?_⟩
  match j, hj with
  | 0, hj => simp at hj; subst hj; simp [World.cell?, h]
  | 1, hj => simp at hj; subst hj; simp [World.cell?, h]
  | j + 2, hj => simp at hj
theorem rdI_two {w : World} {b c x y : Nat} (h : w.heap[b]? = some (.cells #[.int .i64 x, .int .i64 y] 3 (0, 0))) (hc : 2 ≤ c) : RdI w (.slice (some ⟨b, 0, none⟩) 2 c) [x, y] := by
  refine .inr ⟨b, 0, c, rfl, hc, lt_of_heap h, fun j z hj => ?_⟩
  match j, hj with
  | 0, hj => simp at hj; subst hj; simp [World.cell?, h]
  | 1, hj => simp at hj; subst hj; simp [World.cell?, h]
  | j + 2, hj => simp at hj
set_option maxHeartbeats 2000000 in
theorem sure_any (w : World) : Calls Tryd.prog 8 #[] w fun e w' => e = .returned (.bool true) ∧ Below w.heap.size w w' := by
  go_enter Tryd.func8, Tryd.ntmps8
  go_wp2_with fail
  have hb0 : Below w.heap.size w ((w.alloc (.cells #[.string ⟨#[120, 10]⟩, .string ⟨#[121, 10]⟩] 9)).alloc (.cells #[.string ⟨#[121, 10]⟩, .string ⟨#[88]⟩] 9)) := ((Below.refl _ _).alloc (Nat.le_refl _) _).alloc (by simp) _
  refine (ids_any (xs := [⟨#[120, 10]⟩, ⟨#[121, 10]⟩]) (ys := [⟨#[121, 10]⟩, ⟨#[88]⟩]) (e := 1) (rd_two ?h1 (Nat.le_refl _)) (rd_two ?h2 (Nat.le_refl _)) ?h3 ?h4 ?h5 rfl).mono ?_
  case h1 => exact (Below.heap_alloc _ _ _ (by simp)).trans (heap_alloc_new w (.cells #[.string ⟨#[120, 10]⟩, .string ⟨#[121, 10]⟩] 9))
  case h2 =>
    have h := heap_alloc_new (w.alloc (.cells #[.string ⟨#[120, 10]⟩, .string ⟨#[121, 10]⟩] 9)) (.cells #[.string ⟨#[121, 10]⟩, .string ⟨#[88]⟩] 9)
    simpa using h
  case h3 => intro x hx; simp at hx; rcases hx with rfl | rfl <;> decide
  case h4 => intro x hx; simp at hx; rcases hx with rfl | rfl <;> decide
  case h5 => decide
  rintro r w1 ⟨v1, v2, rfl, hO1, hO2, _, hb1⟩
  have e1 : idsA 1 [⟨#[120, 10]⟩, ⟨#[121, 10]⟩] = [0, 1] := by decide +kernel
  have e2 : idsB 1 [⟨#[120, 10]⟩, ⟨#[121, 10]⟩] [⟨#[121, 10]⟩, ⟨#[88]⟩] = [1, 2] := by decide +kernel
  rw [e1] at hO1
  rw [e2] at hO2
  have HO1 := hid hO1
  have HO2 := hid hO2
  have hB1 : Below w.heap.size w w1 := hb0.trans (hb1.mono (by simp; omega))
  clear hO1 hO2 e1 e2 hb0 hb1
  go_wp2_with fail
  have hz1 := hB1.size
  have hbA : Below w1.heap.size w1 (w1.alloc (.cells #[.int .i64 0, .int .i64 1] 3)) := (Below.refl _ _).alloc (Nat.le_refl _) _
  refine (same_any (HO1.out.stays hbA).rd (rdI_two (x := 0) (y := 1) (heap_alloc_new _ _) (Nat.le_refl _)) (by decide) (by decide)).mono ?_
  rintro r w2 ⟨rfl, hb2⟩
  have hB2 : Below w1.heap.size w1 w2 := hbA.trans (hb2.mono (by simp))
  have HO2' := hid (HO2.out.stays hB2)
  rw [decide_eq_true rfl]
  clear hb2 hbA HO1 HO2
  go_wp2_with fail
  have hbC : Below w2.heap.size w2 (w2.alloc (.cells #[.int .i64 1, .int .i64 2] 3)) := (Below.refl _ _).alloc (Nat.le_refl _) _
  refine (same_any (HO2'.out.stays hbC).rd (rdI_two (x := 1) (y := 2) (heap_alloc_new _ _) (Nat.le_refl _)) (by decide) (by decide)).mono ?_
  rintro r w3 ⟨rfl, hb3⟩
  have hB3 : Below w.heap.size w w3 := (hB1.trans (hB2.mono hz1)).trans ((hbC.trans (hb3.mono (by simp))).mono (Nat.le_trans hz1 hB2.size))
  rw [decide_eq_true rfl]
  clear hb3 hbC HO2' hB1 hB2
  have e3 : (ByteArray.mk (In.keyI 4 [65, 32, 32, 98, 32, 10]).toArray) = ⟨#[65, 32, 98, 10]⟩ := by
    have : In.keyI 4 [65, 32, 32, 98, 32, 10] = [65, 32, 98, 10] := by decide +kernel
    rw [this]
  go_wp2_with fail
  refine (key_any ⟨#[65, 32, 32, 98, 32, 10]⟩ 4 _ (by decide)).mono ?_
  rintro r w4 ⟨rfl, hb4⟩
  rw [show (ByteArray.mk #[65, 32, 32, 98, 32, 10]).data.toList = [65, 32, 32, 98, 32, 10] from rfl, e3]
  have hB4 := hB3.trans (hb4.mono hB3.size)
  clear hb4 hB3 e3
  go_wp2_with fail
  refine (blank_any ⟨#[32, 10]⟩ _ (by decide)).mono ?_
  rintro r w5 ⟨rfl, rfl⟩
  rw [show blk (ByteArray.mk #[32, 10]).data.toList = true by decide +kernel]
  go_wp2_with fail
  refine (blank_any ⟨#[120]⟩ _ (by decide)).mono ?_
  rintro r w6 ⟨rfl, rfl⟩
  rw [show blk (ByteArray.mk #[120]).data.toList = false by decide +kernel]
  go_wp2
  go_ret
  exact ⟨rfl, hB4⟩
end Go.Proofs.YtjjhidojialjoaaDoor
