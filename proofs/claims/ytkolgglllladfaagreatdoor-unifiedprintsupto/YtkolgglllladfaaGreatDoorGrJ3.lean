/-
  Several texts in one: J3, J4, J5, Jq.
-/
import Derived.Test.YtkolgglllladfaaGreatDoorGrC
import Derived.Test.YtkolgglllladfaaGreatDoorGrC4
import Derived.Test.YtkolgglllladfaaGreatDoorGrX
import Derived.StillTailTactics
import Derived.BigQuiet
/-
  The walks of isChanged, areRows, Sides, isSide, isHead, Valid.
-/
namespace Go.Proofs.YtkolgglllladfaaGreatDoor
open Go.RowKit
open Hu (Rw Hk)

set_option maxHeartbeats 1000000 in
set_option maxRecDepth 100000 in
theorem isChanged_any (r : Rw) (w : World) : Calls Tryz.prog 87 #[RwV r] w fun e w' => e = .returned (.bool (Hu.isC r)) ∧ Below w.heap.size w w' := by
  have HB := hid ((Below.refl w.heap.size w).alloc (Nat.le_refl _) (.cells #[.int .i64 r.k, .string r.t] 57))
  unfold RwV Hu.isC
  cases h2 : (r.k == 2) <;> cases h3 : (r.k == 3)
  all_goals
    go_enter Tryz.func87, Tryz.ntmps87
    go_wp2
    go_ret
    exact ⟨rfl, HB.out⟩

theorem all_take1 {l : List Rw} {p : Rw → Bool} {k : Nat} {x : Rw} (h : l[k]? = some x) : (l.take (k + 1)).all p = ((l.take k).all p && p x) := by
  rw [List.take_add_one, h, List.all_append]; simp
theorem any_take1 {l : List Rw} {p : Rw → Bool} {k : Nat} {x : Rw} (h : l[k]? = some x) : (l.take (k + 1)).any p = ((l.take k).any p || p x) := by
  rw [List.take_add_one, h, List.any_append]; simp
theorem areR_no {l : List Rw} {k : Nat} {x : Rw} (h : l[k]? = some x) (hx : (x.k == 1 || Hu.isC x) = false) : Hu.areR l = false := by
  unfold Hu.areR
  have : l.all (fun r => r.k == 1 || Hu.isC r) = false := List.all_eq_false.2 ⟨x, List.mem_of_getElem? h, by rw [hx]; simp⟩
  rw [this]; rfl
set_option maxHeartbeats 2000000 in
set_option maxRecDepth 100000 in
theorem areRows_any {w : World} {v : Value} {l : List Rw} (hv : RdW w v l) (hl : l.length ≤ 5864062014800) :
    Calls Tryz.prog 52 #[v] w fun e w' => e = .returned (.bool (Hu.areR l)) ∧ Below w.heap.size w w' := by
  obtain ⟨av, cv, rfl⟩ := hv.shape
  have HV := hid hv
  obtain ⟨n, hn⟩ : ∃ n, n = l.length := ⟨_, rfl⟩
  have HN := hid hn
  rw [← hn] at HV hl ⊢
  clear hv hn
  go_enter Tryz.func52, Tryz.ntmps52
  go_wp2
  go_loopw [3, 8] (fun ch ii wr => ∃ (k : Nat) (c : Bool), k ≤ n ∧ ii = .int .i64 k ∧ ch = .bool c ∧ Hid ((l.take k).all (fun r => r.k == 1 || Hu.isC r) = true) ∧ Hid (c = (l.take k).any Hu.isC) ∧ Hid (Below w.heap.size w wr)) (fun _ ii _ => n - (intOf ii).toNat)
  case atStart => exact ⟨0, false, Nat.zero_le _, rfl, rfl, hid rfl, hid rfl, Below.refl _ _⟩
  case round =>
    obtain ⟨k, c, hk, rfl, rfl, HA, HC, HB⟩ := hrel
    by_cases hlt : k < n
    · obtain ⟨x, hx⟩ : ∃ x, l[k]? = some x := ⟨_, List.getElem?_eq_getElem (by have := HN.out; omega)⟩
      obtain ⟨b1, o1, e1, hb1, d0, d1⟩ := rdW_at (HV.out.below HB.out) hx
      subst e1
      have HX := hid hx
      have i1 : (0 : Int) ≤ (k : Int) := by omega
      have i2 : (k : Int) < (n : Int) := by omega
      obtain ⟨xk, xt⟩ := x
      dsimp only at d0 d1
      clear hx hb1
      by_cases n1 : xk = 1
      · subst n1
        have HB1 := hid (HB.out.alloc HB.out.size (.cells #[.int .i64 1, .string xt] 57))
        have HBK := hid (heap_alloc_new wr (.cells #[.int .i64 1, .string xt] 57))
        have HCH := hid (fun w1 => isChanged_any ⟨1, xt⟩ w1)
        unfold RwV at HCH
        rw [show Hu.isC ⟨1, xt⟩ = false from rfl] at HCH
        have HA2 : Hid ((l.take (k + 1)).all (fun r => r.k == 1 || Hu.isC r) = true) := hid (by rw [all_take1 HX.out, HA.out]; rfl)
        have HC2 : Hid (c = (l.take (k + 1)).any Hu.isC) := hid (by rw [any_take1 HX.out, ← HC.out]; cases c <;> rfl)
        cases c with
        | true =>
          go_wp2_with fail
          go_roundw
          case rel => exact ⟨k + 1, true, by omega, by go_num, rfl, HA2, HC2, HB1⟩
          case measure => simp [intOf]; omega
        | false =>
          go_wp2_with fail
          refine (HCH.out _).mono ?_
          rintro e w2 ⟨rfl, h2⟩
          have HB2 := hid (HB1.out.trans (h2.mono HB1.out.size))
          clear h2
          go_wp2_with fail
          go_roundw
          case rel => exact ⟨k + 1, false, by omega, by go_num, rfl, HA2, HC2, HB2⟩
          case measure => simp [intOf]; omega
      by_cases n2 : xk = 2
      · subst n2
        have HB1 := hid (HB.out.alloc HB.out.size (.cells #[.int .i64 2, .string xt] 57))
        have HBK := hid (heap_alloc_new wr (.cells #[.int .i64 2, .string xt] 57))
        have HCH := hid (fun w1 => isChanged_any ⟨2, xt⟩ w1)
        unfold RwV at HCH
        rw [show Hu.isC ⟨2, xt⟩ = true from rfl] at HCH
        have HA2 : Hid ((l.take (k + 1)).all (fun r => r.k == 1 || Hu.isC r) = true) := hid (by rw [all_take1 HX.out, HA.out]; rfl)
        have HC2 : Hid (true = (l.take (k + 1)).any Hu.isC) := hid (by rw [any_take1 HX.out]; show true = (_ || true); simp)
        go_wp2_with fail
        refine (HCH.out _).mono ?_
        rintro e w2 ⟨rfl, h2⟩
        have HB2 := hid (HB1.out.trans (h2.mono HB1.out.size))
        have hblk := (h2.block wr.heap.size (by simp)).trans HBK.out
        have q0 : w2.cell? ⟨wr.heap.size, 0, none⟩ = some (.int .i64 2) := cell_of_blk hblk 0
        have q1 : w2.cell? ⟨wr.heap.size, 1, none⟩ = some (.string xt) := cell_of_blk hblk 1
        clear h2 hblk
        cases c with
        | true =>
          go_wp2_with fail
          go_roundw
          case rel => exact ⟨k + 1, true, by omega, by go_num, rfl, HA2, HC2, HB2⟩
          case measure => simp [intOf]; omega
        | false =>
          go_wp2_with fail
          refine (HCH.out _).mono ?_
          rintro e w3 ⟨rfl, h3⟩
          have HB3 := hid (HB2.out.trans (h3.mono HB2.out.size))
          clear h3
          go_wp2_with fail
          go_roundw
          case rel => exact ⟨k + 1, true, by omega, by go_num, rfl, HA2, HC2, HB3⟩
          case measure => simp [intOf]; omega
      by_cases n3 : xk = 3
      · subst n3
        have HB1 := hid (HB.out.alloc HB.out.size (.cells #[.int .i64 3, .string xt] 57))
        have HBK := hid (heap_alloc_new wr (.cells #[.int .i64 3, .string xt] 57))
        have HCH := hid (fun w1 => isChanged_any ⟨3, xt⟩ w1)
        unfold RwV at HCH
        rw [show Hu.isC ⟨3, xt⟩ = true from rfl] at HCH
        have HA2 : Hid ((l.take (k + 1)).all (fun r => r.k == 1 || Hu.isC r) = true) := hid (by rw [all_take1 HX.out, HA.out]; rfl)
        have HC2 : Hid (true = (l.take (k + 1)).any Hu.isC) := hid (by rw [any_take1 HX.out]; show true = (_ || true); simp)
        go_wp2_with fail
        refine (HCH.out _).mono ?_
        rintro e w2 ⟨rfl, h2⟩
        have HB2 := hid (HB1.out.trans (h2.mono HB1.out.size))
        have hblk := (h2.block wr.heap.size (by simp)).trans HBK.out
        have q0 : w2.cell? ⟨wr.heap.size, 0, none⟩ = some (.int .i64 3) := cell_of_blk hblk 0
        have q1 : w2.cell? ⟨wr.heap.size, 1, none⟩ = some (.string xt) := cell_of_blk hblk 1
        clear h2 hblk
        cases c with
        | true =>
          go_wp2_with fail
          go_roundw
          case rel => exact ⟨k + 1, true, by omega, by go_num, rfl, HA2, HC2, HB2⟩
          case measure => simp [intOf]; omega
        | false =>
          go_wp2_with fail
          refine (HCH.out _).mono ?_
          rintro e w3 ⟨rfl, h3⟩
          have HB3 := hid (HB2.out.trans (h3.mono HB2.out.size))
          clear h3
          go_wp2_with fail
          go_roundw
          case rel => exact ⟨k + 1, true, by omega, by go_num, rfl, HA2, HC2, HB3⟩
          case measure => simp [intOf]; omega
      have HB1 := hid (HB.out.alloc HB.out.size (.cells #[.int .i64 xk, .string xt] 57))
      have HBK := hid (heap_alloc_new wr (.cells #[.int .i64 xk, .string xt] 57))
      have HCH := hid (fun w1 => isChanged_any ⟨xk, xt⟩ w1)
      unfold RwV at HCH
      have hq : Hu.isC ⟨xk, xt⟩ = false := by unfold Hu.isC; rw [zne n2, zne n3]; rfl
      have HE := hid (areR_no HX.out (by rw [hq, zne n1]; rfl))
      rw [hq] at HCH
      have z1 : (xk == 1) = false := zne n1
      have z2 : (xk != 1) = true := by rw [bne_iff_ne]; exact n1
      clear n1 n2 n3 hq
      go_wp2_with fail
      refine (HCH.out _).mono ?_
      rintro e w2 ⟨rfl, h2⟩
      have HB2 := hid (HB1.out.trans (h2.mono HB1.out.size))
      clear h2
      go_wp2_with fail
      go_ret
      exact ⟨ret_bool HE.out.symm, HB2.out⟩
    · obtain rfl : k = n := by omega
      have hk2 : l.take k = l := List.take_of_length_le (by have := HN.out; omega)
      have HE : Hid (c = Hu.areR l) := hid (by
        have h1 := HA.out
        have h2 := HC.out
        rw [hk2] at h1 h2
        unfold Hu.areR
        rw [h1, h2]; rfl)
      clear hk2
      go_wp2
      go_ret
      exact ⟨ret_bool HE.out, HB.out⟩
end Go.Proofs.YtkolgglllladfaaGreatDoor
/-
  The walks of Sides, isSide, isHead, Valid.
-/
namespace Go.Proofs.YtkolgglllladfaaGreatDoor
open Go.RowKit
open Hu (Rw Hk)

theorem grown_keeps {w w' : World} {v : Value} {g : Nat} (hg : w.grownBy w' v.ownBlock) (hlt : g < w.heap.size) (hne : ∀ k, v.ownBlock = some k → k ≠ g) : w'.heap[g]? = w.heap[g]? := hg.block g hlt (fun e => hne g e.symm rfl)
theorem olds_take {l : List Rw} {k : Nat} {x : Rw} (h : l[k]? = some x) : Hu.olds (l.take (k + 1)) = if Hu.isO x then Hu.olds (l.take k) ++ [x.t] else Hu.olds (l.take k) := by
  rw [List.take_add_one, h, Hu.olds_app]
  show Hu.olds _ ++ Hu.olds [x] = _
  rw [Hu.olds_cons]
  cases Hu.isO x <;> simp [Hu.olds]
theorem fres_take {l : List Rw} {k : Nat} {x : Rw} (h : l[k]? = some x) : Hu.fres (l.take (k + 1)) = if Hu.isF x then Hu.fres (l.take k) ++ [x.t] else Hu.fres (l.take k) := by
  rw [List.take_add_one, h, Hu.fres_app]
  show Hu.fres _ ++ Hu.fres [x] = _
  rw [Hu.fres_cons]
  cases Hu.isF x <;> simp [Hu.fres]
/-- two rows of lines, the call's own, apart -/
def Two2 (w : World) (B : Nat) (v1 v2 : Value) (l1 l2 : List ByteArray) : Prop := OwnT w B v1 l1 ∧ OwnT w B v2 l2 ∧ Apart v1 v2
theorem Two2.stays {w w' : World} {B : Nat} {v1 v2 : Value} {l1 l2 : List ByteArray} (h : Two2 w B v1 v2 l1 l2) (hb : Below w.heap.size w w') : Two2 w' B v1 v2 l1 l2 := ⟨own_stays h.1 hb, own_stays h.2.1 hb, h.2.2⟩
theorem Two2.one {w w' : World} {B : Nat} {v1 v1' v2 : Value} {l1 l1' l2 : List ByteArray} (h : Two2 w B v1 v2 l1 l2) (h1 : OwnT w' B v1' l1') (hg : w.grownBy w' v1.ownBlock) (hl : Lies w v1 v1') : Two2 w' B v1' v2 l1' l2 := ⟨h1, kept_row h.2.1 hg h.2.2, apart_new h.2.1 h.2.2 hl⟩
theorem Two2.two {w w' : World} {B : Nat} {v1 v2' v2 : Value} {l1 l2' l2 : List ByteArray} (h : Two2 w B v1 v2 l1 l2) (h1 : OwnT w' B v2' l2') (hg : w.grownBy w' v2.ownBlock) (hl : Lies w v2 v2') : Two2 w' B v1 v2' l1 l2' := ⟨kept_row h.1 hg h.2.2.symm, h1, (apart_new h.1 h.2.2.symm hl).symm⟩

set_option maxHeartbeats 4000000 in
set_option maxRecDepth 100000 in
theorem sides_any {w : World} {h : Hk} {v : Value} (hv : RdW w v h.rows) (hl : h.rows.length < 5864062014800) :
    Calls Tryz.prog 51 #[HkV h v] w fun e w' => ∃ v1 v2, e = .returned (.tuple #[v1, v2]) ∧ Two2 w' w.heap.size v1 v2 (Hu.olds h.rows) (Hu.fres h.rows) ∧ Below w.heap.size w w' := by
  obtain ⟨av, cv, rfl⟩ := hv.shape
  have HV := hid hv
  obtain ⟨ha, hn', hb', hm', hh, l⟩ := h
  dsimp only at HV hl ⊢
  unfold HkV
  dsimp only
  obtain ⟨i0, hi, hz0, hz1, hz2⟩ := info_parts Tryz.infoStr
  obtain ⟨n, hn⟩ : ∃ n, n = l.length := ⟨_, rfl⟩
  have HN := hid hn
  rw [← hn] at HV hl ⊢
  clear hv hn
  have hb0 := (Below.refl w.heap.size w).alloc (Nat.le_refl _) (.cells #[.int .i64 ha, .int .i64 hn', .int .i64 hb', .int .i64 hm', .string hh, .slice av n cv] 37)
  have hk0 := heap_alloc_new w (.cells #[.int .i64 ha, .int .i64 hn', .int .i64 hb', .int .i64 hm', .string hh, .slice av n cv] 37)
  obtain ⟨w0, hw0⟩ : ∃ w0, w0 = w.alloc (.cells #[.int .i64 ha, .int .i64 hn', .int .i64 hb', .int .i64 hm', .string hh, .slice av n cv] 37) := ⟨_, rfl⟩
  rw [← hw0] at hb0 hk0
  have HW0 := hid hw0
  have c5 : w0.cell? ⟨w.heap.size, 5, none⟩ = some (.slice av n cv) := cell_of_blk hk0 5
  have HB0 := hid hb0
  have HK0 := hid hk0
  clear hw0 hb0 hk0
  go_enter Tryz.func51, Tryz.ntmps51
  go_wp2_with (first | (rw [← HW0.out]) | (at_make; refine wpList_make_own _ rfl _ _ 95 rfl w.heap.size 9 i0 (.string .empty) 1 Tryz.underlying95 hi hz0 hz1 .i64 .i64 _ n rfl rfl rfl (by rw [hz2]; omega) (by unfold maxLen; omega) HB0.out.size ?_; intro w1 hown1 hgrow1; have HB1 := hid (HB0.out.grown hgrow1 HB0.out.size (fun k hk => by cases hk)); have HK1 := hid ((hgrow1.block w.heap.size (lt_of_heap HK0.out) (by simp)).trans HK0.out); have d5 : w1.cell? ⟨w.heap.size, 5, none⟩ = some (.slice av n cv) := cell_of_blk HK1.out 5; have HO1 := hid hown1; clear hown1 hgrow1) | (at_make; refine wpList_make_own _ rfl _ _ 95 rfl w.heap.size 9 i0 (.string .empty) 1 Tryz.underlying95 hi hz0 hz1 .i64 .i64 _ n rfl rfl rfl (by rw [hz2]; omega) (by unfold maxLen; omega) HB1.out.size ?_; intro w2 hown2 hgrow2; have HB2 := hid (HB1.out.grown hgrow2 HB1.out.size (fun k hk => by cases hk)); have HK2 := hid ((hgrow2.block w.heap.size (lt_of_heap HK1.out) (by simp)).trans HK1.out); have e5 : w2.cell? ⟨w.heap.size, 5, none⟩ = some (.slice av n cv) := cell_of_blk HK2.out 5; have HO2 := hid hown2; have HO12 := hid (World.ownsRow.kept HO1.out hgrow2 (.inr (fun e => by cases e))); clear hown2 hgrow2))
  have HT2 : Hid (Two2 w2 w.heap.size (.slice (some ⟨w0.heap.size, 0, none⟩) 0 n) (.slice (some ⟨w1.heap.size, 0, none⟩) 0 n) [] []) := hid ⟨HO12.out, HO2.out, fun k h1 h2 => by
    cases h1
    have := own_lt HO1.out w0.heap.size rfl
    have e : w1.heap.size = w0.heap.size := Option.some.inj h2
    omega⟩
  go_loopw [4, 5, 19] (fun vo vf ii wr => ∃ (k : Nat) (O F : List ByteArray), k ≤ n ∧ ii = .int .i64 k ∧ Hid (O = Hu.olds (l.take k)) ∧ Hid (F = Hu.fres (l.take k)) ∧ Hid (Two2 wr w.heap.size vo vf O F) ∧ Hid (Below w.heap.size w wr)) (fun _ _ ii _ => n - (intOf ii).toNat)
  case atStart => exact ⟨0, [], [], Nat.zero_le _, rfl, hid rfl, hid rfl, HT2, HB2⟩
  case round =>
    obtain ⟨k, O, F, hk, rfl, HOE, HFE, HT, HB⟩ := hrel
    obtain ⟨ao, co, rfl⟩ := own_shape HT.out.1
    obtain ⟨af, cf, rfl⟩ := own_shape HT.out.2.1
    by_cases hlt : k < n
    · obtain ⟨x, hx⟩ : ∃ x, l[k]? = some x := ⟨_, List.getElem?_eq_getElem (by have := HN.out; omega)⟩
      obtain ⟨b1, o1, e1, hb1, d0, d1⟩ := rdW_at (HV.out.below HB.out) hx
      subst e1
      have HX := hid hx
      have i1 : (0 : Int) ≤ (k : Int) := by omega
      have i2 : (k : Int) < (n : Int) := by omega
      have hOl : O.length ≤ n := by rw [HOE.out]; exact Nat.le_trans (Hu.olds_len _) (by rw [List.length_take]; omega)
      have hFl : F.length ≤ n := by rw [HFE.out]; exact Nat.le_trans (Hu.fres_len _) (by rw [List.length_take]; omega)
      obtain ⟨xk, xt⟩ := x
      dsimp only at d0 d1
      clear hx hb1
      by_cases n1 : xk = 1
      · subst n1
        have HB1 := hid (HB.out.alloc HB.out.size (.cells #[.int .i64 1, .string xt] 57))
        have HT1 := hid (HT.out.stays ((Below.refl wr.heap.size wr).alloc (Nat.le_refl _) (.cells #[.int .i64 1, .string xt] 57)))
        have HBK := hid (heap_alloc_new wr (.cells #[.int .i64 1, .string xt] 57))
        have HO2 : Hid (Hu.olds (l.take (k + 1)) = O ++ [xt]) := hid (by rw [olds_take HX.out, ← HOE.out]; rfl)
        have HF2 : Hid (Hu.fres (l.take (k + 1)) = F ++ [xt]) := hid (by rw [fres_take HX.out, ← HFE.out]; rfl)
        obtain ⟨w1, hw1⟩ : ∃ w1, w1 = wr.alloc (.cells #[.int .i64 1, .string xt] 57) := ⟨_, rfl⟩
        rw [← hw1] at HB1 HT1 HBK
        have HW1 := hid hw1
        have q0 : w1.cell? ⟨wr.heap.size, 0, none⟩ = some (.int .i64 1) := cell_of_blk HBK.out 0
        have q1 : w1.cell? ⟨wr.heap.size, 1, none⟩ = some (.string xt) := cell_of_blk HBK.out 1
        have HOL : Hid (∀ g, (Value.slice ao O.length co).ownBlock = some g → g < wr.heap.size) := hid (fun g h => own_lt HT.out.1 g h)
        have HBN := hid ((Below.refl w1.heap.size w1).alloc (Nat.le_refl _) (.cells #[.string xt] 9))
        have HBK2 := hid ((HBN.out.block wr.heap.size (lt_of_heap HBK.out)).trans HBK.out)
        have HT2 := hid (HT1.out.stays HBN.out)
        have HB2 := hid (HB1.out.alloc HB1.out.size (.cells #[.string xt] 9))
        clear hw1
        go_wp2_with (first | (rw [← HW1.out]) | (at_builtin; refine wpList_append_st rfl _ _ rfl w.heap.size _ O rfl HT2.out.1 w1.heap.size xt rfl (heap_alloc_new w1 _) (by omega) HB2.out.size ?_; intro v3 w3 hO3 hg3 hl3 hb3; have HT3 := hid (HT2.out.one hO3 hg3 hl3); have HB3 := hid (HB2.out.trans hb3); have HBK3 := hid ((grown_keeps hg3 (by have := lt_of_heap HBK.out; simp; omega) (fun g h => by have := HOL.out g h; omega)).trans HBK2.out); have q2 : w3.cell? ⟨wr.heap.size, 0, none⟩ = some (.int .i64 1) := cell_of_blk HBK3.out 0; have q3 : w3.cell? ⟨wr.heap.size, 1, none⟩ = some (.string xt) := cell_of_blk HBK3.out 1; have HBN3 := hid ((Below.refl w3.heap.size w3).alloc (Nat.le_refl _) (.cells #[.string xt] 9)); have HT4 := hid (HT3.out.stays HBN3.out); have HB4 := hid (HB3.out.alloc HB3.out.size (.cells #[.string xt] 9)); clear hO3 hg3 hl3 hb3) | (at_builtin; refine wpList_append_st rfl _ _ rfl w.heap.size _ F rfl HT4.out.2.1 w3.heap.size xt rfl (heap_alloc_new w3 _) (by omega) HB4.out.size ?_; intro v5 w5 hO5 hg5 hl5 hb5; have HT5 := hid (HT4.out.two hO5 hg5 hl5); have HB5 := hid (HB4.out.trans hb5); clear hO5 hg5 hl5 hb5))
        go_roundw
        case rel => exact ⟨k + 1, O ++ [xt], F ++ [xt], by omega, by go_num, hid HO2.out.symm, hid HF2.out.symm, HT5, HB5⟩
        case measure => simp [intOf]; omega
      by_cases n2 : xk = 2
      · subst n2
        have HB1 := hid (HB.out.alloc HB.out.size (.cells #[.int .i64 2, .string xt] 57))
        have HT1 := hid (HT.out.stays ((Below.refl wr.heap.size wr).alloc (Nat.le_refl _) (.cells #[.int .i64 2, .string xt] 57)))
        have HBK := hid (heap_alloc_new wr (.cells #[.int .i64 2, .string xt] 57))
        have HO2 : Hid (Hu.olds (l.take (k + 1)) = O ++ [xt]) := hid (by rw [olds_take HX.out, ← HOE.out]; rfl)
        have HF2 : Hid (Hu.fres (l.take (k + 1)) = F) := hid (by rw [fres_take HX.out, ← HFE.out]; rfl)
        obtain ⟨w1, hw1⟩ : ∃ w1, w1 = wr.alloc (.cells #[.int .i64 2, .string xt] 57) := ⟨_, rfl⟩
        rw [← hw1] at HB1 HT1 HBK
        have HW1 := hid hw1
        have q0 : w1.cell? ⟨wr.heap.size, 0, none⟩ = some (.int .i64 2) := cell_of_blk HBK.out 0
        have q1 : w1.cell? ⟨wr.heap.size, 1, none⟩ = some (.string xt) := cell_of_blk HBK.out 1
        have HOL : Hid (∀ g, (Value.slice ao O.length co).ownBlock = some g → g < wr.heap.size) := hid (fun g h => own_lt HT.out.1 g h)
        have HBN := hid ((Below.refl w1.heap.size w1).alloc (Nat.le_refl _) (.cells #[.string xt] 9))
        have HBK2 := hid ((HBN.out.block wr.heap.size (lt_of_heap HBK.out)).trans HBK.out)
        have HT2 := hid (HT1.out.stays HBN.out)
        have HB2 := hid (HB1.out.alloc HB1.out.size (.cells #[.string xt] 9))
        clear hw1
        go_wp2_with (first | (rw [← HW1.out]) | (at_builtin; refine wpList_append_st rfl _ _ rfl w.heap.size _ O rfl HT2.out.1 w1.heap.size xt rfl (heap_alloc_new w1 _) (by omega) HB2.out.size ?_; intro v3 w3 hO3 hg3 hl3 hb3; have HT3 := hid (HT2.out.one hO3 hg3 hl3); have HB3 := hid (HB2.out.trans hb3); have HBK3 := hid ((grown_keeps hg3 (by have := lt_of_heap HBK.out; simp; omega) (fun g h => by have := HOL.out g h; omega)).trans HBK2.out); have q2 : w3.cell? ⟨wr.heap.size, 0, none⟩ = some (.int .i64 2) := cell_of_blk HBK3.out 0; have q3 : w3.cell? ⟨wr.heap.size, 1, none⟩ = some (.string xt) := cell_of_blk HBK3.out 1; have HBN3 := hid ((Below.refl w3.heap.size w3).alloc (Nat.le_refl _) (.cells #[.string xt] 9)); have HT4 := hid (HT3.out.stays HBN3.out); have HB4 := hid (HB3.out.alloc HB3.out.size (.cells #[.string xt] 9)); clear hO3 hg3 hl3 hb3))
        go_roundw
        case rel => exact ⟨k + 1, O ++ [xt], F, by omega, by go_num, hid HO2.out.symm, hid HF2.out.symm, HT3, HB3⟩
        case measure => simp [intOf]; omega
      by_cases n3 : xk = 3
      · subst n3
        have HB1 := hid (HB.out.alloc HB.out.size (.cells #[.int .i64 3, .string xt] 57))
        have HT1 := hid (HT.out.stays ((Below.refl wr.heap.size wr).alloc (Nat.le_refl _) (.cells #[.int .i64 3, .string xt] 57)))
        have HBK := hid (heap_alloc_new wr (.cells #[.int .i64 3, .string xt] 57))
        have HO2 : Hid (Hu.olds (l.take (k + 1)) = O) := hid (by rw [olds_take HX.out, ← HOE.out]; rfl)
        have HF2 : Hid (Hu.fres (l.take (k + 1)) = F ++ [xt]) := hid (by rw [fres_take HX.out, ← HFE.out]; rfl)
        obtain ⟨w1, hw1⟩ : ∃ w1, w1 = wr.alloc (.cells #[.int .i64 3, .string xt] 57) := ⟨_, rfl⟩
        rw [← hw1] at HB1 HT1 HBK
        have HW1 := hid hw1
        have q0 : w1.cell? ⟨wr.heap.size, 0, none⟩ = some (.int .i64 3) := cell_of_blk HBK.out 0
        have q1 : w1.cell? ⟨wr.heap.size, 1, none⟩ = some (.string xt) := cell_of_blk HBK.out 1
        have HOL : Hid (∀ g, (Value.slice ao O.length co).ownBlock = some g → g < wr.heap.size) := hid (fun g h => own_lt HT.out.1 g h)
        have HBN := hid ((Below.refl w1.heap.size w1).alloc (Nat.le_refl _) (.cells #[.string xt] 9))
        have HBK2 := hid ((HBN.out.block wr.heap.size (lt_of_heap HBK.out)).trans HBK.out)
        have HT2 := hid (HT1.out.stays HBN.out)
        have HB2 := hid (HB1.out.alloc HB1.out.size (.cells #[.string xt] 9))
        clear hw1
        go_wp2_with (first | (rw [← HW1.out]) | (at_builtin; refine wpList_append_st rfl _ _ rfl w.heap.size _ F rfl HT2.out.2.1 w1.heap.size xt rfl (heap_alloc_new w1 _) (by omega) HB2.out.size ?_; intro v3 w3 hO3 hg3 hl3 hb3; have HT3 := hid (HT2.out.two hO3 hg3 hl3); have HB3 := hid (HB2.out.trans hb3); clear hO3 hg3 hl3 hb3))
        go_roundw
        case rel => exact ⟨k + 1, O, F ++ [xt], by omega, by go_num, hid HO2.out.symm, hid HF2.out.symm, HT3, HB3⟩
        case measure => simp [intOf]; omega
      have HB1 := hid (HB.out.alloc HB.out.size (.cells #[.int .i64 xk, .string xt] 57))
      have HT1 := hid (HT.out.stays ((Below.refl wr.heap.size wr).alloc (Nat.le_refl _) (.cells #[.int .i64 xk, .string xt] 57)))
      have HBK := hid (heap_alloc_new wr (.cells #[.int .i64 xk, .string xt] 57))
      have HO2 : Hid (Hu.olds (l.take (k + 1)) = O) := hid (by rw [olds_take HX.out, ← HOE.out]; unfold Hu.isO; rw [zne n1, zne n2]; rfl)
      have HF2 : Hid (Hu.fres (l.take (k + 1)) = F) := hid (by rw [fres_take HX.out, ← HFE.out]; unfold Hu.isF; rw [zne n1, zne n3]; rfl)
      have z1 : (xk == 1) = false := zne n1
      have z2 : (xk == 2) = false := zne n2
      have z3 : (xk == 3) = false := zne n3
      clear n1 n2 n3
      obtain ⟨w1, hw1⟩ : ∃ w1, w1 = wr.alloc (.cells #[.int .i64 xk, .string xt] 57) := ⟨_, rfl⟩
      rw [← hw1] at HB1 HT1 HBK
      have HW1 := hid hw1
      have q0 : w1.cell? ⟨wr.heap.size, 0, none⟩ = some (.int .i64 xk) := cell_of_blk HBK.out 0
      have q1 : w1.cell? ⟨wr.heap.size, 1, none⟩ = some (.string xt) := cell_of_blk HBK.out 1
      have HOL : Hid (∀ g, (Value.slice ao O.length co).ownBlock = some g → g < wr.heap.size) := hid (fun g h => own_lt HT.out.1 g h)
      have HBN := hid ((Below.refl w1.heap.size w1).alloc (Nat.le_refl _) (.cells #[.string xt] 9))
      have HBK2 := hid ((HBN.out.block wr.heap.size (lt_of_heap HBK.out)).trans HBK.out)
      have HT2 := hid (HT1.out.stays HBN.out)
      have HB2 := hid (HB1.out.alloc HB1.out.size (.cells #[.string xt] 9))
      clear hw1
      go_wp2_with (first | (rw [← HW1.out]))
      go_roundw
      case rel => exact ⟨k + 1, O, F, by omega, by go_num, hid HO2.out.symm, hid HF2.out.symm, HT1, HB1⟩
      case measure => simp [intOf]; omega
    · obtain rfl : k = n := by omega
      have hk2 : l.take k = l := List.take_of_length_le (by have := HN.out; omega)
      have HT9 : Hid (Two2 wr w.heap.size (.slice ao O.length co) (.slice af F.length cf) (Hu.olds l) (Hu.fres l)) := hid (by
        have h1 := HOE.out
        have h2 := HFE.out
        rw [hk2] at h1 h2
        rw [← h1, ← h2]
        exact HT.out)
      clear hk2
      go_wp2_with fail
      go_ret2
      exact ⟨_, _, rfl, HT9.out, HB.out⟩
end Go.Proofs.YtkolgglllladfaaGreatDoor
/-
  The walks of isSide, isHead, Valid.
-/
namespace Go.Proofs.YtkolgglllladfaaGreatDoor
open Go.RowKit
open Hu (Rw Hk)

theorem linesValid_any {w : World} {v : Value} {l : List ByteArray} (hv : RdT w v l) (hl : l.length ≤ 140737488355328) (hs : ∀ x ∈ l, x.size ≤ maxLen) :
    Calls Tryz.prog 88 #[v] w fun e w' => e = .returned (.bool (Hu.valS l)) ∧ w' = w := by
  rcases hv with ⟨h0, a, c, rfl⟩ | ⟨b, o, c, rfl, _, _, hX⟩
  · have e : l = [] := List.length_eq_zero_iff.1 h0
    subst e
    exact Cx.valid_none a c w
  · exact Cx.valid_any b o c l w (fun j x hj => hX j _ (stC_get hj)) hl hs
theorem side_no1 {at' n : Int} {s : List ByteArray} (h : n ≠ (s.length : Int)) : Hu.side at' n s = false := by unfold Hu.side; rw [beq_eq_false_iff_ne.2 h]; rfl
theorem side_no2 {at' n : Int} {s : List ByteArray} (h : ¬ min n 1 ≤ at') : Hu.side at' n s = false := by unfold Hu.side; rw [decide_eq_false h]; simp
theorem side_no3 {at' n : Int} {s : List ByteArray} (h : ¬ at' ≤ 2147483647 - n) : Hu.side at' n s = false := by unfold Hu.side; rw [decide_eq_false h]; simp
theorem side_yes {at' : Int} {s : List ByteArray} (h : min (s.length : Int) 1 ≤ at') (h2 : at' ≤ 2147483647 - (s.length : Int)) : Hu.side at' s.length s = Hu.valS s := by unfold Hu.side; rw [decide_eq_true h, decide_eq_true h2]; simp

set_option maxHeartbeats 2000000 in
set_option maxRecDepth 100000 in
theorem isSide_any {w : World} {v : Value} {s : List ByteArray} {at' n : Int} (hv : RdT w v s) (hl : s.length < 8796093022200) (hs : ∀ x ∈ s, x.size ≤ maxLen) :
    Calls Tryz.prog 53 #[.int .i64 at', .int .i64 n, v] w fun e w' => e = .returned (.bool (Hu.side at' n s)) ∧ w' = w := by
  obtain ⟨a, c, rfl⟩ := hv.shape
  have HV := hid (linesValid_any hv (by omega) hs)
  clear hv hs
  by_cases h1 : n = (s.length : Int)
  · subst h1
    by_cases h2 : min (s.length : Int) 1 ≤ at'
    · by_cases h3 : at' ≤ 2147483647 - (s.length : Int)
      · have HE := hid (side_yes h2 h3)
        obtain ⟨L, hL⟩ : ∃ L, L = s.length := ⟨_, rfl⟩
        rw [← hL] at HV HE h2 h3 hl ⊢
        have i1 : IntKind.i64.wrap (2147483647 - (L : Int)) = 2147483647 - (L : Int) := wrapOk (by omega) (by omega)
        have z1 : ((L : Int) == (L : Int)) = true := zeq rfl
        rw [HE.out]
        generalize Hu.valS s = q at HV HE ⊢
        clear hL HE
        go_enter Tryz.func53, Tryz.ntmps53
        go_wp2_with fail
        refine HV.out.mono ?_
        rintro e w2 ⟨rfl, h2⟩
        rw [h2]
        clear h2
        go_wp2_with fail
        go_ret
        exact ⟨rfl, rfl⟩
      · have HE := hid (side_no3 (s := s) h3)
        obtain ⟨L, hL⟩ : ∃ L, L = s.length := ⟨_, rfl⟩
        rw [← hL] at HE h2 h3 hl ⊢
        have i1 : IntKind.i64.wrap (2147483647 - (L : Int)) = 2147483647 - (L : Int) := wrapOk (by omega) (by omega)
        have z1 : ((L : Int) == (L : Int)) = true := zeq rfl
        rw [HE.out]
        clear hL HV
        go_enter Tryz.func53, Tryz.ntmps53
        go_wp2_with fail
        go_ret
        exact ⟨rfl, rfl⟩
    · have HE := hid (side_no2 (s := s) h2)
      obtain ⟨L, hL⟩ : ∃ L, L = s.length := ⟨_, rfl⟩
      rw [← hL] at HE h2 hl ⊢
      have z1 : ((L : Int) == (L : Int)) = true := zeq rfl
      rw [HE.out]
      clear hL HV
      go_enter Tryz.func53, Tryz.ntmps53
      go_wp2_with fail
      go_ret
      exact ⟨rfl, rfl⟩
  · have HE := hid (side_no1 (at' := at') h1)
    obtain ⟨L, hL⟩ : ∃ L, L = s.length := ⟨_, rfl⟩
    rw [← hL] at h1 hl ⊢
    have z1 : (n == (L : Int)) = false := zne h1
    rw [HE.out]
    clear hL HV h1
    go_enter Tryz.func53, Tryz.ntmps53
    go_wp2_with fail
    go_ret
    exact ⟨rfl, rfl⟩

theorem index_contains (l : List UInt8) (c : UInt8) : decide (0 ≤ Lib.indexByte l c) = l.contains c := by
  rcases Pl.parts l c with h | ⟨p, q, rfl, hp⟩
  · rw [Pl.index_miss l c h]
    simp [h]
  · rw [Pl.index_hit p q c hp]
    simp
set_option maxHeartbeats 2000000 in
set_option maxRecDepth 100000 in
theorem isHead_any (s : ByteArray) (w : World) (hs : s.size ≤ maxLen) :
    Calls Tryz.prog 54 #[.string s] w fun e w' => e = .returned (.bool (Hu.headOk s)) ∧ w' = w := by
  unfold maxLen at hs
  have HC := hid (Tryz.strings_Contains_one s 10 w)
  rw [index_contains] at HC
  by_cases h : s.size ≤ 4096
  · have HE : Hid (Hu.headOk s = !s.data.toList.contains 10) := hid (by unfold Hu.headOk; rw [decide_eq_true h]; rfl)
    rw [HE.out]
    generalize s.data.toList.contains 10 = q at HC ⊢
    have i1 : (s.size : Int) ≤ 4096 := by omega
    clear HE
    go_enter Tryz.func54, Tryz.ntmps54
    go_wp2_with fail
    refine HC.out.mono ?_
    rintro e w2 ⟨rfl, h2⟩
    rw [h2]
    clear h2
    go_wp2_with fail
    go_ret
    exact ⟨rfl, rfl⟩
  · have HE : Hid (Hu.headOk s = false) := hid (by unfold Hu.headOk; rw [decide_eq_false h]; rfl)
    rw [HE.out]
    have i1 : ¬ (s.size : Int) ≤ 4096 := by omega
    clear HE
    go_enter Tryz.func54, Tryz.ntmps54
    go_wp2_with fail
    go_ret
    exact ⟨rfl, rfl⟩

theorem olds_mem {l : List Rw} {x : ByteArray} (h : x ∈ Hu.olds l) : ∃ r ∈ l, r.t = x := by
  unfold Hu.olds at h
  obtain ⟨r, hr, e⟩ := List.mem_map.1 h
  exact ⟨r, (List.mem_filter.1 hr).1, e⟩
theorem fres_mem {l : List Rw} {x : ByteArray} (h : x ∈ Hu.fres l) : ∃ r ∈ l, r.t = x := by
  unfold Hu.fres at h
  obtain ⟨r, hr, e⟩ := List.mem_map.1 h
  exact ⟨r, (List.mem_filter.1 hr).1, e⟩
/-- sizes of a hunk's texts, how many rows -/
def SzH (h : Hk) : Prop := h.rows.length < 5864062014800 ∧ (∀ r ∈ h.rows, r.t.size ≤ maxLen) ∧ h.head.size ≤ maxLen
def vldN (h : Hk) : Nat := if Hu.vld h then 0 else 100
set_option maxHeartbeats 4000000 in
set_option maxRecDepth 100000 in
theorem hvalid_any {w : World} {h : Hk} {v : Value} (hv : RdW w v h.rows) (hz : SzH h) :
    Calls Tryz.prog 27 #[HkV h v] w fun e w' => e = .returned (errV (vldN h)) ∧ Below w.heap.size w w' := by
  obtain ⟨hl, hs, hh⟩ := hz
  have HSD := hid (fun w1 (hb : Below w.heap.size w w1) => sides_any (h := h) (hv.below hb) hl)
  have HAR := hid (fun w1 (hb : Below w.heap.size w w1) => areRows_any (hv.below hb) (by omega))
  have hol : (Hu.olds h.rows).length < 8796093022200 := by have := Hu.olds_len h.rows; omega
  have hfl : (Hu.fres h.rows).length < 8796093022200 := by have := Hu.fres_len h.rows; omega
  have HSO := hid (fun w1 v1 (hr : RdT w1 v1 (Hu.olds h.rows)) => isSide_any (at' := h.a) (n := h.n) hr hol (fun x hx => by obtain ⟨r, hr, e⟩ := olds_mem hx; rw [← e]; exact hs r hr))
  have HSF := hid (fun w1 v1 (hr : RdT w1 v1 (Hu.fres h.rows)) => isSide_any (at' := h.b) (n := h.m) hr hfl (fun x hx => by obtain ⟨r, hr, e⟩ := fres_mem hx; rw [← e]; exact hs r hr))
  have HHD := hid (fun w1 => isHead_any h.head w1 hh)
  have HE : Hid (vldN h = if (Hu.areR h.rows && (Hu.side h.a h.n (Hu.olds h.rows) && (Hu.side h.b h.m (Hu.fres h.rows) && Hu.headOk h.head))) then 0 else 100) := hid rfl
  rw [HE.out]
  have HV := hid hv
  obtain ⟨av, cv, rfl⟩ := hv.shape
  obtain ⟨ha, hn', hb', hm', hh', l⟩ := h
  dsimp only at HV hl HSD HAR hol hfl HSO HSF HHD ⊢
  unfold HkV at HSD ⊢
  dsimp only at HSD ⊢
  obtain ⟨n, hn⟩ : ∃ n, n = l.length := ⟨_, rfl⟩
  rw [← hn] at HV HSD HAR hl ⊢
  generalize Hu.areR l = q1 at HAR ⊢
  generalize Hu.side ha hn' (Hu.olds l) = q2 at HSO ⊢
  generalize Hu.side hb' hm' (Hu.fres l) = q3 at HSF ⊢
  generalize Hu.headOk hh' = q4 at HHD ⊢
  clear hv hn HE hs hh
  have hb0 := (Below.refl w.heap.size w).alloc (Nat.le_refl _) (.cells #[.int .i64 ha, .int .i64 hn', .int .i64 hb', .int .i64 hm', .string hh', .slice av n cv] 37)
  have hk0 := heap_alloc_new w (.cells #[.int .i64 ha, .int .i64 hn', .int .i64 hb', .int .i64 hm', .string hh', .slice av n cv] 37)
  go_enter Tryz.func27, Tryz.ntmps27
  go_wp2_with fail
  generalize w.alloc (.cells #[.int .i64 ha, .int .i64 hn', .int .i64 hb', .int .i64 hm', .string hh', .slice av n cv] 37) = w0 at hb0 hk0 ⊢
  refine (HSD.out w0 hb0).mono ?_
  rintro e w1 ⟨v1, v2, rfl, hT, hb1⟩
  obtain ⟨a1, c1, rfl⟩ := own_shape hT.1
  obtain ⟨a2, c2, rfl⟩ := own_shape hT.2.1
  have HO := hid (own_rd hT.1)
  have HF := hid (own_rd hT.2.1)
  have HB1 := hid (hb0.trans (hb1.mono hb0.size))
  have hk1 := (hb1.block w.heap.size (lt_of_heap hk0)).trans hk0
  have c5 : w1.cell? ⟨w.heap.size, 5, none⟩ = some (.slice av n cv) := cell_of_blk hk1 5
  clear hb0 hb1 hT hk0
  go_wp2_with fail
  refine (HAR.out w1 HB1.out).mono ?_
  rintro e w2 ⟨rfl, hb2⟩
  have HB2 := hid (HB1.out.trans (hb2.mono HB1.out.size))
  have hk2 := (hb2.block w.heap.size (lt_of_heap hk1)).trans hk1
  have d0 : w2.cell? ⟨w.heap.size, 0, none⟩ = some (.int .i64 ha) := cell_of_blk hk2 0
  have d1 : w2.cell? ⟨w.heap.size, 1, none⟩ = some (.int .i64 hn') := cell_of_blk hk2 1
  have d2 : w2.cell? ⟨w.heap.size, 2, none⟩ = some (.int .i64 hb') := cell_of_blk hk2 2
  have d3 : w2.cell? ⟨w.heap.size, 3, none⟩ = some (.int .i64 hm') := cell_of_blk hk2 3
  have d4 : w2.cell? ⟨w.heap.size, 4, none⟩ = some (.string hh') := cell_of_blk hk2 4
  have HO2 := hid (HO.out.below hb2)
  have HF2 := hid (HF.out.below hb2)
  clear hb2 hk2 hk1 c5
  cases q1 with
  | false =>
    go_wp2_with fail
    go_ret
    exact ⟨rfl, HB2.out⟩
  | true =>
    go_wp2_with fail
    refine (HSO.out _ _ HO2.out).mono ?_
    rintro e w3 ⟨rfl, h3⟩
    rw [h3]
    clear h3 w3
    cases q2 with
    | false =>
      go_wp2_with fail
      go_ret
      exact ⟨rfl, HB2.out⟩
    | true =>
      go_wp2_with fail
      refine (HSF.out _ _ HF2.out).mono ?_
      rintro e w3 ⟨rfl, h3⟩
      rw [h3]
      clear h3 w3
      cases q3 with
      | false =>
        go_wp2_with fail
        go_ret
        exact ⟨rfl, HB2.out⟩
      | true =>
        go_wp2_with fail
        refine (HHD.out _).mono ?_
        rintro e w3 ⟨rfl, h3⟩
        rw [h3]
        clear h3 w3
        cases q4 with
        | false =>
          go_wp2_with fail
          go_ret
          exact ⟨rfl, HB2.out⟩
        | true =>
          go_wp2_with fail
          go_ret
          exact ⟨rfl, HB2.out⟩
end Go.Proofs.YtkolgglllladfaaGreatDoor
/-
  A region that draws its order and whose last operations alone write: walked once, in the order of the text.
-/
namespace Go.Proofs.YtkolgglllladfaaGreatDoor
open Go.RowKit

theorem still_of_quiet {P : Program} {ops : Array Oper} {w1 : World} {Q : Act → Prop} : ∀ (l : List Oper) (a : Act), wpQuiet P ops (fun w' => w' = w1) Q l a → wpStill P ops w1 Q l a
  | [], _, h => h
  | o :: rest, a, h => by
    unfold wpQuiet at h
    unfold wpStill
    split
    · next hw =>
      rw [if_pos hw] at h
      obtain ⟨v, h1, h2⟩ := h
      have h3 := h1 w1 rfl
      have h4 := still_of_quiet rest _ h2
      unfold Oper.quietAt at h3
      unfold Oper.still
      generalize (execOp a.eval o).run P w1 = r at h3 ⊢
      unfold Oper.quietUpon at h3
      unfold Oper.stillUpon
      split at h3
      · obtain ⟨e1, e2⟩ := h3
        subst e2
        exact ⟨e1, h4⟩
      · obtain ⟨e1, e2⟩ := h3
        subst e2
        exact ⟨e1, h4⟩
      · obtain ⟨e1, e2⟩ := h3
        exact ⟨e1, v, e2, h4⟩
      · exact h3.elim
    · next hw =>
      rw [if_neg hw] at h
      exact still_of_quiet rest _ h
theorem wp_region_qtail {P : Program} {id : Nat} {Q : Exit → Act → World → Prop} {a : Act} {w : World} {l : List Oper} (n : Nat) (hm : P.follows .mixedOrders = true) (hB : Region.lexTailB .any l.toArray n = true)
    (h : wpQuiet P l.toArray (fun w' => w' = w.drewN 1) (fun a' => wpList P l.toArray Q (l.drop n) a' (w.drewN 1)) (l.take n) a) : (Code.region id l.toArray true).wp P Q a w :=
  wp_region_still_tail n hm hB (still_of_quiet _ _ h)
end Go.Proofs.YtkolgglllladfaaGreatDoor
