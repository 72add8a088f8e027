/-
  The walk of Reverse.
-/
import Derived.Test.YtnamioihapnefaaGreatDoorUk
import Derived.Laws.Tables
namespace Go.Proofs.YtnamioihapnefaaGreatDoor
open Go.RowKit
open Hu (Rw Hk)

theorem setRow_belowH {B : Nat} {w W : World} (hb : Below B w W) {g : Nat} (hg : B ≤ g) (cs : Array Value) : Below B w (W.setRow g cs) :=
  ⟨hb.os, hb.tape, hb.output, by have := hb.size; unfold World.setRow; simpa using this, fun k hk => (setRow_other W cs (by omega : k ≠ g)).trans (hb.block k hk)⟩
theorem Tryz.sizeHunk : (Tryz.prog.info? 29).map (·.size) = some 6 := by kernel_rfl
/-- a whole hunk written -/
theorem wpList_stH {ops : Array Oper} {rest : List Oper} {o : Oper} {a : Act} {W : World} {Q : Exit → Act → World → Prop} {x y : Operand} (ho : o.op = .store 29 x y) (hgd : o.guard = none) {g : Nat} {old : Array Value} (hg : W.heap[g]? = some (.cells old 29)) (hs : old.size = 6) (h : Hk) (u : Value) (hu : u.oneCell' = true) (hx : a.eval x = .pointer (some ⟨g, 0, none⟩)) (hy : a.eval y = .agg #[.int .i64 h.a, .int .i64 h.n, .int .i64 h.b, .int .i64 h.m, .string h.head, u])
    (hh : ∀ W', W'.heap[g]? = some (.cells #[.int .i64 h.a, .int .i64 h.n, .int .i64 h.b, .int .i64 h.m, .string h.head, u] 29) → (∀ j, j ≠ g → W'.heap[j]? = W.heap[j]?) → (∀ B w0, Below B w0 W → B ≤ g → Below B w0 W') → wpList Tryz.prog ops Q rest (a.put o.dst undef) W') : wpList Tryz.prog ops Q (o :: rest) a W :=
  wpList_plain hgd fun _ hK => by
    unfold Oper.wp execOp
    have hall : (#[.int .i64 h.a, .int .i64 h.n, .int .i64 h.b, .int .i64 h.m, .string h.head, u] : Array Value).all (·.oneCell') = true := by
      rw [Array.all_eq_true_iff_forall_mem]
      intro q hq
      simp at hq
      rcases hq with rfl | rfl | rfl | rfl | rfl | rfl <;> first | rfl | exact hu
    have hst : (Instr.storeAt 29 (.pointer (some ⟨g, 0, none⟩)) (.agg #[.int .i64 h.a, .int .i64 h.n, .int .i64 h.b, .int .i64 h.m, .string h.head, u])).run Tryz.prog W = .ok () (W.setRow g #[.int .i64 h.a, .int .i64 h.n, .int .i64 h.b, .int .i64 h.m, .string h.head, u]) := by
      simp only [Instr.storeAt, Instr.sureAddr, Sem.run_bind, Sem.run_pure, Result.andThen_ok, run_storeVar_row W g _ _ _ #[.int .i64 h.a, .int .i64 h.n, .int .i64 h.b, .int .i64 h.m, .string h.head, u] hg (by rw [Tryz.sizeHunk]; rfl) hs hall]
    simp only [ho, hx, hy, Sem.run_bind, hst, Result.andThen_ok]
    exact hK _ _ (hh _ (setRow_heap W g _ _ _ hg) (fun j hj => setRow_other W _ hj) (fun B w0 hb hB => setRow_belowH hb hB _))
theorem win_kind {w : World} {b k : Nat} {C : List Value} {P R : List Rw} {x : Rw} {kk : Int} (h : Win w b [] (P ++ x :: R) C) (hk : P.length = k) : Win (w.setCell ⟨b, k * 2, none⟩ (.int .i64 kk)) b [] (P ++ ⟨kk, x.t⟩ :: R) C := by
  obtain ⟨cur, h1, h2⟩ := h
  refine ⟨_, set_heap w b (k * 2) _ _ _ h1, ?_⟩
  have hl : (rwsC P).length = k * 2 := by rw [rwsC_length, hk]
  have e0 : rwsC (P ++ x :: R) = rwsC P ++ (.int .i64 x.k :: .string x.t :: rwsC R) := by rw [rwsC_append]; rfl
  have e1 : rwsC (P ++ ⟨kk, x.t⟩ :: R) = rwsC P ++ (.int .i64 kk :: .string x.t :: rwsC R) := by rw [rwsC_append]; rfl
  rw [Array.toList_setIfInBounds, h2, e0, e1, List.nil_append, List.nil_append, List.append_assoc, List.append_assoc, List.set_append_right _ _ (by omega), show k * 2 - (rwsC P).length = 0 by omega]
  rfl
theorem own_some {w : World} {B : Nat} {v : Value} {l : List Rw} (h : OwnW w B v l) (hne : l ≠ []) : ∃ b cap, v = .slice (some ⟨b, 0, none⟩) l.length cap := by
  rcases h.2 with ⟨_, h0⟩ | ⟨g, cap, cur, hv, _⟩
  · exact absurd (List.length_eq_zero_iff.1 h0) hne
  · exact ⟨g, cap, hv⟩
theorem flp_len (l : List Rw) : (l.map Hu.flp).length = l.length := List.length_map _
theorem flp_at {l : List Rw} {k : Nat} (hk : k ≤ l.length) : ((l.take k).map Hu.flp ++ l.drop k)[k]? = l[k]? := by
  rw [List.getElem?_append_right (by rw [List.length_map, List.length_take]; omega), List.length_map, List.length_take, List.getElem?_drop]
  congr 1
  omega
theorem flp_more {l : List Rw} {k : Nat} {x : Rw} (hx : l[k]? = some x) : (l.take (k + 1)).map Hu.flp ++ l.drop (k + 1) = (l.take k).map Hu.flp ++ Hu.flp x :: l.drop (k + 1) := by
  rw [List.take_add_one, hx]
  simp
set_option maxHeartbeats 2000000 in
set_option maxRecDepth 100000 in
theorem reverse_some {w : World} {h : Hk} {v : Value} (hv : RdW w v h.rows) (hne : h.rows ≠ []) (hl : h.rows.length < 5864062014800) :
    Calls Tryz.prog 28 #[HkV h v] w fun e w' => ∃ v', e = .returned (HkV (Hu.revH h) v') ∧ OwnW w' w.heap.size v' (Hu.revH h).rows ∧ Below w.heap.size w w' := by
  have HCL := hid (fun w1 (hb : Below w.heap.size w w1) => clone_any (hv.below hb) hne hl)
  obtain ⟨av, cv, rfl⟩ := hv.shape
  obtain ⟨xa, xn, xb, xm, xh, xr⟩ := h
  dsimp only at HCL hne hl ⊢
  unfold HkV Hu.revH
  dsimp only
  have HNE := hid hne
  obtain ⟨n, hn⟩ : ∃ n, n = xr.length := ⟨_, rfl⟩
  have HN := hid hn
  have hn0 : 0 < n := by rw [hn]; exact List.length_pos_iff.2 hne
  rw [← hn] at HCL hl ⊢
  have hz0 : (ByteArray.empty : ByteArray) = ⟨#[]⟩ := rfl
  obtain ⟨t1, t2, t3, t4⟩ := two' w (.cells #[.int .i64 xa, .int .i64 xn, .int .i64 xb, .int .i64 xm, .string xh, .slice av n cv] 29) (.cells #[.int .i64 0, .int .i64 0, .int .i64 0, .int .i64 0, .string ⟨#[]⟩, .slice none 0 0] 29)
  clear hv hn hne hz0
  go_enter Tryz.func28, Tryz.ntmps28
  go_wp2_with fail
  obtain ⟨H, hH⟩ : ∃ H, H = w.heap.size := ⟨_, rfl⟩
  have HH := hid hH
  rw [← hH] at t2 t3 t4 ⊢
  generalize (w.alloc (.cells #[.int .i64 xa, .int .i64 xn, .int .i64 xb, .int .i64 xm, .string xh, .slice av n cv] 29)).alloc (.cells #[.int .i64 0, .int .i64 0, .int .i64 0, .int .i64 0, .string ⟨#[]⟩, .slice none 0 0] 29) = w1 at t1 t2 t3 t4 ⊢
  refine (HCL.out w1 t1).mono ?_
  rintro e w2 ⟨v2, rfl, hO2, hb2⟩
  obtain ⟨b, cap, ev⟩ := own_some hO2 HNE.out
  rw [← HN.out] at ev
  subst ev
  obtain ⟨C, hW2, hC1, hC2, hC3, hC4, hC5⟩ := own_win hO2
  have HB2 := hid (t1.trans (hb2.mono t1.size))
  have HK2 := hid ((hb2.block H (lt_of_heap t2)).trans t2)
  have HZ2 := hid ((hb2.block (H + 1) (lt_of_heap t3)).trans t3)
  have hbH : H + 2 ≤ b := by omega
  have hbA := (Below.refl w2.heap.size w2).alloc (Nat.le_refl _) (.cells #[.slice (some ⟨b, 0, none⟩) n cap] 27)
  have hkA := heap_alloc_new w2 (.cells #[.slice (some ⟨b, 0, none⟩) n cap] 27)
  have HW2 := hid hW2
  clear t1 t2 t3 t4 hO2 hb2 hW2 hC4 hC5 hH
  go_wp2_with fail
  obtain ⟨A, hA⟩ : ∃ A, A = w2.heap.size := ⟨_, rfl⟩
  have HB3 := hid (HB2.out.trans (hbA.mono HB2.out.size))
  have HK3 := hid ((hbA.block H (lt_of_heap HK2.out)).trans HK2.out)
  have HZ3 := hid ((hbA.block (H + 1) (lt_of_heap HZ2.out)).trans HZ2.out)
  have HW3 := hid (HW2.out.keep (hbA.block b HW2.out.lt))
  have HA3 := hid hkA
  have nAb : A ≠ b := by have := HW2.out.lt; omega
  rw [← hA] at HA3 ⊢
  generalize w2.alloc (.cells #[.slice (some ⟨b, 0, none⟩) n cap] 27) = w3 at HB3 HK3 HZ3 HW3 HA3 ⊢
  clear hbA hkA HB2 HK2 HZ2 HW2 hA
  have a0 : w3.cell? ⟨A, 0, none⟩ = some (.slice (some ⟨b, 0, none⟩) n cap) := cell_of_blk HA3.out 0
  go_wp2_with fail
  clear a0
  go_loopw [11] (fun ii wr => ∃ (k : Nat), k ≤ n ∧ ii = .int .i64 k ∧ Hid (Win wr b [] ((xr.take k).map Hu.flp ++ xr.drop k) C) ∧ Hid (wr.heap[A]? = some (.cells #[.slice (some ⟨b, 0, none⟩) n cap] 27)) ∧ Hid (wr.heap[H]? = some (.cells #[.int .i64 xa, .int .i64 xn, .int .i64 xb, .int .i64 xm, .string xh, .slice av n cv] 29)) ∧ Hid (wr.heap[H + 1]? = some (.cells #[.int .i64 0, .int .i64 0, .int .i64 0, .int .i64 0, .string ⟨#[]⟩, .slice none 0 0] 29)) ∧ Hid (Below w.heap.size w wr)) (fun ii _ => n - (intOf ii).toNat)
  case atStart => exact ⟨0, Nat.zero_le _, rfl, HW3, HA3, HK3, HZ3, HB3⟩
  case round =>
    obtain ⟨k, hk, rfl, HW, HA, HK, HZ, HB⟩ := hrel
    by_cases hlt : k < n
    · obtain ⟨x, hx⟩ : ∃ x, xr[k]? = some x := ⟨_, List.getElem?_eq_getElem (by have := HN.out; omega)⟩
      obtain ⟨d0, d1⟩ := HW.out.at ((flp_at (by have := HN.out; omega)).trans hx)
      rw [List.length_nil, Nat.zero_add] at d0 d1
      have HX := hid hx
      have HPL : Hid (((xr.take k).map Hu.flp).length = k) := hid (by rw [List.length_map, List.length_take]; have := HN.out; omega)
      have HD : Hid (xr.drop k = x :: xr.drop (k + 1)) := hid (dropW hx)
      have i1 : (0 : Int) ≤ (k : Int) := by omega
      have i2 : (k : Int) < (n : Int) := by omega
      have hbG := (Below.refl wr.heap.size wr).alloc (Nat.le_refl _) (.cells #[.int .i64 x.k, .string x.t] 63)
      have HB4 := hid (HB.out.trans (hbG.mono HB.out.size))
      have HA4 := hid ((hbG.block A (lt_of_heap HA.out)).trans HA.out)
      have HK4 := hid ((hbG.block H (lt_of_heap HK.out)).trans HK.out)
      have HZ4 := hid ((hbG.block (H + 1) (lt_of_heap HZ.out)).trans HZ.out)
      have HW4 := hid (HW.out.keep (hbG.block b HW.out.lt))
      rw [HD.out] at HW4
      have HFM := hid (flp_more hx)
      have a0 : (wr.alloc (.cells #[.int .i64 x.k, .string x.t] 63)).cell? ⟨A, 0, none⟩ = some (.slice (some ⟨b, 0, none⟩) n cap) := cell_of_blk HA4.out 0
      obtain ⟨cur, hcu, hcl⟩ := HW4.out
      have bf : ∀ j, (wr.alloc (.cells #[.int .i64 x.k, .string x.t] 63)).frozen? ⟨b, j, none⟩ = false := fun j => frozen_of_blk hcu j
      have b0 : (wr.alloc (.cells #[.int .i64 x.k, .string x.t] 63)).cell? ⟨b, k * 2, none⟩ = some (.int .i64 x.k) := by
        have := (HW4.out.at (k := k) (x := x) (by rw [List.getElem?_append_right (by rw [HPL.out]; exact Nat.le_refl _), HPL.out, Nat.sub_self]; rfl)).1
        rw [List.length_nil, Nat.zero_add] at this
        exact this
      have nHb : H ≠ b := by omega
      have nZb : H + 1 ≠ b := by omega
      clear hx hbG hcu hcl HW HA HK HZ HB
      by_cases h2 : x.k = 2
      · have z1 : (x.k == 2) = true := by rw [h2]; rfl
        have HW5 : Hid (Win ((wr.alloc (.cells #[.int .i64 x.k, .string x.t] 63)).setCell ⟨b, k * 2, none⟩ (.int .i64 3)) b [] ((xr.take (k + 1)).map Hu.flp ++ xr.drop (k + 1)) C) := hid (by
          rw [HFM.out]
          have e : Hu.flp x = ⟨3, x.t⟩ := by unfold Hu.flp; rw [if_pos h2]
          rw [e]
          exact win_kind HW4.out HPL.out)
        clear h2
        go_wp2_with fail
        go_roundw
        case rel => exact ⟨k + 1, by omega, by go_num, HW5, hid ((set_other _ nAb).trans HA4.out), hid ((set_other _ nHb).trans HK4.out), hid ((set_other _ nZb).trans HZ4.out), hid (below_set HB4.out (by have := HH.out; omega))⟩
        case measure => simp [intOf]; omega
      · have z1 : (x.k == 2) = false := by simp [h2]
        by_cases h3 : x.k = 3
        · have z2 : (x.k == 3) = true := by rw [h3]; rfl
          have HW5 : Hid (Win ((wr.alloc (.cells #[.int .i64 x.k, .string x.t] 63)).setCell ⟨b, k * 2, none⟩ (.int .i64 2)) b [] ((xr.take (k + 1)).map Hu.flp ++ xr.drop (k + 1)) C) := hid (by
            rw [HFM.out]
            have e : Hu.flp x = ⟨2, x.t⟩ := by unfold Hu.flp; rw [if_neg h2, if_pos h3]
            rw [e]
            exact win_kind HW4.out HPL.out)
          clear h2 h3
          go_wp2_with fail
          go_roundw
          case rel => exact ⟨k + 1, by omega, by go_num, HW5, hid ((set_other _ nAb).trans HA4.out), hid ((set_other _ nHb).trans HK4.out), hid ((set_other _ nZb).trans HZ4.out), hid (below_set HB4.out (by have := HH.out; omega))⟩
          case measure => simp [intOf]; omega
        · have z2 : (x.k == 3) = false := by simp [h3]
          have HW5 : Hid (Win (wr.alloc (.cells #[.int .i64 x.k, .string x.t] 63)) b [] ((xr.take (k + 1)).map Hu.flp ++ xr.drop (k + 1)) C) := hid (by
            rw [HFM.out]
            have e : Hu.flp x = x := by unfold Hu.flp; rw [if_neg h2, if_neg h3]
            rw [e]
            exact HW4.out)
          clear h2 h3
          go_wp2_with fail
          go_roundw
          case rel => exact ⟨k + 1, by omega, by go_num, HW5, HA4, HK4, HZ4, HB4⟩
          case measure => simp [intOf]; omega
    · obtain rfl : k = n := by omega
      obtain ⟨L, hL⟩ : ∃ L, L = xr.map Hu.flp := ⟨_, rfl⟩
      have HWL : Hid (Win wr b [] L C) := hid (by
        have h1 := HW.out
        rw [List.take_of_length_le (by have := HN.out; omega), List.drop_of_length_le (by have := HN.out; omega), List.append_nil] at h1
        rw [hL]
        exact h1)
      have HLL : Hid (k = L.length) := hid (by rw [hL, flp_len]; exact HN.out)
      have hbw : b < wr.heap.size := HWL.out.lt
      have HTK := hid (rv_takes (w6 := wr) (l := L) (n := k) (cap := cap) (b := b) (rb := A) (B := b) (C := C) HLL.out hl hC2 (Nat.le_refl _) (lt_of_heap HA.out))
      have hch := runs_chn L 0 0 (Nat.le_refl _)
      rw [Nat.zero_add] at hch
      have HER := hid (hEachRun_in (w := wr) (a := some ⟨b, 0, none⟩) (c := cap) (l := L) (B := b) (I := RvI L k cap b A C) (fun d X w1 i x hI hr he hx => by
        obtain ⟨rest, hrs⟩ := hr
        have h1 : (d.foldl Hu.upd L)[i]? = some x := (Hu.fold_far (N := L.length) d L rfl (fun q hq => by have := chn_in hch q (by rw [hrs]; simp [hq]); omega) he).trans hx
        have h2 := hI.win.at h1
        rw [List.length_nil] at h2
        exact ⟨b, 0, rfl, h2.1, h2.2⟩) (Nat.le_of_lt hbw) (by have := HLL.out; omega) HTK.out (X0 := fun g => g = b) ⟨fun g => Iff.rfl, HA.out, HWL.out⟩ (fun g hg => by rw [hg]; exact hbw))
      rw [← HLL.out] at HER
      have HSD : Hid ((Hu.runsR L 0 0).foldl Hu.upd L = Hu.srtD (xr.map Hu.flp) []) := hid (by rw [Hu.fold_all, hL])
      have a0 : wr.cell? ⟨A, 0, none⟩ = some (.slice (some ⟨b, 0, none⟩) k cap) := cell_of_blk HA.out 0
      clear hL hch HTK
      go_wp2_with fail
      refine HER.out.mono ?_
      rintro e w5 ⟨rfl, hb5, X5, hI5⟩
      obtain ⟨_, j1, j2⟩ := hI5
      rw [HSD.out] at j2
      have HLN : Hid (k = (Hu.srtD (xr.map Hu.flp) []).length) := hid (by rw [Hu.srtD_len, flp_len]; exact HN.out)
      have HO5 : Hid (OwnW w5 w.heap.size (.slice (some ⟨b, 0, none⟩) k cap) (Hu.srtD (xr.map Hu.flp) [])) := hid (win_own j2 hC1 hC2 hC3 (by have := HH.out; omega) HLN.out)
      have HK5 := hid ((hb5.block H (by omega)).trans HK.out)
      have HZ5 := hid ((hb5.block (H + 1) (by omega)).trans HZ.out)
      have HB5 := hid (HB.out.trans (hb5.mono (by have := HH.out; omega)))
      have y0 : w5.cell? ⟨A, 0, none⟩ = some (.slice (some ⟨b, 0, none⟩) k cap) := cell_of_blk j1 0
      have q0 : w5.cell? ⟨H, 0, none⟩ = some (.int .i64 xa) := cell_of_blk HK5.out 0
      have q1 : w5.cell? ⟨H, 1, none⟩ = some (.int .i64 xn) := cell_of_blk HK5.out 1
      have q2 : w5.cell? ⟨H, 2, none⟩ = some (.int .i64 xb) := cell_of_blk HK5.out 2
      have q3 : w5.cell? ⟨H, 3, none⟩ = some (.int .i64 xm) := cell_of_blk HK5.out 3
      have q4 : w5.cell? ⟨H, 4, none⟩ = some (.string xh) := cell_of_blk HK5.out 4
      have nbZ : b ≠ H + 1 := by omega
      have hHw : w.heap.size ≤ H + 1 := by have := HH.out; omega
      clear j1 j2 hb5 a0
      go_wp2_with (guard_target =~ wpList _ _ _ (_ :: _) _ _; refine wpList_stH rfl rfl HZ5.out rfl ⟨xb, xm, xa, xn, xh, []⟩ (.slice (some ⟨b, 0, none⟩) k cap) rfl rfl rfl ?_; intro w8 hk8 ho8 hb8; have y0 : w8.cell? ⟨H + 1, 0, none⟩ = some (.int .i64 xb) := cell_of_blk hk8 0; have y1 : w8.cell? ⟨H + 1, 1, none⟩ = some (.int .i64 xm) := cell_of_blk hk8 1; have y2 : w8.cell? ⟨H + 1, 2, none⟩ = some (.int .i64 xa) := cell_of_blk hk8 2; have y3 : w8.cell? ⟨H + 1, 3, none⟩ = some (.int .i64 xn) := cell_of_blk hk8 3; have y4 : w8.cell? ⟨H + 1, 4, none⟩ = some (.string xh) := cell_of_blk hk8 4; have y5 : w8.cell? ⟨H + 1, 5, none⟩ = some (.slice (some ⟨b, 0, none⟩) k cap) := cell_of_blk hk8 5; have HB8 := hid (hb8 _ _ HB5.out hHw); have HO8 := hid (own_far HO5.out (fun i hi => ho8 i (fun e => nbZ ((Option.some.inj hi).trans e)))); clear hk8 ho8 hb8)
      exact bodyPost_ret (v := .agg #[.int .i64 xb, .int .i64 xm, .int .i64 xa, .int .i64 xn, .string xh, .slice (some ⟨b, 0, none⟩) k cap]) (by simp [results, Tryz.results28, go_sem, y0, y1, y2, y3, y4, y5]) rfl ⟨_, rfl, HO8.out, HB8.out⟩
end Go.Proofs.YtnamioihapnefaaGreatDoor
