/-
  The walk of the document's Of.
-/
import Derived.Test.YthnibchlgcgalaaGreatDoorBf
namespace Go.Proofs.YthnibchlgcgalaaGreatDoor.Sx
open Go.RowKit
open Hu (Rw Hk)

abbrev ctR (n : ByteArray) (a d : Int) : Obj := .cells #[.string n, .int .i64 a, .int .i64 d] 29
theorem ctr_size : (Tryz.prog.info? 29).map (·.size) = some 3 := by kernel_rfl
theorem results_ctR {fn : Func} {t u : Nat} {tmps : Array Value} {W : World} {g : Nat} {cs : Array Value} (h : fn.results = #[.cell t 29, .tmp u]) (hx : tmps.getD t undef = .pointer (some ⟨g, 0, none⟩)) (hg : W.heap[g]? = some (.cells cs 29)) (hs : cs.size = 3) :
    (results fn tmps).run Tryz.prog W = .ok (.tuple #[.agg cs, tmps.getD u undef]) W := by
  have hl : (loadVar 29 ⟨g, 0, none⟩).run Tryz.prog W = .ok (.agg cs) W := run_loadVar_row W g _ _ _ _ _ hg Tryz.underlying29 rfl (by rw [ctr_size, hs])
  have hx' : tmps[t]?.getD undef = .pointer (some ⟨g, 0, none⟩) := by rw [← Array.getD_eq_getD_getElem?]; exact hx
  simp [results, h, hx', hl, asAddr]
structure WrQ (w wr : World) (G : Nat) (nm : ByteArray) (a d : Int) : Prop where
  r : wr.heap[G]? = some (ctR ⟨#[]⟩ 0 0)
  c : wr.heap[G + 1]? = some (ctR nm a d)
  b : Below G w wr
theorem WrQ.later {w wr w2 : World} {G : Nat} {nm : ByteArray} {a d : Int} (h : WrQ w wr G nm a d) (hb : Below wr.heap.size wr w2) : WrQ w w2 G nm a d :=
  ⟨(hb.block _ (lt_of_heap h.r)).trans h.r, (hb.block _ (lt_of_heap h.c)).trans h.c, h.b.trans (hb.mono (Nat.le_of_lt (lt_of_heap h.r)))⟩
theorem WrQ.set1 {w wr : World} {G : Nat} {nm : ByteArray} {a d : Int} (h : WrQ w wr G nm a d) (x : Int) : WrQ w (wr.setCell ⟨G + 1, 1, none⟩ (.int .i64 x)) G nm x d :=
  ⟨(set_otherK wr (by omega)).trans h.r, set_heapK wr _ 1 _ _ _ h.c, h.b.setCell (Nat.le_succ _) _⟩
theorem WrQ.set2 {w wr : World} {G : Nat} {nm : ByteArray} {a d : Int} (h : WrQ w wr G nm a d) (x : Int) : WrQ w (wr.setCell ⟨G + 1, 2, none⟩ (.int .i64 x)) G nm a x :=
  ⟨(set_otherK wr (by omega)).trans h.r, set_heapK wr _ 2 _ _ _ h.c, h.b.setCell (Nat.le_succ _) _⟩
set_option maxHeartbeats 8000000 in
theorem rOf_any {w : World} {v : Value} {l : List Hk} (nm : ByteArray) (hr : RdH w v l) (hl : l.length ≤ 1048576) (hz : ∀ h ∈ l, SzH h) (ht : tR l ≤ 1048576) :
    Calls Tryz.prog 6 #[.string nm, v] w fun e w' => e = .returned (.tuple #[ofV nm l, .int .i64 (ofN l : Nat)]) ∧ Below w.heap.size w w' := by
  obtain ⟨a, cp, rfl⟩ := hr.shape
  obtain ⟨n, hnn⟩ : ∃ n, n = l.length := ⟨_, rfl⟩
  have HR := hid hr
  have HN := hid hnn
  have HZ := hid hz
  have HT := hid ht
  rw [← hnn] at HR hl ⊢
  have H2 := hid (two_new w (ctR ⟨#[]⟩ 0 0) (ctR nm 0 0))
  obtain ⟨G, hG⟩ : ∃ G, G = w.heap.size := ⟨_, rfl⟩
  have HG := hid hG
  clear hr hnn hz ht
  go_enter Tryz.func6, Tryz.ntmps6
  go_wp2_with fail
  rw [← hG] at H2 ⊢
  clear hG
  generalize (w.alloc (.cells #[.string ⟨#[]⟩, .int .i64 0, .int .i64 0] 29)).alloc (.cells #[.string nm, .int .i64 0, .int .i64 0] 29) = w0 at H2 ⊢
  go_loopw [7] (fun i wr => ∃ k : Nat, k ≤ n ∧ i = .int .i64 k ∧ Hid (allVld (l.take k) = true) ∧ Hid (WrQ w wr G nm 0 0)) (fun i _ => n - (intOf i).toNat)
  case atStart => exact ⟨0, Nat.zero_le _, rfl, hid (by rw [List.take_zero]; rfl), hid ⟨H2.out.2.1, H2.out.2.2, H2.out.1⟩⟩
  case round =>
    obtain ⟨k, hk, rfl, HV, HI⟩ := hrel
    clear H2
    by_cases hlt : k < n
    · obtain ⟨x, hx⟩ : ∃ x, l[k]? = some x := ⟨_, List.getElem?_eq_getElem (by have := HN.out; omega)⟩
      have hbw : Below w.heap.size w wr := by have := HI.out.b; rw [HG.out] at this; exact this
      obtain ⟨b1, o1, u, e1, hb1, d0, d1, d2, d3, d4, d5, hu⟩ := rdH_at (HR.out.below hbw) hx
      subst e1
      have hxl := List.mem_of_getElem? hx
      have HVa := hid (rValid_any hu (HZ.out x hxl))
      unfold HkV at HVa
      have i1 : (0 : Int) ≤ (k : Int) := by omega
      have i2 : (k : Int) < (n : Int) := by omega
      obtain ⟨ua, uc, hus⟩ := hu.shape
      cases ev : Hu.vld x with
      | false =>
        have HE := hid (of_no (nm := nm) (vld_not hx ev))
        have e100 : vldN x = 100 := by unfold vldN; rw [ev]; rfl
        have HEE : Hid (ofV nm l = .agg #[.string ⟨#[]⟩, .int .i64 0, .int .i64 0] ∧ ((ofN l : Nat) : Int) = 100) := hid ⟨HE.out.1, by rw [HE.out.2]; rfl⟩
        rw [e100] at HVa
        subst hus
        clear hx hbw hb1 hu hxl HE e100 ev
        go_wp2_with fail
        refine HVa.out.mono ?_
        rintro e w2 ⟨rfl, hb2⟩
        have HI2 := hid (HI.out.later hb2)
        clear hb2 HVa HI
        go_wp2_with (guard_target =~ wpList _ _ _ (_ :: _) _ _; refine wpList_stK 29 #[.string ⟨#[]⟩, .int .i64 0, .int .i64 0] rfl rfl HI2.out.r ctr_size rfl rfl rfl rfl ?_; intro w3 hk3 hkp3; have HK3 := hid hk3; have HB3 := hid (kept_below HI2.out.b hkp3 (Nat.le_refl _) (lt_of_heap HI2.out.r)); clear hk3 hkp3)
        exact bodyPost_ret (results_ctR Tryz.results6 rfl HK3.out rfl) rfl ⟨by first | (rw [HEE.out.1, HEE.out.2]; done) | (rw [HEE.out.1, HEE.out.2]; rfl), by have := HB3.out; rw [HG.out] at this; exact this⟩
      | true =>
        have e0 : vldN x = 0 := by unfold vldN; rw [ev]; rfl
        rw [e0] at HVa
        have HV2 := hid (vld_upto hx HV.out ev)
        subst hus
        clear hx hbw hb1 hu hxl ev e0 HV
        go_wp2_with fail
        refine HVa.out.mono ?_
        rintro e w2 ⟨rfl, hb2⟩
        have HI2 := hid (HI.out.later hb2)
        clear hb2 HVa HI d0 d1 d2 d3 d4 d5
        go_wp2_with fail
        go_roundw
        case rel => exact ⟨k + 1, by omega, by go_num, HV2, HI2⟩
        case measure => simp [intOf]; omega
    · have HTt : Hid (l.take k = l) := hid (List.take_of_length_le (by have := HN.out; omega))
      rw [HTt.out] at HV
      have HE := hid (of_yes (nm := nm) HV.out)
      have HEE : Hid (ofV nm l = .agg #[.string nm, .int .i64 (tA l), .int .i64 (tD l)] ∧ ((ofN l : Nat) : Int) = 0) := hid ⟨HE.out.1, by rw [HE.out.2]; rfl⟩
      clear HE HV HTt
      go_wp2_with fail
      obtain ⟨w5, hw5⟩ : ∃ w5, w5 = wr := ⟨_, rfl⟩
      subst hw5
      go_loopw [8, 9] (fun i _ wr => ∃ k : Nat, k ≤ n ∧ i = .int .i64 k ∧ Hid (WrQ w wr G nm (tA (l.take k)) (tD (l.take k)))) (fun i _ _ => n - (intOf i).toNat)
      case atStart => exact ⟨0, Nat.zero_le _, rfl, hid (by rw [List.take_zero]; exact HI.out)⟩
      case round =>
        obtain ⟨q, hq, rfl, HQ⟩ := hrel
        by_cases hltq : q < n
        · obtain ⟨x, hx⟩ : ∃ x, l[q]? = some x := ⟨_, List.getElem?_eq_getElem (by have := HN.out; omega)⟩
          have hxl := List.mem_of_getElem? hx
          have HTA := hid (tA_take hx)
          have HX := hid hx
          have hle := tAD_le (l.take q)
          have htk := Nat.le_trans (tR_take l q) HT.out
          have HXR := hid (Nat.le_trans (tR_mem hxl) HT.out)
          obtain ⟨sA, hsA⟩ : ∃ s, s = tA (l.take q) := ⟨_, rfl⟩
          obtain ⟨sD, hsD⟩ : ∃ s, s = tD (l.take q) := ⟨_, rfl⟩
          rw [← hsA, ← hsD] at HQ HTA
          have HTK : Hid (0 ≤ sA ∧ sA ≤ 1048576 ∧ 0 ≤ sD ∧ sD ≤ 1048576) := hid (by omega)
          have i1 : (0 : Int) ≤ (q : Int) := by omega
          have i2 : (q : Int) < (n : Int) := by omega
          clear hx hxl hle htk hsA hsD
          go_wp2_with fail
          obtain ⟨w6, hw6⟩ : ∃ w6, w6 = wr := ⟨_, rfl⟩
          subst hw6
          go_loopw [9] (fun j wr => ∃ p : Nat, p ≤ x.rows.length ∧ j = .int .i64 p ∧ Hid (WrQ w wr G nm (sA + cA (x.rows.take p)) (sD + cD (x.rows.take p)))) (fun j _ => x.rows.length - (intOf j).toNat)
          case atStart => exact ⟨0, Nat.zero_le _, rfl, hid (by rw [List.take_zero, show cA [] = 0 from rfl, show cD [] = 0 from rfl, Int.add_zero, Int.add_zero]; exact HQ.out)⟩
          case round =>
            obtain ⟨p, hp, rfl, HP⟩ := hrel
            clear HQ
            have hbw : Below w.heap.size w wr := by have := HP.out.b; rw [HG.out] at this; exact this
            obtain ⟨b1, o1, u, e1, hb1, d0, d1, d2, d3, d4, d5, hu⟩ := rdH_at (HR.out.below hbw) HX.out
            subst e1
            obtain ⟨ua, uc, hus⟩ := hu.shape
            subst hus
            obtain ⟨m, hm⟩ : ∃ m, m = x.rows.length := ⟨_, rfl⟩
            have HM := hid hm
            have hml : m ≤ 1048576 := by have := HXR.out; omega
            rw [← hm] at hp d5 ⊢
            clear d0 d1 d2 d3 d4 hbw hb1
            by_cases hltp : p < m
            · obtain ⟨y, hy⟩ : ∃ y, x.rows[p]? = some y := ⟨_, List.getElem?_eq_getElem (by have := HM.out; omega)⟩
              rw [← hm] at hu
              obtain ⟨b2, o2, e2, hb2, g0, g1⟩ := rdW_at hu hy
              subst e2
              have HYA := hid (cA_take hy)
              have HYD := hid (cD_take hy)
              have hle := cAD_le (x.rows.take p)
              have hlp : (x.rows.take p).length ≤ 1048576 := by rw [List.length_take]; have := HXR.out; omega
              have htk := HTK.out
              obtain ⟨zA, hzA⟩ : ∃ s, s = sA + cA (x.rows.take p) := ⟨_, rfl⟩
              obtain ⟨zD, hzD⟩ : ∃ s, s = sD + cD (x.rows.take p) := ⟨_, rfl⟩
              have HSA : Hid (∀ z, cA (x.rows.take (p + 1)) = cA (x.rows.take p) + z → sA + cA (x.rows.take (p + 1)) = zA + z) := hid (fun z hz => by rw [hz, hzA]; omega)
              have HSD : Hid (∀ z, cD (x.rows.take (p + 1)) = cD (x.rows.take p) + z → sD + cD (x.rows.take (p + 1)) = zD + z) := hid (fun z hz => by rw [hz, hzD]; omega)
              rw [← hzA, ← hzD] at HP
              have s1 : IntKind.i64.wrap (zA + 1) = zA + 1 := wrapI (by omega) (by omega)
              have s2 : IntKind.i64.wrap (zD + 1) = zD + 1 := wrapI (by omega) (by omega)
              have j1 : (0 : Int) ≤ (p : Int) := by omega
              have j2 : (p : Int) < (m : Int) := by omega
              have y1 : wr.cell? ⟨G + 1, 1, none⟩ = some (.int .i64 zA) := cell_of_blk HP.out.c 1
              have y2 : wr.cell? ⟨G + 1, 2, none⟩ = some (.int .i64 zD) := cell_of_blk HP.out.c 2
              have f1 : wr.frozen? ⟨G + 1, 1, none⟩ = false := frozK HP.out.c 1
              have f2 : wr.frozen? ⟨G + 1, 2, none⟩ = false := frozK HP.out.c 2
              clear hy hb2 hle hlp htk hzA hzD g1 hu hm
              by_cases k2 : y.k = 2
              · have q2 : (y.k == 2) = true := zeq k2
                have h3 : ¬ y.k = 3 := by omega
                rw [if_pos k2] at HYD
                rw [if_neg h3] at HYA
                clear k2 h3
                go_wp2_with fail
                go_roundw
                case rel => exact ⟨p + 1, by have := HM.out; omega, by go_num, hid (by rw [HSA.out _ HYA.out, HSD.out _ HYD.out, Int.add_zero]; exact HP.out.set2 _)⟩
                case measure => simp [intOf]; have := HM.out; omega
              · have q2 : (y.k == 2) = false := zne k2
                rw [if_neg k2] at HYD
                by_cases k3 : y.k = 3
                · have q3 : (y.k == 3) = true := zeq k3
                  rw [if_pos k3] at HYA
                  clear k2 k3
                  go_wp2_with fail
                  go_roundw
                  case rel => exact ⟨p + 1, by have := HM.out; omega, by go_num, hid (by rw [HSA.out _ HYA.out, HSD.out _ HYD.out, Int.add_zero]; exact HP.out.set1 _)⟩
                  case measure => simp [intOf]; have := HM.out; omega
                · have q3 : (y.k == 3) = false := zne k3
                  rw [if_neg k3] at HYA
                  clear k2 k3
                  go_wp2_with fail
                  go_roundw
                  case rel => exact ⟨p + 1, by have := HM.out; omega, by go_num, hid (by rw [HSA.out _ HYA.out, HSD.out _ HYD.out, Int.add_zero, Int.add_zero]; exact HP.out)⟩
                  case measure => simp [intOf]; have := HM.out; omega
            · have HTt : Hid (x.rows.take p = x.rows) := hid (List.take_of_length_le (by have := HM.out; omega))
              rw [HTt.out] at HP
              have HP2 : Hid (WrQ w wr G nm (tA (l.take (q + 1))) (tD (l.take (q + 1)))) := hid (by rw [HTA.out.1, HTA.out.2]; exact HP.out)
              clear HP hu hm
              go_wp2_with fail
              go_roundw
              case rel => exact ⟨q + 1, by omega, by go_num, HP2⟩
              case measure => simp [intOf]; omega
        · have HTt : Hid (l.take q = l) := hid (List.take_of_length_le (by have := HN.out; omega))
          rw [HTt.out] at HQ
          have hle := tAD_le l
          have htl := HT.out
          obtain ⟨sA, hsA⟩ : ∃ s, s = tA l := ⟨_, rfl⟩
          obtain ⟨sD, hsD⟩ : ∃ s, s = tD l := ⟨_, rfl⟩
          rw [← hsA, ← hsD] at HQ HEE
          have n1 : ¬ 2147483647 < sA := by omega
          have n2 : ¬ 2147483647 < sD := by omega
          clear hle htl hsA hsD
          have y0 : wr.cell? ⟨G + 1, 0, none⟩ = some (.string nm) := cell_of_blk HQ.out.c 0
          have y1 : wr.cell? ⟨G + 1, 1, none⟩ = some (.int .i64 sA) := cell_of_blk HQ.out.c 1
          have y2 : wr.cell? ⟨G + 1, 2, none⟩ = some (.int .i64 sD) := cell_of_blk HQ.out.c 2
          go_wp2_with (guard_target =~ wpList _ _ _ (_ :: _) _ _; refine wpList_stK 29 #[.string nm, .int .i64 sA, .int .i64 sD] rfl rfl HQ.out.r ctr_size rfl rfl rfl rfl ?_; intro w3 hk3 hkp3; have HK3 := hid hk3; have HB3 := hid (kept_below HQ.out.b hkp3 (Nat.le_refl _) (lt_of_heap HQ.out.r)); clear hk3 hkp3)
          exact bodyPost_ret (results_ctR Tryz.results6 rfl HK3.out rfl) rfl ⟨by first | (rw [HEE.out.1, HEE.out.2]; done) | (rw [HEE.out.1, HEE.out.2]; rfl), by have := HB3.out; rw [HG.out] at this; exact this⟩
end Go.Proofs.YthnibchlgcgalaaGreatDoor.Sx
