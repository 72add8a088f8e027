/-
  Several texts in one: Qa, Qb, Qc, Qd, Qe, Qf, Qg.
-/
import Derived.Test.YtkolgglllladfaaGreatDoorGrPx
import Derived.Test.YtkolgglllladfaaGreatDoorGrVz
import Derived.Test.YtkolgglllladfaaGreatDoorGrKK
import Derived.Lib.AppendStr
import Derived.Deep.AppendLies
import Derived.Test.YtkolgglllladfaaGreatDoorGrKz
import Derived.Deep.RegionHeld3
import Derived.Test.YtkolgglllladfaaGreatDoorFy
import Derived.Test.YtkolgglllladfaaGreatDoorGrPv
import Derived.Test.YtkolgglllladfaaGreatDoorGrAs
/-
  The document's Faults (layer 11). (Made by wip/genqa.py.)
-/
namespace Go.Proofs.YtkolgglllladfaaGreatDoor.Ub
open Go.RowKit
open Hu (Rw Hk)

theorem ordU_pre {hs : List Hk} {i : Nat} {h : Hk} (ho : Un.ordU [] (hs.take i) = true) (hx : hs[i]? = some h) (hk : Un.okO (hs.take i) h = true) : Un.ordU [] (hs.take (i + 1)) = true := by
  rw [List.take_add_one, hx]
  show Un.ordU [] (hs.take i ++ [h]) = true
  rw [ordU_app, ho, List.nil_append, hk]
  rfl
theorem ordU_not {hs : List Hk} {i : Nat} {h : Hk} (hx : hs[i]? = some h) (hk : Un.okO (hs.take i) h = false) : Un.ordU [] hs = false := by
  cases ho : Un.ordU [] hs with
  | false => rfl
  | true =>
    have := (ordU_at hs []).1 ho i h hx
    rw [List.nil_append, hk] at this
    cases this
theorem okO_take {hs : List Hk} {i : Nat} {g h : Hk} (hi : 0 < i) (hil : i ≤ hs.length) (hg : hs[i - 1]? = some g) : Un.okO (hs.take i) h = Un.inO g h := by
  unfold Un.okO
  have e : (hs.take i).getLast? = some g := by
    rw [List.getLast?_eq_getElem?, List.length_take, Nat.min_eq_left hil, List.getElem?_take, if_pos (by omega)]
    exact hg
  rw [e]
theorem chk_bad {hs : List Hk} {h : Hk} (hm : h ∈ hs) (hv : Hu.vld h = false) : chkN hs = 100 := by
  unfold chkN
  rw [if_neg]
  intro ha
  rw [List.all_eq_true.1 ha h hm] at hv
  cases hv
theorem chk_ord {hs : List Hk} (hv : hs.all Hu.vld = true) (ho : Un.ordU [] hs = false) : chkN hs = 112 := by
  unfold chkN
  rw [if_pos hv, if_neg (by rw [ho]; exact Bool.false_ne_true)]
theorem all_next {hs : List Hk} {i : Nat} {h : Hk} (ha : (hs.take i).all Hu.vld = true) (hx : hs[i]? = some h) (hv : Hu.vld h = true) : (hs.take (i + 1)).all Hu.vld = true := by
  rw [List.take_add_one, hx]
  show (hs.take i ++ [h]).all Hu.vld = true
  rw [List.all_append, ha, List.all_cons, hv]
  rfl
set_option maxHeartbeats 8000000 in
set_option maxRecDepth 100000 in
theorem rFaults_any {w : World} {v : Value} {hs : List Hk} (p1 s1 p2 s2 : ByteArray) (hr : RdH w v hs) (hz : ∀ h ∈ hs, SzH h) (hn : hs.length ≤ 5000000) (hp1 : p1.size ≤ 1099511627776) (hs1 : s1.size ≤ 1099511627776) (hp2 : p2.size ≤ 1099511627776) (hs2 : s2.size ≤ 1099511627776) :
    Calls Tryz.prog 16 #[.agg #[.string p1, .string s1], .agg #[.string p2, .string s2], v] w fun e w' => e = .returned (.int .i64 (fltN (p1.data.toList, s1.data.toList) (p2.data.toList, s2.data.toList) hs : Nat)) ∧ Below w.heap.size w w' := by
  have HI1 := hid (fun w1 => rNameOK_any p1 s1 w1 hp1 hs1)
  have HI2 := hid (fun w1 => rNameOK_any p2 s2 w1 hp2 hs2)
  have HZ := hid hz
  obtain ⟨va, vc, rfl⟩ := hr.shape
  obtain ⟨N, hN⟩ : ∃ N, N = hs.length := ⟨_, rfl⟩
  have HN := hid hN
  have HR : Hid (RdH w (.slice va N vc) hs) := hid (by rw [hN]; exact hr)
  rw [← hN] at hn ⊢
  obtain ⟨hb0, k1, k2⟩ := twoF w (.cells #[.string p1, .string s1] 23) (.cells #[.string p2, .string s2] 23)
  have HB0 := hid hb0
  have K2 := hid k2
  obtain ⟨A, hA⟩ : ∃ A, A = w.heap.size := ⟨_, rfl⟩
  rw [← hA] at K2
  clear hr hz hN hb0 k1 k2
  cases h1 : Un.nameOk (p1.data.toList, s1.data.toList) with
  | false =>
    have HFL : Hid (fltN (p1.data.toList, s1.data.toList) (p2.data.toList, s2.data.toList) hs = 110) := hid (by unfold fltN; rw [h1]; rfl)
    rw [h1] at HI1
    clear h1
    go_enter Tryz.func16, Tryz.ntmps16
    go_wp2_with fail
    rw [← hA]
    clear hA
    generalize (w.alloc (.cells #[.string p1, .string s1] 23)).alloc (.cells #[.string p2, .string s2] 23) = w0 at HB0 K2 ⊢
    refine (HI1.out w0).mono ?_
    rintro e w1 ⟨rfl, hb1⟩
    have HB1 := hid (HB0.out.trans (hb1.mono HB0.out.size))
    clear hb1
    go_wp2_with fail
    go_ret
    exact ⟨by rw [HFL.out]; rfl, HB1.out⟩
  | true =>
    rw [h1] at HI1
    cases h2 : Un.nameOk (p2.data.toList, s2.data.toList) with
    | false =>
      rw [h2] at HI2
      have HFL : Hid (fltN (p1.data.toList, s1.data.toList) (p2.data.toList, s2.data.toList) hs = 110) := hid (by unfold fltN; rw [h1, h2]; rfl)
      rw [HFL.out]
      clear h1 h2
      go_enter Tryz.func16, Tryz.ntmps16
      go_wp2_with fail
      rw [← hA]
      clear hA
      generalize (w.alloc (.cells #[.string p1, .string s1] 23)).alloc (.cells #[.string p2, .string s2] 23) = w0 at HB0 K2 ⊢
      refine (HI1.out w0).mono ?_
      rintro e w1 ⟨rfl, hb1⟩
      have HB1 := hid (HB0.out.trans (hb1.mono HB0.out.size))
      have L2 := hid ((hb1.block (A + 1) (lt_of_heap K2.out)).trans K2.out)
      have c0 : w1.cell? ⟨A + 1, 0, none⟩ = some (.string p2) := cell_of_blk L2.out 0
      have c1 : w1.cell? ⟨A + 1, 1, none⟩ = some (.string s2) := cell_of_blk L2.out 1
      clear hb1
      go_wp2_with fail
      refine (HI2.out w1).mono ?_
      rintro e w2 ⟨rfl, hb2⟩
      have HB2 := hid (HB1.out.trans (hb2.mono HB1.out.size))
      clear hb2 c0 c1
      go_wp2_with fail
      go_ret
      exact ⟨rfl, HB2.out⟩
    | true =>
      rw [h2] at HI2
      have HFL : Hid (fltN (p1.data.toList, s1.data.toList) (p2.data.toList, s2.data.toList) hs = chkN hs) := hid (by unfold fltN; rw [h1, h2]; rfl)
      rw [HFL.out]
      clear h1 h2
      go_enter Tryz.func16, Tryz.ntmps16
      go_wp2_with fail
      rw [← hA]
      clear hA
      generalize (w.alloc (.cells #[.string p1, .string s1] 23)).alloc (.cells #[.string p2, .string s2] 23) = w0 at HB0 K2 ⊢
      refine (HI1.out w0).mono ?_
      rintro e w1 ⟨rfl, hb1⟩
      have HB1 := hid (HB0.out.trans (hb1.mono HB0.out.size))
      have L2 := hid ((hb1.block (A + 1) (lt_of_heap K2.out)).trans K2.out)
      have c0 : w1.cell? ⟨A + 1, 0, none⟩ = some (.string p2) := cell_of_blk L2.out 0
      have c1 : w1.cell? ⟨A + 1, 1, none⟩ = some (.string s2) := cell_of_blk L2.out 1
      clear hb1
      go_wp2_with fail
      refine (HI2.out w1).mono ?_
      rintro e w2 ⟨rfl, hb2⟩
      have HB2 := hid (HB1.out.trans (hb2.mono HB1.out.size))
      clear hb2 c0 c1
      go_wp2_with fail
      go_loopw [7] (fun ii wr => ∃ i : Nat, i ≤ N ∧ ii = .int .i64 i ∧ Hid (Below w.heap.size w wr) ∧ Hid ((hs.take i).all Hu.vld = true)) (fun ii _ => N - (intOf ii).toNat)
      case atStart => exact ⟨0, Nat.zero_le _, rfl, HB2, hid rfl⟩
      case round =>
        clear HB2 HB1 HB0 L2 K2
        obtain ⟨i, hi, rfl, HB, HA⟩ := hrel
        by_cases hlt : i < N
        · obtain ⟨h, hx⟩ : ∃ h, hs[i]? = some h := ⟨_, List.getElem?_eq_getElem (by have := HN.out; omega)⟩
          obtain ⟨lb, lo, u, rfl, hlb, g0, g1, g2, g3, g4, g5, hu⟩ := rdH_at (HR.out.below HB.out) hx
          obtain ⟨hv', hc', rfl⟩ := hu.shape
          have HX := hid hx
          have HVL := hid (rValid_any hu (HZ.out h (List.mem_of_getElem? hx)))
          have HM := hid (List.mem_of_getElem? hx)
          have i1 : (0 : Int) ≤ (i : Int) := by omega
          have i2 : (i : Int) < (N : Int) := by omega
          generalize hVD : Hu.vld h = VD
          have hvn := vldN_of hVD
          rw [hvn] at HVL
          have HVD := hid hVD
          unfold HkV at HVL
          clear hx hu hlb hvn hVD
          go_wp2_with fail
          refine HVL.out.mono ?_
          rintro e w3 ⟨rfl, hb3⟩
          have HB3 := hid (HB.out.trans (hb3.mono HB.out.size))
          clear hb3 HVL g0 g1 g2 g3 g4 g5
          cases VD with
          | false =>
            have HC := hid (chk_bad HM.out HVD.out)
            rw [show (((if false = true then 0 else 100 : Nat) : Nat) : Int) = 100 from rfl]
            go_wp2_with fail
            go_ret
            exact ⟨by rw [HC.out]; rfl, HB3.out⟩
          | true =>
            have HC := hid (all_next HA.out HX.out HVD.out)
            rw [show (((if true = true then 0 else 100 : Nat) : Nat) : Int) = 0 from rfl]
            go_wp2_with fail
            go_roundw
            case rel => exact ⟨i + 1, by omega, by go_num, HB3, HC⟩
            case measure => simp [intOf]; omega
        · have hiN : i = N := by omega
          have i2 : ¬ ((i : Int) < (N : Int)) := by omega
          have HALL : Hid (hs.all Hu.vld = true) := hid (by
            have h9 := HA.out
            rw [List.take_of_length_le (by have := HN.out; omega)] at h9
            exact h9)
          obtain ⟨wo, hwo⟩ : ∃ wo, wo = wr := ⟨_, rfl⟩
          subst hwo
          clear HA
          go_wp2_with fail
          go_loopw [8] (fun ii wr => ∃ i : Nat, 1 ≤ i ∧ (i ≤ N ∨ i = 1) ∧ ii = .int .i64 i ∧ Hid (Below w.heap.size w wr) ∧ Hid (Un.ordU [] (hs.take i) = true)) (fun ii _ => N - (intOf ii).toNat)
          case atStart => exact ⟨1, Nat.le_refl _, .inr rfl, rfl, HB, hid (by
            cases hs with
            | nil => rfl
            | cons h l => show (Un.okO [] h && Un.ordU ([] ++ [h]) []) = true; rfl)⟩
          case round =>
            clear hi hlt i2 hiN HB
            obtain ⟨i, hi1, hi2, rfl, HB, HO⟩ := hrel
            by_cases hlt : i < N
            · obtain ⟨h, hx⟩ : ∃ h, hs[i]? = some h := ⟨_, List.getElem?_eq_getElem (by have := HN.out; omega)⟩
              obtain ⟨g, hg⟩ : ∃ g, hs[i - 1]? = some g := ⟨_, List.getElem?_eq_getElem (by have := HN.out; omega)⟩
              have hok := okO_take (h := h) (by omega) (by have := HN.out; omega) hg
              have hgs := vld_sm (List.all_eq_true.1 HALL.out g (List.mem_of_getElem? hg))
              have hhs := vld_sm (List.all_eq_true.1 HALL.out h (List.mem_of_getElem? hx))
              obtain ⟨lb, lo, u, rfl, hlb, d0, d1, d2, d3, d4, d5, hu⟩ := rdH_at (HR.out.below HB.out) hx
              obtain ⟨lb2, lo2, u2, hla2, hlb2, f0, f1, f2, f3, f4, f5, hu2⟩ := rdH_at (HR.out.below HB.out) hg
              cases hla2
              obtain ⟨hv, hc, rfl⟩ := hu.shape
              obtain ⟨gv, gc, rfl⟩ := hu2.shape
              have HIO := hid (fun W => rInOrder_any (w := W) (g := g) (h := h) (ua := hv) (un := h.rows.length) (uc := hc) (qa := gv) (qn := g.rows.length) (qc := gc) hhs hgs)
              rw [← hok] at HIO
              generalize hOK : Un.okO (hs.take i) h = OK at HIO
              have HOK := hid hOK
              have HX := hid hx
              unfold HkV at HIO
              obtain ⟨ga, gn, gb, gm, gh, gr⟩ := g
              obtain ⟨ha, hn, hb, hm, hh, hr⟩ := h
              dsimp only at d0 d1 d2 d3 d4 d5 f0 f1 f2 f3 f4 f5 HIO
              obtain ⟨GL, hGL⟩ : ∃ GL, GL = gr.length := ⟨_, rfl⟩
              obtain ⟨HL, hHL⟩ : ∃ HL, HL = hr.length := ⟨_, rfl⟩
              rw [← hGL] at f5 HIO
              rw [← hHL] at d5 HIO
              have Hh0 := hid d0
              have Hh1 := hid d1
              have Hh2 := hid d2
              have Hh3 := hid d3
              have Hh4 := hid d4
              have Hh5 := hid d5
              have Hg0 := hid f0
              have Hg1 := hid f1
              have Hg2 := hid f2
              have Hg3 := hid f3
              have Hg4 := hid f4
              have Hg5 := hid f5
              have HLB := hid hlb
              have i1 : (0 : Int) ≤ (i : Int) := by omega
              have i2 : (i : Int) < (N : Int) := by omega
              have i3 : IntKind.i64.wrap ((i : Int) - 1) = ((i - 1 : Nat) : Int) := by rw [wrapOk (by omega) (by omega)]; omega
              have i4 : i - 1 < N := by omega
              have i5 : i < N := hlt
              clear hx hg hok hgs hhs hlb hlb2 d0 d1 d2 d3 d4 d5 f0 f1 f2 f3 f4 f5 hu hu2 hOK hGL hHL
              go_wp2_with fail
              refine wp_region_class (C := fun w' => Below wr.heap.size wr w') (by kernel_rfl) (by kernel_rfl) (below_drewN (Below.refl _ _) 1) ?_
              refine wpQuiet_step (fun K hK => ?_)
              go_simp
              refine ⟨_, fun _ _ => rfl, hK _ ?_⟩
              clear hK K
              refine wpQuiet_step (fun K hK => ?_)
              go_simp
              refine ⟨_, fun _ _ => rfl, hK _ ?_⟩
              clear hK K
              refine wpQuiet_step (fun K hK => ?_)
              go_simp
              refine ⟨_, fun _ _ => rfl, hK _ ?_⟩
              clear hK K
              refine wpQuiet_step (fun K hK => ?_)
              go_simp
              refine ⟨_, fun _ _ => rfl, hK _ ?_⟩
              clear hK K
              refine wpQuiet_step (fun K hK => ?_)
              rw [if_pos (by rfl)]
              refine ⟨.agg #[.int .i64 ga, .int .i64 gn, .int .i64 gb, .int .i64 gm, .string gh, .slice gv GL gc], fun w' hw' => ?_, hK _ ?_⟩
              · have e0 := (hw'.cell (p := ⟨lb, lo + (i - 1) * 6, none⟩) HLB.out).trans Hg0.out
                have e1 := (hw'.cell (p := ⟨lb, lo + (i - 1) * 6 + 1, none⟩) HLB.out).trans Hg1.out
                have e2 := (hw'.cell (p := ⟨lb, lo + (i - 1) * 6 + 2, none⟩) HLB.out).trans Hg2.out
                have e3 := (hw'.cell (p := ⟨lb, lo + (i - 1) * 6 + 3, none⟩) HLB.out).trans Hg3.out
                have e4 := (hw'.cell (p := ⟨lb, lo + (i - 1) * 6 + 4, none⟩) HLB.out).trans Hg4.out
                have e5 := (hw'.cell (p := ⟨lb, lo + (i - 1) * 6 + 5, none⟩) HLB.out).trans Hg5.out
                go_simp
              clear hK K
              refine wpQuiet_step (fun K hK => ?_)
              go_simp
              refine ⟨_, fun _ _ => rfl, hK _ ?_⟩
              clear hK K
              refine wpQuiet_step (fun K hK => ?_)
              go_simp
              refine ⟨_, fun _ _ => rfl, hK _ ?_⟩
              clear hK K
              refine wpQuiet_step (fun K hK => ?_)
              go_simp
              refine ⟨_, fun _ _ => rfl, hK _ ?_⟩
              clear hK K
              refine wpQuiet_step (fun K hK => ?_)
              rw [if_pos (by rfl)]
              refine ⟨.agg #[.int .i64 ha, .int .i64 hn, .int .i64 hb, .int .i64 hm, .string hh, .slice hv HL hc], fun w' hw' => ?_, hK _ ?_⟩
              · have e0 := (hw'.cell (p := ⟨lb, lo + i * 6, none⟩) HLB.out).trans Hh0.out
                have e1 := (hw'.cell (p := ⟨lb, lo + i * 6 + 1, none⟩) HLB.out).trans Hh1.out
                have e2 := (hw'.cell (p := ⟨lb, lo + i * 6 + 2, none⟩) HLB.out).trans Hh2.out
                have e3 := (hw'.cell (p := ⟨lb, lo + i * 6 + 3, none⟩) HLB.out).trans Hh3.out
                have e4 := (hw'.cell (p := ⟨lb, lo + i * 6 + 4, none⟩) HLB.out).trans Hh4.out
                have e5 := (hw'.cell (p := ⟨lb, lo + i * 6 + 5, none⟩) HLB.out).trans Hh5.out
                go_simp
              clear hK K
              refine wpQuiet_step (fun K hK => ?_)
              rw [if_pos (by rfl)]
              refine ⟨.bool OK, fun w' hw' => ?_, hK _ ?_⟩
              · go_simp
                refine (HIO.out w').mono ?_
                rintro r wn ⟨rfl, hbn⟩
                exact ⟨rfl, hw'.trans (hbn.mono hw'.size)⟩
              clear hK K
              refine wpQuiet_step (fun K hK => ?_)
              go_simp
              refine ⟨_, fun _ _ => rfl, hK _ ?_⟩
              clear hK K
              refine wpQuiet_nil ?_
              intro w9 hb9
              have HB9 := hid (HB.out.trans (hb9.mono HB.out.size))
              clear hb9
              cases OK with
              | false =>
                have HC := hid (chk_ord HALL.out (ordU_not HX.out HOK.out))
                go_wp2_with fail
                go_ret
                exact ⟨by rw [HC.out]; rfl, HB9.out⟩
              | true =>
                have HC := hid (ordU_pre HO.out HX.out HOK.out)
                go_wp2_with fail
                go_roundw
                case rel => exact ⟨i + 1, by omega, .inl (by omega), by go_num, HB9, HC⟩
                case measure => simp [intOf]; omega
            · have i2 : ¬ ((i : Int) < (N : Int)) := by omega
              have HC : Hid (chkN hs = 0) := hid (chk_good HALL.out (by
                have h9 := HO.out
                rw [List.take_of_length_le (by have := HN.out; omega)] at h9
                exact h9))
              go_wp2_with fail
              go_ret
              exact ⟨by rw [HC.out]; rfl, HB.out⟩
end Go.Proofs.YtkolgglllladfaaGreatDoor.Ub
/-
  Rows of bytes of the call's own whose block bears a mark just past its cells: what a string's bytes, taken as a row, leave behind; appended to, and read back.
-/
namespace Go.Proofs.YtkolgglllladfaaGreatDoor.Ub
open Go.RowKit
open Hu (Rw Hk)

theorem infoByteG : (Tryz.prog.info? 5).map (fun i => (i.zero, i.size, i.bytes)) = some (some (.int .u8 0), 1, 1) := by kernel_rfl
/-- no cell of the row is marked -/
def FarM (fz : Nat × Nat) (n : Nat) : Prop := fz.2 = 0 ∨ n ≤ fz.1
/-- the row's own cells are the bytes l -/
def OwG (w : World) (B : Nat) (v : Value) (l : Un.Bs) : Prop :=
  ∃ g cap cur fz, v = .slice (some ⟨g, 0, none⟩) l.length cap ∧ B ≤ g ∧ w.heap[g]? = some (.cells cur 5 fz) ∧ FarM fz cap ∧ l.length ≤ cap ∧ cap ≤ maxLen ∧ cur.size = cap ∧ cur.toList.take l.length = Lib.byteCells l
theorem OwG.ge {w : World} {B : Nat} {v : Value} {l : Un.Bs} (h : OwG w B v l) : ∀ k, v.ownBlock = some k → B ≤ k := by
  obtain ⟨g, cap, cur, fz, rfl, hb, _⟩ := h
  intro k hk
  simp [Value.ownBlock] at hk
  omega
theorem OwG.shape {w : World} {B : Nat} {v : Value} {l : Un.Bs} (h : OwG w B v l) : ∃ g cap, v = .slice (some ⟨g, 0, none⟩) l.length cap ∧ B ≤ g ∧ g < w.heap.size := by
  obtain ⟨g, cap, cur, fz, rfl, hb, hg, _⟩ := h
  exact ⟨g, cap, rfl, hb, lt_of_heap hg⟩
theorem OwG.block {w w' : World} {B : Nat} {v : Value} {l : Un.Bs} (h : OwG w B v l) (hk : ∀ k, v.ownBlock = some k → w'.heap[k]? = w.heap[k]?) : OwG w' B v l := by
  obtain ⟨g, cap, cur, fz, rfl, hb, hg, rest⟩ := h
  exact ⟨g, cap, cur, fz, rfl, hb, (hk g (by simp [Value.ownBlock])).trans hg, rest⟩
theorem OwG.below {w w' : World} {B : Nat} {v : Value} {l : Un.Bs} (h : OwG w B v l) (hb : Below w.heap.size w w') : OwG w' B v l := by
  refine h.block fun k hk => ?_
  obtain ⟨g, cap, e, _, hlt⟩ := h.shape
  subst e
  simp [Value.ownBlock] at hk
  subst hk
  exact hb.block _ hlt
theorem OwG.ne {w : World} {B : Nat} {v : Value} {l : Un.Bs} (h : OwG w B v l) {g : Nat} {cs : Array Value} {t : TypeId} {fz : Nat × Nat} (hg : w.heap[g]? = some (.cells cs t fz)) (ht : t ≠ 5) : some g ≠ v.ownBlock := by
  obtain ⟨k, cap, cur, fz', rfl, _, hk, _⟩ := h
  intro e
  simp [Value.ownBlock] at e
  subst e
  rw [hk] at hg
  simp only [Option.some.injEq, Obj.cells.injEq] at hg
  exact ht hg.2.1.symm
theorem bytesRow_take (s : ByteArray) (n : Nat) : (bytesRow s n).toList.take s.data.toList.length = Lib.byteCells s.data.toList := by
  unfold bytesRow Lib.byteCells
  simp
theorem bytesRow_size (s : ByteArray) (n : Nat) (h : s.size ≤ n) : (bytesRow s n).size = n := by
  unfold bytesRow
  have e : s.data.size = s.size := rfl
  simp [e]
  omega
/-- a string's bytes, as the walk leaves them -/
theorem OwG.of_string (w : World) (B : Nat) (s : ByteArray) (hB : B ≤ w.heap.size) (hs : s.size ≤ maxLen) :
    OwG (w.drew.alloc (.cells (bytesRow s (grownCap w s.size 0 5)) 5 ((bytesRow s (grownCap w s.size 0 5)).size, (bytesRow s (grownCap w s.size 0 5)).size + 1))) B
      (.slice (some ⟨w.heap.size, 0, none⟩) s.size (grownCap w s.size 0 5)) s.data.toList := by
  have hge := grownCap_ge w s.size 0 5
  have hsz := bytesRow_size s _ hge
  have hds : s.data.toList.length = s.size := dsize s
  refine ⟨w.heap.size, grownCap w s.size 0 5, _, _, by rw [hds], hB, heap_alloc_new w.drew _, .inr (by rw [hsz]; exact Nat.le_refl _), by rw [hds]; exact hge, grownCap_le_maxLen w s.size 0 5 hs, hsz, bytesRow_take s _⟩
theorem run_storeCells_far (P : Program) (g o : Nat) (t : TypeId) (fz : Nat × Nat) (N : Nat) (hf : FarM fz N) : ∀ (vs : List Value) (i : Nat) (cur : Array Value) (w : World), w.heap[g]? = some (.cells cur t fz) → cur.size = N → o + i + vs.length ≤ cur.size → (∀ v ∈ vs, v.oneCell' = true) →
    (storeCells ⟨g, o, none⟩ vs i).run P w = .ok () (w.setRow g (cur.toList.take (o + i) ++ vs ++ cur.toList.drop (o + i + vs.length)).toArray)
  | [], i, cur, w, hg, _, _, _ => by
    rw [List.append_nil, List.length_nil, Nat.add_zero, List.take_append_drop, Array.toArray_toList, setRow_self w g cur t fz hg]
    rfl
  | v :: rest, i, cur, w, hg, hN, hl, h1 => by
    rw [List.length_cons] at hl
    have hi : o + i < cur.size := by omega
    have hadd : (⟨g, o, none⟩ : Addr).add i = ⟨g, o + i, none⟩ := by unfold Addr.add; split <;> simp_all
    have hcell : w.cell? ⟨g, o + i, none⟩ = some cur[o + i] := by simp [World.cell?, hg, hi]
    have hfro : w.frozen? ⟨g, o + i, none⟩ = false := by
      obtain ⟨lo, hi'⟩ := fz
      simp only [World.frozen?, hg, Bool.and_eq_false_iff, decide_eq_false_iff_not]
      unfold FarM at hf
      simp only at hf
      omega
    have hst : (store ((⟨g, o, none⟩ : Addr).add i) v).run P w = .ok () (w.setRow g (cur.setIfInBounds (o + i) v)) := by
      rw [hadd, run_store P w _ v _ (h1 v (List.mem_cons_self ..)), hcell]
      simp [hfro, setCell_eq_setRow w g (o + i) cur t fz v hg]
    have ih := run_storeCells_far P g o t fz N hf rest (i + 1) (cur.setIfInBounds (o + i) v) (w.setRow g (cur.setIfInBounds (o + i) v)) (Go.setRow_heap w g cur _ t _ hg) (by simpa using hN) (by simp; omega) (fun x hx => h1 x (List.mem_cons_of_mem _ hx))
    simp only [storeCells, Sem.run_bind, hst, Result.andThen_ok, ih, setRow_setRow]
    congr 3
    have e := list_seg_step cur.toList (o + i) v rest (by simp; omega)
    simpa [Array.toList_setIfInBounds, Nat.add_assoc] using e
section
variable {P : Program} (w : World)
theorem run_append_room_far (t u ty e : TypeId) (i : TypeInfo) (ht : P.underlying t = some (.slice e)) (hu : P.underlying u = some .string) (hi : P.info? e = some i) (hs1 : i.size = 1)
    (g sLen sCap : Nat) (cur : Array Value) (fz : Nat × Nat) (hg : w.heap[g]? = some (.cells cur e fz)) (hf : FarM fz cur.size) (s : ByteArray)
    (hroom : sLen + s.size ≤ sCap) (hfit : sLen + s.size ≤ cur.size) :
    (Builtin.append_ #[t, u] ty #[.slice (some ⟨g, 0, none⟩) sLen sCap, .string s]).run P w =
      .ok (.slice (some ⟨g, 0, none⟩) (sLen + s.size) sCap) (w.setRow g (cur.toList.take sLen ++ Lib.strCells s ++ cur.toList.drop (sLen + s.size)).toArray) := by
  have hfc := Lib.run_firstCells_string (P := P) w 1 s
  have hst := run_storeCells_far P g sLen e fz cur.size hf (Lib.strCells s) 0 cur w hg rfl (by simpa [Lib.strCells_length] using hfit) (Lib.strCells_oneCell s)
  simp only [Nat.add_zero, Lib.strCells_length] at hst
  simp [Builtin.append_, run_underlying ht, run_underlying hu, sizeOf, typeInfo, hi, hs1, Builtin.lenOf, hroom, hfc, Addr.add_lit, hst]
end
/-- a string appended -/
theorem run_append_far {w : World} {B : Nat} {v : Value} {l : Un.Bs} (hown : OwG w B v l) (ty : TypeId) (s : ByteArray) (hb : l.length + s.size ≤ 140737488355328) (hB : B ≤ w.heap.size) :
    ∃ v' w', (Builtin.append_ #[52, 9] ty #[v, .string s]).run Tryz.prog w = .ok v' w' ∧ OwG w' B v' (l ++ s.data.toList) ∧ w.grownBy w' v.ownBlock := by
  obtain ⟨i, hi, hz, hs1, hby⟩ := info_parts infoByteG
  obtain ⟨g, cap, cur, fz, rfl, hbg, hg, hf, hn, hcm, hcs, htake⟩ := hown
  have hds : s.data.toList.length = s.size := dsize s
  have hlen : (l ++ s.data.toList).length = l.length + s.size := by rw [List.length_append, hds]
  have hcl : (Lib.byteCells l ++ Lib.strCells s).length = l.length + s.size := by rw [List.length_append, Lib.byteCells_length, Lib.strCells_length]
  have hsm : l.length + s.size ≤ maxLen := by unfold maxLen; omega
  by_cases hroom : l.length + s.size ≤ cap
  · have hr := run_append_room_far (P := Tryz.prog) w 52 9 ty 5 i Tryz.underlying52 Tryz.underlying9 hi hs1 g l.length cap cur fz hg (by rw [hcs]; exact hf) s hroom (by omega)
    refine ⟨_, _, hr, ⟨g, cap, _, fz, by rw [hlen], hbg, Go.setRow_heap w g cur _ 5 _ hg, hf, by rw [hlen]; exact hroom, hcm, ?_, ?_⟩, ⟨rfl, rfl, rfl, by simp, fun k _ hk => Go.setRow_other w g k _ (fun e => hk (by simp [Value.ownBlock, e]))⟩⟩
    · simp only [List.size_toArray, List.length_append, List.length_take, List.length_drop, Array.length_toList, Lib.strCells_length]
      omega
    · rw [htake, Lib.byteCells_append, hlen, ← hcl]
      exact List.take_left
  · have holds : ∀ j u, (Lib.byteCells l)[j]? = some u → w.cell? ((⟨g, 0, none⟩ : Addr).add j) = some u := by
      intro j u hu
      have hadd : (⟨g, 0, none⟩ : Addr).add j = ⟨g, j, none⟩ := by unfold Addr.add; split <;> simp_all
      rw [hadd, cell_of_row w g j cur 5 fz hg]
      rw [← htake, List.getElem?_take] at hu
      split at hu
      · simpa using hu
      · cases hu
    have hr := Lib.run_append_grow_string (P := Tryz.prog) w 52 9 ty 5 i (.int .u8 0) Tryz.underlying52 Tryz.underlying9 hi hz ⟨g, 0, none⟩ l.length cap (Lib.byteCells l) (by rw [hs1, Lib.byteCells_length]; omega) holds s (by omega) (by omega) (by rw [hby]; exact growslice_fits (by omega) (by omega))
    have hge := grownCap_ge w (l.length + s.size) cap 5
    have hcm2 : grownCap w (l.length + s.size) cap 5 ≤ maxLen := grownCap_le_maxLen w (l.length + s.size) cap 5 hsm
    refine ⟨_, _, hr, ⟨w.heap.size, _, _, (0, 0), by rw [hlen], hB, heap_alloc_new w.drew _, .inl rfl, by rw [hlen]; exact hge, hcm2, ?_, ?_⟩, ⟨rfl, rfl, rfl, by simp, fun k hk _ => Go.heap_alloc_old w.drew _ hk⟩⟩
    · have hz1 : (Value.int IntKind.u8 0).cells.size = 1 := rfl
      simp only [Array.size_append, List.size_toArray, size_zeroCells, hz1, Lib.byteCells_length, Lib.strCells_length]
      omega
    · rw [Lib.byteCells_append]
      simp only [Array.toList_append, List.append_assoc]
      rw [← List.append_assoc, hlen, ← hcl]
      exact List.take_left
theorem wpList_append_far {ops : Array Oper} {rest : List Oper} {o : Oper} {a : Act} {w : World} {Q : Exit → Act → World → Prop} (hgd : o.guard = none) (sl x : Operand)
    (ho : o.op = .call { callee := .builtin .append, args := #[sl, x], argTypes := #[52, 9] })
    (B : Nat) (v : Value) (l : Un.Bs) (hs : a.eval sl = v) (hown : OwG w B v l) (s : ByteArray) (hx : a.eval x = .string s)
    (hb : l.length + s.size ≤ 140737488355328) (hB : B ≤ w.heap.size)
    (h : ∀ v' w', OwG w' B v' (l ++ s.data.toList) → w.grownBy w' v.ownBlock → wpList Tryz.prog ops Q rest (a.put o.dst v') w') : wpList Tryz.prog ops Q (o :: rest) a w := by
  refine wpList_plain hgd fun K hK => ?_
  obtain ⟨v', w', hr, h2, h3⟩ := run_append_far hown o.type s hb hB
  unfold Oper.wp execOp
  simp only [ho, resolve, invoke, builtin, Sem.run_bind, Sem.run_pure, Result.andThen_ok, List.map_toArray, List.map_cons, List.map_nil, hs, hx, hr]
  exact hK _ _ (h v' w' h2 h3)
theorem step_append_far {ops : Array Oper} {o : Oper} {a : Act} {w : World} {K : Act → World → Prop} {Q : Exit → Act → World → Prop} {E : Prop} (hgd : o.guard = none) (sl x : Operand)
    (ho : o.op = .call { callee := .builtin .append, args := #[sl, x], argTypes := #[52, 9] })
    (B : Nat) (v : Value) (l : Un.Bs) (hs : a.eval sl = v) (hown : OwG w B v l) (s : ByteArray) (hx : a.eval x = .string s)
    (hb : l.length + s.size ≤ 140737488355328) (hB : B ≤ w.heap.size)
    (h : ∀ v' w', OwG w' B v' (l ++ s.data.toList) → w.grownBy w' v.ownBlock → K (a.put o.dst v') w') :
    if Region.wanted o (yielded ops a.tmps) = true then Oper.wp Tryz.prog o a w K Q else E := by
  have hw : Region.wanted o (yielded ops a.tmps) = true := by simp [Region.wanted, hgd]
  rw [if_pos hw]
  obtain ⟨v', w', hr, h2, h3⟩ := run_append_far hown o.type s hb hB
  unfold Oper.wp execOp
  simp only [ho, resolve, invoke, builtin, Sem.run_bind, Sem.run_pure, Result.andThen_ok, List.map_toArray, List.map_cons, List.map_nil, hs, hx, hr]
  exact h _ _ h2 h3
theorem wpList_conv_far {ops : Array Oper} {rest : List Oper} {o : Oper} {a : Act} {w : World} {Q : Exit → Act → World → Prop} (hgd : o.guard = none) (x : Operand)
    (ho : o.op = .convert 9 52 x) (B : Nat) (s : ByteArray) (hx : a.eval x = .string s) (hs : s.size ≤ maxLen) (hB : B ≤ w.heap.size)
    (h : ∀ v' w', OwG w' B v' s.data.toList → Below w.heap.size w w' → wpList Tryz.prog ops Q rest (a.put o.dst v') w') : wpList Tryz.prog ops Q (o :: rest) a w := by
  refine wpList_plain hgd fun K hK => ?_
  have hr := run_bytes_of_string (P := Tryz.prog) w 9 52 5 s Tryz.underlying9 Tryz.underlying52 Tryz.underlying5
  have h1 := OwG.of_string w B s hB hs
  have h2 : Below w.heap.size w (w.drew.alloc (.cells (bytesRow s (grownCap w s.size 0 5)) 5 ((bytesRow s (grownCap w s.size 0 5)).size, (bytesRow s (grownCap w s.size 0 5)).size + 1))) := (below_drewN (Below.refl _ _) 1).alloc (Nat.le_refl _) _
  unfold Oper.wp execOp
  simp only [ho, Sem.run_bind, Sem.run_pure, Result.andThen_ok, hx, hr]
  exact hK _ _ (h _ _ h1 h2)
theorem conv_far {w : World} {B : Nat} {v : Value} {l : Un.Bs} (h : OwG w B v l) : (convert 52 9 v).run Tryz.prog w = .ok (.string (bB l)) w := by
  obtain ⟨g, cap, cur, fz, rfl, hbg, hg, hf, hn, hcm, hcs, htake⟩ := h
  refine run_convert_bytes_back w 52 9 5 ⟨g, 0, none⟩ cap l Tryz.underlying52 Tryz.underlying5 Tryz.underlying9 fun j hj => ?_
  have hadd : (⟨g, 0, none⟩ : Addr).add j = ⟨g, j, none⟩ := by unfold Addr.add; split <;> simp_all
  rw [hadd, cell_of_row w g j cur 5 fz hg]
  have hu : (Lib.byteCells l)[j]? = some (.int .u8 (l[j].toNat : Int)) := by simp [Lib.byteCells, hj]
  rw [← htake, List.getElem?_take, if_pos hj] at hu
  simpa using hu
end Go.Proofs.YtkolgglllladfaaGreatDoor.Ub
/-
  The document's Hunk (layer 11): a hunk's text.
-/
namespace Go.Proofs.YtkolgglllladfaaGreatDoor.Ub
open Go.RowKit
open Hu (Rw Hk)

set_option maxHeartbeats 2000000 in
set_option maxRecDepth 100000 in
theorem rHunk_bad {w : World} {h : Hk} {v : Value} (hr : RdW w v h.rows) (hz : SzH h) (hv : Hu.vld h = false) :
    Calls Tryz.prog 10 #[HkV h v] w fun e w' => e = .returned (.tuple #[.string ⟨#[]⟩, .int .i64 100]) ∧ Below w.heap.size w w' := by
  obtain ⟨va, vc, rfl⟩ := hr.shape
  have HV := hid (fun w1 (h1 : Below w.heap.size w w1) => rValid_any (hr.below h1) hz)
  have hvn := vldN_of hv
  rw [hvn, if_neg Bool.false_ne_true] at HV
  unfold HkV at HV ⊢
  obtain ⟨ha, hn, hb, hm, hh, rows⟩ := h
  dsimp only at HV ⊢
  have HB0 := hid ((Below.refl w.heap.size w).alloc (Nat.le_refl _) (.cells #[.int .i64 ha, .int .i64 hn, .int .i64 hb, .int .i64 hm, .string hh, .slice va rows.length vc] 37))
  clear hr hz hv hvn
  go_enter Tryz.func10, Tryz.ntmps10
  go_wp2_with fail
  refine (HV.out _ HB0.out).mono ?_
  rintro e w1 ⟨rfl, hb1⟩
  have HB1 := hid (HB0.out.trans (hb1.mono HB0.out.size))
  clear hb1
  go_wp2_with fail
  go_ret2
  exact ⟨rfl, HB1.out⟩
/- more -/
theorem place_bare {h : Hk} (h0 : h.head.size = 0) : ((⟨#[64, 64, 32, 45]⟩ : ByteArray) ++ bB (Un.rngT h.a h.n) ++ (⟨#[32, 43]⟩ : ByteArray) ++ bB (Un.rngT h.b h.m) ++ (⟨#[32, 64, 64]⟩ : ByteArray) ++ (⟨#[10]⟩ : ByteArray)).data.toList = Un.placeT h ++ [10] := by
  have e : h.head.data.toList = [] := List.length_eq_zero_iff.1 (by rw [dsize]; exact h0)
  unfold Un.placeT Un.headT Un.mkB Un.mkM Un.mkC
  rw [e, if_pos rfl]
  simp [bB]
theorem place_head {h : Hk} (h0 : h.head.size ≠ 0) : ((⟨#[64, 64, 32, 45]⟩ : ByteArray) ++ bB (Un.rngT h.a h.n) ++ (⟨#[32, 43]⟩ : ByteArray) ++ bB (Un.rngT h.b h.m) ++ (⟨#[32, 64, 64]⟩ : ByteArray) ++ (⟨#[32]⟩ : ByteArray) ++ h.head ++ (⟨#[10]⟩ : ByteArray)).data.toList = Un.placeT h ++ [10] := by
  have e : h.head.data.toList ≠ [] := fun e => h0 (by rw [← dsize, e]; rfl)
  unfold Un.placeT Un.headT Un.mkB Un.mkM Un.mkC
  rw [if_neg e]
  simp [bB]
theorem row_app (r : Rw) : ((⟨#[Un.mkR r.k]⟩ : ByteArray) ++ bB (Un.tailT r.t.data.toList)).data.toList = Un.rowT r := by
  unfold Un.rowT
  simp [bB]
theorem row_count : ∀ l : List Rw, l.length ≤ (l.flatMap Un.rowT).length
  | [] => Nat.le_refl _
  | r :: l => by
    have h1 := row_count l
    have h2 := row_len r
    rw [List.flatMap_cons, List.length_append, List.length_cons]
    omega
set_option maxHeartbeats 8000000 in
set_option maxRecDepth 100000 in
theorem rHunk_ok {w : World} {h : Hk} {v : Value} (hr : RdW w v h.rows) (hz : SzH h) (hv : Hu.vld h = true) (ht : ∀ r ∈ h.rows, r.t.size ≤ 1099511627776) (hl : (Un.hunkT h).length ≤ 100000000000000) :
    Calls Tryz.prog 10 #[HkV h v] w fun e w' => e = .returned (.tuple #[.string (bB (Un.hunkT h)), .int .i64 0]) ∧ Below w.heap.size w w' := by
  obtain ⟨va, vc, rfl⟩ := hr.shape
  have HV := hid (fun w1 (h1 : Below w.heap.size w w1) => rValid_any (hr.below h1) hz)
  have hvn := vldN_of hv
  rw [hvn, if_pos rfl] at HV
  have hs := vld_sm hv
  have HKD := hid (vld_kinds hv)
  have HTS := hid ht
  have hpb := fun h0 => place_bare (h := h) h0
  have hph := fun h0 => place_head (h := h) h0
  have HHT : Hid (Un.hunkT h = (Un.placeT h ++ [10]) ++ h.rows.flatMap Un.rowT) := hid (by unfold Un.hunkT; simp)
  have hl1 := hl
  rw [HHT.out, List.length_append] at hl1
  rw [HHT.out]
  have HHS : Hid (h.head.size ≤ 100000000000000) := hid (by
    by_cases h0 : h.head.size = 0
    · omega
    · have h9 := congrArg List.length (hph h0)
      simp only [List.length_append, Array.length_toList, ByteArray.data_append, Array.size_append] at h9 hl1
      have h8 : h.head.data.size = h.head.size := rfl
      omega)
  unfold HkV at HV ⊢
  obtain ⟨ha, hn, hb, hm, hh, rows⟩ := h
  dsimp only at hr HV HKD HTS hpb hph HHS ⊢
  obtain ⟨s1, s2, s3, s4, s5, s6, s7, s8⟩ := hs
  dsimp only at s1 s2 s3 s4 s5 s6 s7 s8
  have HS1 := hid (fun w1 => span_any s1 s2 s3 s4 w1)
  have HS2 := hid (fun w1 => span_any s5 s6 s7 s8 w1)
  have lx : (bB (Un.rngT ha hn)).size ≤ 21 := by rw [bB_size]; exact rng21 s1 s2 s3 s4
  have ly : (bB (Un.rngT hb hm)).size ≤ 21 := by rw [bB_size]; exact rng21 s5 s6 s7 s8
  dsimp only at hl1
  obtain ⟨PT, hPT⟩ : ∃ PT, PT = Un.placeT ⟨ha, hn, hb, hm, hh, rows⟩ ++ [10] := ⟨_, rfl⟩
  rw [← hPT] at hpb hph hl1 ⊢
  have HPB := hid hpb
  have HPH := hid hph
  have HL1 := hid hl1
  obtain ⟨N, hN⟩ : ∃ N, N = rows.length := ⟨_, rfl⟩
  have HN := hid hN
  have hNl : N ≤ 100000000000000 := by
    have := row_count rows
    omega
  have HRW : Hid (∀ w1, Below w.heap.size w w1 → RdW w1 (.slice va N vc) rows) := hid (fun w1 h1 => by rw [hN]; exact RdX.below hr h1)
  rw [← hN] at HV ⊢
  generalize bB (Un.rngT ha hn) = X at HS1 HPB HPH lx
  generalize bB (Un.rngT hb hm) = Y at HS2 HPB HPH ly
  have HB0 := hid ((Below.refl w.heap.size w).alloc (Nat.le_refl _) (.cells #[.int .i64 ha, .int .i64 hn, .int .i64 hb, .int .i64 hm, .string hh, .slice va N vc] 37))
  have HK0 := hid (heap_alloc_new w (.cells #[.int .i64 ha, .int .i64 hn, .int .i64 hb, .int .i64 hm, .string hh, .slice va N vc] 37))
  obtain ⟨G, hG⟩ : ∃ G, G = w.heap.size := ⟨_, rfl⟩
  have HGW := hid hG
  rw [← hG] at HK0
  clear hr hz hv hvn hl hl1 hpb hph hPT hN HHT ht s1 s2 s3 s4 s5 s6 s7 s8
  go_enter Tryz.func10, Tryz.ntmps10
  go_wp2_with fail
  rw [← hG]
  clear hG
  generalize w.alloc (.cells #[.int .i64 ha, .int .i64 hn, .int .i64 hb, .int .i64 hm, .string hh, .slice va N vc] 37) = w0 at HB0 HK0 ⊢
  refine (HV.out w0 HB0.out).mono ?_
  rintro e w1 ⟨rfl, hb1⟩
  have HB1 := hid (HB0.out.trans (hb1.mono HB0.out.size))
  have HK1 := hid ((hb1.block G (lt_of_heap HK0.out)).trans HK0.out)
  have HGL : Hid (G < w1.heap.size) := hid (lt_of_heap HK1.out)
  clear hb1 HB0 HK0 HV
  have C0 : Hid (w1.cell? ⟨G, 0, none⟩ = some (.int .i64 ha)) := hid (cell_of_blk HK1.out 0)
  have C1 : Hid (w1.cell? ⟨G, 1, none⟩ = some (.int .i64 hn)) := hid (cell_of_blk HK1.out 1)
  have C2 : Hid (w1.cell? ⟨G, 2, none⟩ = some (.int .i64 hb)) := hid (cell_of_blk HK1.out 2)
  have C3 : Hid (w1.cell? ⟨G, 3, none⟩ = some (.int .i64 hm)) := hid (cell_of_blk HK1.out 3)
  have z1 : ¬ (9223372036854775807 < 4 + X.size) := by omega
  have z2 : ¬ (9223372036854775807 < 4 + X.size + 2) := by omega
  have z3 : ¬ (9223372036854775807 < 4 + X.size + 2 + Y.size) := by omega
  have z4 : ¬ (9223372036854775807 < 4 + X.size + 2 + Y.size + 3) := by omega
  go_wp2_with fail
  refine wp_region_class (C := fun w' => Below w1.heap.size w1 w') (by kernel_rfl) (by kernel_rfl) (below_drewN (Below.refl _ _) 1) ?_
  refine wpQuiet_step (fun K hK => ?_)
  go_simp
  refine ⟨_, fun _ _ => rfl, hK _ ?_⟩
  clear hK K
  refine wpQuiet_step (fun K hK => ?_)
  rw [if_pos (by rfl)]
  refine ⟨.int .i64 ha, fun w' hw' => ?_, hK _ ?_⟩
  · have e0 := (hw'.cell (p := ⟨G, 0, none⟩) HGL.out).trans C0.out
    go_simp
  clear hK K
  refine wpQuiet_step (fun K hK => ?_)
  go_simp
  refine ⟨_, fun _ _ => rfl, hK _ ?_⟩
  clear hK K
  refine wpQuiet_step (fun K hK => ?_)
  rw [if_pos (by rfl)]
  refine ⟨.int .i64 hn, fun w' hw' => ?_, hK _ ?_⟩
  · have e0 := (hw'.cell (p := ⟨G, 1, none⟩) HGL.out).trans C1.out
    go_simp
  clear hK K
  refine wpQuiet_step (fun K hK => ?_)
  rw [if_pos (by rfl)]
  refine ⟨.string X, fun w' hw' => ?_, hK _ ?_⟩
  · go_simp
    refine (HS1.out w').mono ?_
    rintro r wn ⟨rfl, hbn⟩
    exact ⟨rfl, hw'.trans (hbn.mono hw'.size)⟩
  clear hK K
  refine wpQuiet_step (fun K hK => ?_)
  go_simp
  refine ⟨_, fun _ _ => rfl, hK _ ?_⟩
  clear hK K
  refine wpQuiet_step (fun K hK => ?_)
  go_simp
  refine ⟨_, fun _ _ => rfl, hK _ ?_⟩
  clear hK K
  refine wpQuiet_step (fun K hK => ?_)
  go_simp
  refine ⟨_, fun _ _ => rfl, hK _ ?_⟩
  clear hK K
  refine wpQuiet_step (fun K hK => ?_)
  rw [if_pos (by rfl)]
  refine ⟨.int .i64 hb, fun w' hw' => ?_, hK _ ?_⟩
  · have e0 := (hw'.cell (p := ⟨G, 2, none⟩) HGL.out).trans C2.out
    go_simp
  clear hK K
  refine wpQuiet_step (fun K hK => ?_)
  go_simp
  refine ⟨_, fun _ _ => rfl, hK _ ?_⟩
  clear hK K
  refine wpQuiet_step (fun K hK => ?_)
  rw [if_pos (by rfl)]
  refine ⟨.int .i64 hm, fun w' hw' => ?_, hK _ ?_⟩
  · have e0 := (hw'.cell (p := ⟨G, 3, none⟩) HGL.out).trans C3.out
    go_simp
  clear hK K
  refine wpQuiet_step (fun K hK => ?_)
  rw [if_pos (by rfl)]
  refine ⟨.string Y, fun w' hw' => ?_, hK _ ?_⟩
  · go_simp
    refine (HS2.out w').mono ?_
    rintro r wn ⟨rfl, hbn⟩
    exact ⟨rfl, hw'.trans (hbn.mono hw'.size)⟩
  clear hK K
  refine wpQuiet_step (fun K hK => ?_)
  go_simp
  refine ⟨_, fun _ _ => rfl, hK _ ?_⟩
  clear hK K
  refine wpQuiet_step (fun K hK => ?_)
  go_simp
  refine ⟨_, fun _ _ => rfl, hK _ ?_⟩
  clear hK K
  refine wpQuiet_step (fun K hK => ?_)
  go_simp
  refine ⟨_, fun _ _ => rfl, hK _ ?_⟩
  clear hK K
  refine wpQuiet_nil ?_
  intro w9 hb9
  have HB9 := hid (HB1.out.trans (hb9.mono HB1.out.size))
  have HK9 := hid ((hb9.block G HGL.out).trans HK1.out)
  have c4 : w9.cell? ⟨G, 4, none⟩ = some (.string hh) := cell_of_blk HK9.out 4
  have c5 : w9.cell? ⟨G, 5, none⟩ = some (.slice va N vc) := cell_of_blk HK9.out 5
  clear hb9
  by_cases h0 : hh.size = 0
  · have HPT := hid (HPB.out h0)
    have hx := Cx.empty_yes hh h0
    clear HPB HPH h0
    obtain ⟨S, hS⟩ : ∃ S, S = (⟨#[64, 64, 32, 45]⟩ : ByteArray) ++ X ++ (⟨#[32, 43]⟩ : ByteArray) ++ Y ++ (⟨#[32, 64, 64]⟩ : ByteArray) := ⟨_, rfl⟩
    have hSz : S.size ≤ 60 := by
      rw [hS]
      simp only [ByteArray.size_append]
      have e1 : (⟨#[64, 64, 32, 45]⟩ : ByteArray).size = 4 := rfl
      have e2 : (⟨#[32, 43]⟩ : ByteArray).size = 2 := rfl
      have e3 : (⟨#[32, 64, 64]⟩ : ByteArray).size = 3 := rfl
      omega
    rw [← hS] at HPT ⊢
    clear hS
    have hmx : (S ++ (⟨#[10]⟩ : ByteArray)).size ≤ maxLen := by have h1 : (⟨#[10]⟩ : ByteArray).size = 1 := rfl; rw [ByteArray.size_append, h1]; unfold maxLen; omega
    have HMX := hid hmx
    clear hmx
    go_wp2_with (guard_target =~ wpList _ _ _ (_ :: _) _ _; refine wpList_conv_far rfl _ rfl w.heap.size _ rfl HMX.out HB9.out.size ?_; intro v4 w4 hO4 hb4; rw [HPT.out] at hO4; have HO4 := hid hO4; have HB4 := hid (HB9.out.trans (hb4.mono HB9.out.size)); have HK4 := hid ((hb4.block G (lt_of_heap HK9.out)).trans HK9.out); clear hO4 hb4)
    clear HB9 HK9 c4 c5 HPT hSz
    go_loopw [5, 6] (fun bb ii wr => ∃ k : Nat, k ≤ N ∧ ii = .int .i64 k ∧ Hid (OwG wr w.heap.size bb (PT ++ (rows.take k).flatMap Un.rowT)) ∧ Hid (Below w.heap.size w wr) ∧ Hid (wr.heap[G]? = some (.cells #[.int .i64 ha, .int .i64 hn, .int .i64 hb, .int .i64 hm, .string hh, .slice va N vc] 37))) (fun _ ii _ => N - (intOf ii).toNat)
    case atStart => exact ⟨0, Nat.zero_le _, rfl, hid (by simpa using HO4.out), HB4, HK4⟩
    case round =>
      obtain ⟨k, hk, rfl, HO, HB, HKr⟩ := hrel
      clear HO4 HB4 HK4
      have c5 : wr.cell? ⟨G, 5, none⟩ = some (.slice va N vc) := cell_of_blk HKr.out 5
      by_cases hlt : k < N
      · obtain ⟨r, hx⟩ : ∃ r, rows[k]? = some r := ⟨_, List.getElem?_eq_getElem (by have := HN.out; omega)⟩
        have hrd := HRW.out wr HB.out
        obtain ⟨b2, o2, rfl, hb2, d0, d1⟩ := rdW_at hrd hx
        have HX := hid (rows_take hx)
        have htl := take_row hx
        have hrl2 := row_len r
        have hkr := HKD.out r (List.mem_of_getElem? hx)
        have hts := HTS.out r (List.mem_of_getElem? hx)
        obtain ⟨rk, rt⟩ := r
        dsimp only at d0 d1 hrl2 hkr hts
        have htn := tail_len rt.data.toList
        rw [dsize] at htn
        obtain ⟨P, hP⟩ : ∃ P, P = PT ++ (rows.take k).flatMap Un.rowT := ⟨_, rfl⟩
        have HPE := hid hP
        rw [← hP] at HO
        have HPL : Hid (P.length ≤ 100000000000000) := hid (by have := HL1.out; rw [hP, List.length_append]; omega)
        have HTL := hid (fun w1 => tail_any rt w1 hts)
        have i1 : (0 : Int) ≤ (k : Int) := by omega
        have i2 : (k : Int) < (N : Int) := by omega
        have HLB := hid hb2
        have D1 := hid d1
        clear hx hb2 hrd hP htl hrl2 d1
        rcases hkr with rfl | rfl | rfl
        · have HMK : Hid (((ByteArray.mk #[32, 45, 43]).extract 0 1 ++ bB (Un.tailT rt.data.toList)).data.toList = Un.rowT ⟨1, rt⟩) := hid (row_app ⟨1, rt⟩)
          have hzz : ¬ (9223372036854775807 < ((ByteArray.mk #[32, 45, 43]).extract 0 1).size + (bB (Un.tailT rt.data.toList)).size) := by
            rw [show ((ByteArray.mk #[32, 45, 43]).extract 0 1).size = 1 from rfl, bB_size]
            omega
          have hss : ((ByteArray.mk #[32, 45, 43]).extract 0 1 ++ bB (Un.tailT rt.data.toList)).size = 1 + (bB (Un.tailT rt.data.toList)).size := by
            rw [ByteArray.size_append, show ((ByteArray.mk #[32, 45, 43]).extract 0 1).size = 1 from rfl]
          have HSS := hid hss
          have HTT : Hid ((bB (Un.tailT rt.data.toList)).size ≤ rt.size + 29) := hid (by rw [bB_size]; omega)
          generalize bB (Un.tailT rt.data.toList) = TL at HMK hzz HSS HTT HTL
          clear hss htn
          go_wp2_with fail
          go_quiet (fail)
          have HB2 := hid (below_drewN HB.out nq)
          have hdr : Below wr.heap.size wr (wr.drewN nq) := below_drewN (Below.refl _ _) nq
          have HO2 := hid (HO.out.below hdr)
          have HK2 := hid ((hdr.block G (lt_of_heap HKr.out)).trans HKr.out)
          have c5 : (wr.drewN nq).cell? ⟨G, 5, none⟩ = some (.slice (some ⟨b2, o2, none⟩) N vc) := cell_of_blk HK2.out 5
          have d3 := (hdr.cell (p := ⟨b2, o2 + k * 2 + 1, none⟩) HLB.out).trans D1.out
          clear hdr HO HB
          generalize wr.drewN nq = wd at HB2 HO2 HK2 c5 d3 ⊢
          go_wp2_with fail
          refine (HTL.out _).mono ?_
          rintro e w2 ⟨rfl, rfl⟩
          clear c5 d3
          have hc1 : P.length + ((ByteArray.mk #[32, 45, 43]).extract 0 1 ++ TL).size ≤ 140737488355328 := by have h1 := HSS.out; have h2 := HTT.out; have h3 := HPL.out; omega
          have HC1 := hid hc1
          clear hc1
          go_wp2_with (at_builtin; refine wpList_append_far rfl _ _ rfl w.heap.size _ P rfl HO2.out _ rfl HC1.out HB2.out.size ?_; intro v7 w7 hO7 hg7; rw [HMK.out] at hO7; have HO7 := hid hO7; have HB7 := hid (HB2.out.grown hg7 HB2.out.size HO2.out.ge); have HK7 := hid ((hg7.block G (lt_of_heap HK2.out) (HO2.out.ne HK2.out (by decide))).trans HK2.out); clear hO7 hg7)
          go_roundw
          case rel => exact ⟨k + 1, by omega, by go_num, hid (by rw [HX.out, ← List.append_assoc, ← HPE.out]; exact HO7.out), HB7, HK7⟩
          case measure => simp [intOf]; omega
        · have HMK : Hid (((ByteArray.mk #[32, 45, 43]).extract 1 2 ++ bB (Un.tailT rt.data.toList)).data.toList = Un.rowT ⟨2, rt⟩) := hid (row_app ⟨2, rt⟩)
          have hzz : ¬ (9223372036854775807 < ((ByteArray.mk #[32, 45, 43]).extract 1 2).size + (bB (Un.tailT rt.data.toList)).size) := by
            rw [show ((ByteArray.mk #[32, 45, 43]).extract 1 2).size = 1 from rfl, bB_size]
            omega
          have hss : ((ByteArray.mk #[32, 45, 43]).extract 1 2 ++ bB (Un.tailT rt.data.toList)).size = 1 + (bB (Un.tailT rt.data.toList)).size := by
            rw [ByteArray.size_append, show ((ByteArray.mk #[32, 45, 43]).extract 1 2).size = 1 from rfl]
          have HSS := hid hss
          have HTT : Hid ((bB (Un.tailT rt.data.toList)).size ≤ rt.size + 29) := hid (by rw [bB_size]; omega)
          generalize bB (Un.tailT rt.data.toList) = TL at HMK hzz HSS HTT HTL
          clear hss htn
          go_wp2_with fail
          go_quiet (fail)
          have HB2 := hid (below_drewN HB.out nq)
          have hdr : Below wr.heap.size wr (wr.drewN nq) := below_drewN (Below.refl _ _) nq
          have HO2 := hid (HO.out.below hdr)
          have HK2 := hid ((hdr.block G (lt_of_heap HKr.out)).trans HKr.out)
          have c5 : (wr.drewN nq).cell? ⟨G, 5, none⟩ = some (.slice (some ⟨b2, o2, none⟩) N vc) := cell_of_blk HK2.out 5
          have d3 := (hdr.cell (p := ⟨b2, o2 + k * 2 + 1, none⟩) HLB.out).trans D1.out
          clear hdr HO HB
          generalize wr.drewN nq = wd at HB2 HO2 HK2 c5 d3 ⊢
          go_wp2_with fail
          refine (HTL.out _).mono ?_
          rintro e w2 ⟨rfl, rfl⟩
          clear c5 d3
          have hc1 : P.length + ((ByteArray.mk #[32, 45, 43]).extract 1 2 ++ TL).size ≤ 140737488355328 := by have h1 := HSS.out; have h2 := HTT.out; have h3 := HPL.out; omega
          have HC1 := hid hc1
          clear hc1
          go_wp2_with (at_builtin; refine wpList_append_far rfl _ _ rfl w.heap.size _ P rfl HO2.out _ rfl HC1.out HB2.out.size ?_; intro v7 w7 hO7 hg7; rw [HMK.out] at hO7; have HO7 := hid hO7; have HB7 := hid (HB2.out.grown hg7 HB2.out.size HO2.out.ge); have HK7 := hid ((hg7.block G (lt_of_heap HK2.out) (HO2.out.ne HK2.out (by decide))).trans HK2.out); clear hO7 hg7)
          go_roundw
          case rel => exact ⟨k + 1, by omega, by go_num, hid (by rw [HX.out, ← List.append_assoc, ← HPE.out]; exact HO7.out), HB7, HK7⟩
          case measure => simp [intOf]; omega
        · have HMK : Hid (((ByteArray.mk #[32, 45, 43]).extract 2 3 ++ bB (Un.tailT rt.data.toList)).data.toList = Un.rowT ⟨3, rt⟩) := hid (row_app ⟨3, rt⟩)
          have hzz : ¬ (9223372036854775807 < ((ByteArray.mk #[32, 45, 43]).extract 2 3).size + (bB (Un.tailT rt.data.toList)).size) := by
            rw [show ((ByteArray.mk #[32, 45, 43]).extract 2 3).size = 1 from rfl, bB_size]
            omega
          have hss : ((ByteArray.mk #[32, 45, 43]).extract 2 3 ++ bB (Un.tailT rt.data.toList)).size = 1 + (bB (Un.tailT rt.data.toList)).size := by
            rw [ByteArray.size_append, show ((ByteArray.mk #[32, 45, 43]).extract 2 3).size = 1 from rfl]
          have HSS := hid hss
          have HTT : Hid ((bB (Un.tailT rt.data.toList)).size ≤ rt.size + 29) := hid (by rw [bB_size]; omega)
          generalize bB (Un.tailT rt.data.toList) = TL at HMK hzz HSS HTT HTL
          clear hss htn
          go_wp2_with fail
          go_quiet (fail)
          have HB2 := hid (below_drewN HB.out nq)
          have hdr : Below wr.heap.size wr (wr.drewN nq) := below_drewN (Below.refl _ _) nq
          have HO2 := hid (HO.out.below hdr)
          have HK2 := hid ((hdr.block G (lt_of_heap HKr.out)).trans HKr.out)
          have c5 : (wr.drewN nq).cell? ⟨G, 5, none⟩ = some (.slice (some ⟨b2, o2, none⟩) N vc) := cell_of_blk HK2.out 5
          have d3 := (hdr.cell (p := ⟨b2, o2 + k * 2 + 1, none⟩) HLB.out).trans D1.out
          clear hdr HO HB
          generalize wr.drewN nq = wd at HB2 HO2 HK2 c5 d3 ⊢
          go_wp2_with fail
          refine (HTL.out _).mono ?_
          rintro e w2 ⟨rfl, rfl⟩
          clear c5 d3
          have hc1 : P.length + ((ByteArray.mk #[32, 45, 43]).extract 2 3 ++ TL).size ≤ 140737488355328 := by have h1 := HSS.out; have h2 := HTT.out; have h3 := HPL.out; omega
          have HC1 := hid hc1
          clear hc1
          go_wp2_with (at_builtin; refine wpList_append_far rfl _ _ rfl w.heap.size _ P rfl HO2.out _ rfl HC1.out HB2.out.size ?_; intro v7 w7 hO7 hg7; rw [HMK.out] at hO7; have HO7 := hid hO7; have HB7 := hid (HB2.out.grown hg7 HB2.out.size HO2.out.ge); have HK7 := hid ((hg7.block G (lt_of_heap HK2.out) (HO2.out.ne HK2.out (by decide))).trans HK2.out); clear hO7 hg7)
          go_roundw
          case rel => exact ⟨k + 1, by omega, by go_num, hid (by rw [HX.out, ← List.append_assoc, ← HPE.out]; exact HO7.out), HB7, HK7⟩
          case measure => simp [intOf]; omega
      · obtain rfl : k = N := by omega
        have HE : Hid (rows.take k = rows) := hid (List.take_of_length_le (by have := HN.out; omega))
        rw [HE.out] at HO
        have hcv := conv_far HO.out
        have i2 : ¬ ((k : Int) < (k : Int)) := by omega
        go_wp2_with fail
        go_ret2
        exact ⟨rfl, HB.out⟩
  · have HPT := hid (HPH.out h0)
    have hx := Cx.empty_no hh h0
    have hhs := HHS.out
    clear HPB HPH h0
    obtain ⟨S, hS⟩ : ∃ S, S = (⟨#[64, 64, 32, 45]⟩ : ByteArray) ++ X ++ (⟨#[32, 43]⟩ : ByteArray) ++ Y ++ (⟨#[32, 64, 64]⟩ : ByteArray) := ⟨_, rfl⟩
    have hSz0 : S.size ≤ 60 := by
      rw [hS]
      simp only [ByteArray.size_append]
      have e1 : (⟨#[64, 64, 32, 45]⟩ : ByteArray).size = 4 := rfl
      have e2 : (⟨#[32, 43]⟩ : ByteArray).size = 2 := rfl
      have e3 : (⟨#[32, 64, 64]⟩ : ByteArray).size = 3 := rfl
      omega
    rw [← hS] at HPT ⊢
    clear hS
    have hSz : (S ++ (⟨#[32]⟩ : ByteArray) ++ hh).size ≤ 100000000000061 := by
      rw [ByteArray.size_append, ByteArray.size_append, show (⟨#[32]⟩ : ByteArray).size = 1 from rfl]
      omega
    have y1 : ¬ (9223372036854775807 < S.size + 1) := by omega
    have y2 : ¬ (9223372036854775807 < S.size + 1 + hh.size) := by omega
    have y3 : ¬ (9223372036854775807 < S.size + 1 + hh.size + 1) := by omega
    have hmx : ((S ++ (⟨#[32]⟩ : ByteArray) ++ hh) ++ (⟨#[10]⟩ : ByteArray)).size ≤ maxLen := by have h1 : (⟨#[10]⟩ : ByteArray).size = 1 := rfl; rw [ByteArray.size_append, h1]; unfold maxLen; omega
    have HMX := hid hmx
    clear hmx
    go_wp2_with (guard_target =~ wpList _ _ _ (_ :: _) _ _; refine wpList_conv_far rfl _ rfl w.heap.size _ rfl HMX.out HB9.out.size ?_; intro v4 w4 hO4 hb4; rw [HPT.out] at hO4; have HO4 := hid hO4; have HB4 := hid (HB9.out.trans (hb4.mono HB9.out.size)); have HK4 := hid ((hb4.block G (lt_of_heap HK9.out)).trans HK9.out); clear hO4 hb4)
    clear HB9 HK9 c4 c5 HPT hSz
    go_loopw [5, 6] (fun bb ii wr => ∃ k : Nat, k ≤ N ∧ ii = .int .i64 k ∧ Hid (OwG wr w.heap.size bb (PT ++ (rows.take k).flatMap Un.rowT)) ∧ Hid (Below w.heap.size w wr) ∧ Hid (wr.heap[G]? = some (.cells #[.int .i64 ha, .int .i64 hn, .int .i64 hb, .int .i64 hm, .string hh, .slice va N vc] 37))) (fun _ ii _ => N - (intOf ii).toNat)
    case atStart => exact ⟨0, Nat.zero_le _, rfl, hid (by simpa using HO4.out), HB4, HK4⟩
    case round =>
      obtain ⟨k, hk, rfl, HO, HB, HKr⟩ := hrel
      clear HO4 HB4 HK4
      have c5 : wr.cell? ⟨G, 5, none⟩ = some (.slice va N vc) := cell_of_blk HKr.out 5
      by_cases hlt : k < N
      · obtain ⟨r, hx⟩ : ∃ r, rows[k]? = some r := ⟨_, List.getElem?_eq_getElem (by have := HN.out; omega)⟩
        have hrd := HRW.out wr HB.out
        obtain ⟨b2, o2, rfl, hb2, d0, d1⟩ := rdW_at hrd hx
        have HX := hid (rows_take hx)
        have htl := take_row hx
        have hrl2 := row_len r
        have hkr := HKD.out r (List.mem_of_getElem? hx)
        have hts := HTS.out r (List.mem_of_getElem? hx)
        obtain ⟨rk, rt⟩ := r
        dsimp only at d0 d1 hrl2 hkr hts
        have htn := tail_len rt.data.toList
        rw [dsize] at htn
        obtain ⟨P, hP⟩ : ∃ P, P = PT ++ (rows.take k).flatMap Un.rowT := ⟨_, rfl⟩
        have HPE := hid hP
        rw [← hP] at HO
        have HPL : Hid (P.length ≤ 100000000000000) := hid (by have := HL1.out; rw [hP, List.length_append]; omega)
        have HTL := hid (fun w1 => tail_any rt w1 hts)
        have i1 : (0 : Int) ≤ (k : Int) := by omega
        have i2 : (k : Int) < (N : Int) := by omega
        have HLB := hid hb2
        have D1 := hid d1
        clear hx hb2 hrd hP htl hrl2 d1
        rcases hkr with rfl | rfl | rfl
        · have HMK : Hid (((ByteArray.mk #[32, 45, 43]).extract 0 1 ++ bB (Un.tailT rt.data.toList)).data.toList = Un.rowT ⟨1, rt⟩) := hid (row_app ⟨1, rt⟩)
          have hzz : ¬ (9223372036854775807 < ((ByteArray.mk #[32, 45, 43]).extract 0 1).size + (bB (Un.tailT rt.data.toList)).size) := by
            rw [show ((ByteArray.mk #[32, 45, 43]).extract 0 1).size = 1 from rfl, bB_size]
            omega
          have hss : ((ByteArray.mk #[32, 45, 43]).extract 0 1 ++ bB (Un.tailT rt.data.toList)).size = 1 + (bB (Un.tailT rt.data.toList)).size := by
            rw [ByteArray.size_append, show ((ByteArray.mk #[32, 45, 43]).extract 0 1).size = 1 from rfl]
          have HSS := hid hss
          have HTT : Hid ((bB (Un.tailT rt.data.toList)).size ≤ rt.size + 29) := hid (by rw [bB_size]; omega)
          generalize bB (Un.tailT rt.data.toList) = TL at HMK hzz HSS HTT HTL
          clear hss htn
          go_wp2_with fail
          go_quiet (fail)
          have HB2 := hid (below_drewN HB.out nq)
          have hdr : Below wr.heap.size wr (wr.drewN nq) := below_drewN (Below.refl _ _) nq
          have HO2 := hid (HO.out.below hdr)
          have HK2 := hid ((hdr.block G (lt_of_heap HKr.out)).trans HKr.out)
          have c5 : (wr.drewN nq).cell? ⟨G, 5, none⟩ = some (.slice (some ⟨b2, o2, none⟩) N vc) := cell_of_blk HK2.out 5
          have d3 := (hdr.cell (p := ⟨b2, o2 + k * 2 + 1, none⟩) HLB.out).trans D1.out
          clear hdr HO HB
          generalize wr.drewN nq = wd at HB2 HO2 HK2 c5 d3 ⊢
          go_wp2_with fail
          refine (HTL.out _).mono ?_
          rintro e w2 ⟨rfl, rfl⟩
          clear c5 d3
          have hc1 : P.length + ((ByteArray.mk #[32, 45, 43]).extract 0 1 ++ TL).size ≤ 140737488355328 := by have h1 := HSS.out; have h2 := HTT.out; have h3 := HPL.out; omega
          have HC1 := hid hc1
          clear hc1
          go_wp2_with (at_builtin; refine wpList_append_far rfl _ _ rfl w.heap.size _ P rfl HO2.out _ rfl HC1.out HB2.out.size ?_; intro v7 w7 hO7 hg7; rw [HMK.out] at hO7; have HO7 := hid hO7; have HB7 := hid (HB2.out.grown hg7 HB2.out.size HO2.out.ge); have HK7 := hid ((hg7.block G (lt_of_heap HK2.out) (HO2.out.ne HK2.out (by decide))).trans HK2.out); clear hO7 hg7)
          go_roundw
          case rel => exact ⟨k + 1, by omega, by go_num, hid (by rw [HX.out, ← List.append_assoc, ← HPE.out]; exact HO7.out), HB7, HK7⟩
          case measure => simp [intOf]; omega
        · have HMK : Hid (((ByteArray.mk #[32, 45, 43]).extract 1 2 ++ bB (Un.tailT rt.data.toList)).data.toList = Un.rowT ⟨2, rt⟩) := hid (row_app ⟨2, rt⟩)
          have hzz : ¬ (9223372036854775807 < ((ByteArray.mk #[32, 45, 43]).extract 1 2).size + (bB (Un.tailT rt.data.toList)).size) := by
            rw [show ((ByteArray.mk #[32, 45, 43]).extract 1 2).size = 1 from rfl, bB_size]
            omega
          have hss : ((ByteArray.mk #[32, 45, 43]).extract 1 2 ++ bB (Un.tailT rt.data.toList)).size = 1 + (bB (Un.tailT rt.data.toList)).size := by
            rw [ByteArray.size_append, show ((ByteArray.mk #[32, 45, 43]).extract 1 2).size = 1 from rfl]
          have HSS := hid hss
          have HTT : Hid ((bB (Un.tailT rt.data.toList)).size ≤ rt.size + 29) := hid (by rw [bB_size]; omega)
          generalize bB (Un.tailT rt.data.toList) = TL at HMK hzz HSS HTT HTL
          clear hss htn
          go_wp2_with fail
          go_quiet (fail)
          have HB2 := hid (below_drewN HB.out nq)
          have hdr : Below wr.heap.size wr (wr.drewN nq) := below_drewN (Below.refl _ _) nq
          have HO2 := hid (HO.out.below hdr)
          have HK2 := hid ((hdr.block G (lt_of_heap HKr.out)).trans HKr.out)
          have c5 : (wr.drewN nq).cell? ⟨G, 5, none⟩ = some (.slice (some ⟨b2, o2, none⟩) N vc) := cell_of_blk HK2.out 5
          have d3 := (hdr.cell (p := ⟨b2, o2 + k * 2 + 1, none⟩) HLB.out).trans D1.out
          clear hdr HO HB
          generalize wr.drewN nq = wd at HB2 HO2 HK2 c5 d3 ⊢
          go_wp2_with fail
          refine (HTL.out _).mono ?_
          rintro e w2 ⟨rfl, rfl⟩
          clear c5 d3
          have hc1 : P.length + ((ByteArray.mk #[32, 45, 43]).extract 1 2 ++ TL).size ≤ 140737488355328 := by have h1 := HSS.out; have h2 := HTT.out; have h3 := HPL.out; omega
          have HC1 := hid hc1
          clear hc1
          go_wp2_with (at_builtin; refine wpList_append_far rfl _ _ rfl w.heap.size _ P rfl HO2.out _ rfl HC1.out HB2.out.size ?_; intro v7 w7 hO7 hg7; rw [HMK.out] at hO7; have HO7 := hid hO7; have HB7 := hid (HB2.out.grown hg7 HB2.out.size HO2.out.ge); have HK7 := hid ((hg7.block G (lt_of_heap HK2.out) (HO2.out.ne HK2.out (by decide))).trans HK2.out); clear hO7 hg7)
          go_roundw
          case rel => exact ⟨k + 1, by omega, by go_num, hid (by rw [HX.out, ← List.append_assoc, ← HPE.out]; exact HO7.out), HB7, HK7⟩
          case measure => simp [intOf]; omega
        · have HMK : Hid (((ByteArray.mk #[32, 45, 43]).extract 2 3 ++ bB (Un.tailT rt.data.toList)).data.toList = Un.rowT ⟨3, rt⟩) := hid (row_app ⟨3, rt⟩)
          have hzz : ¬ (9223372036854775807 < ((ByteArray.mk #[32, 45, 43]).extract 2 3).size + (bB (Un.tailT rt.data.toList)).size) := by
            rw [show ((ByteArray.mk #[32, 45, 43]).extract 2 3).size = 1 from rfl, bB_size]
            omega
          have hss : ((ByteArray.mk #[32, 45, 43]).extract 2 3 ++ bB (Un.tailT rt.data.toList)).size = 1 + (bB (Un.tailT rt.data.toList)).size := by
            rw [ByteArray.size_append, show ((ByteArray.mk #[32, 45, 43]).extract 2 3).size = 1 from rfl]
          have HSS := hid hss
          have HTT : Hid ((bB (Un.tailT rt.data.toList)).size ≤ rt.size + 29) := hid (by rw [bB_size]; omega)
          generalize bB (Un.tailT rt.data.toList) = TL at HMK hzz HSS HTT HTL
          clear hss htn
          go_wp2_with fail
          go_quiet (fail)
          have HB2 := hid (below_drewN HB.out nq)
          have hdr : Below wr.heap.size wr (wr.drewN nq) := below_drewN (Below.refl _ _) nq
          have HO2 := hid (HO.out.below hdr)
          have HK2 := hid ((hdr.block G (lt_of_heap HKr.out)).trans HKr.out)
          have c5 : (wr.drewN nq).cell? ⟨G, 5, none⟩ = some (.slice (some ⟨b2, o2, none⟩) N vc) := cell_of_blk HK2.out 5
          have d3 := (hdr.cell (p := ⟨b2, o2 + k * 2 + 1, none⟩) HLB.out).trans D1.out
          clear hdr HO HB
          generalize wr.drewN nq = wd at HB2 HO2 HK2 c5 d3 ⊢
          go_wp2_with fail
          refine (HTL.out _).mono ?_
          rintro e w2 ⟨rfl, rfl⟩
          clear c5 d3
          have hc1 : P.length + ((ByteArray.mk #[32, 45, 43]).extract 2 3 ++ TL).size ≤ 140737488355328 := by have h1 := HSS.out; have h2 := HTT.out; have h3 := HPL.out; omega
          have HC1 := hid hc1
          clear hc1
          go_wp2_with (at_builtin; refine wpList_append_far rfl _ _ rfl w.heap.size _ P rfl HO2.out _ rfl HC1.out HB2.out.size ?_; intro v7 w7 hO7 hg7; rw [HMK.out] at hO7; have HO7 := hid hO7; have HB7 := hid (HB2.out.grown hg7 HB2.out.size HO2.out.ge); have HK7 := hid ((hg7.block G (lt_of_heap HK2.out) (HO2.out.ne HK2.out (by decide))).trans HK2.out); clear hO7 hg7)
          go_roundw
          case rel => exact ⟨k + 1, by omega, by go_num, hid (by rw [HX.out, ← List.append_assoc, ← HPE.out]; exact HO7.out), HB7, HK7⟩
          case measure => simp [intOf]; omega
      · obtain rfl : k = N := by omega
        have HE : Hid (rows.take k = rows) := hid (List.take_of_length_le (by have := HN.out; omega))
        rw [HE.out] at HO
        have hcv := conv_far HO.out
        have i2 : ¬ ((k : Int) < (k : Int)) := by omega
        go_wp2_with fail
        go_ret2
        exact ⟨rfl, HB.out⟩
end Go.Proofs.YtkolgglllladfaaGreatDoor.Ub
/-
  The document's Print (layer 11).
-/
namespace Go.Proofs.YtkolgglllladfaaGreatDoor.Ub
open Go.RowKit
open Hu (Rw Hk)

/-- what a string's bytes, taken as a row, are, and the world behind that -/
def cvV (s : ByteArray) (W : World) : Value := .slice (some ⟨W.heap.size, 0, none⟩) s.size (grownCap W s.size 0 5)
def cvW (s : ByteArray) (W : World) : World := W.drew.alloc (.cells (bytesRow s (grownCap W s.size 0 5)) 5 ((bytesRow s (grownCap W s.size 0 5)).size, (bytesRow s (grownCap W s.size 0 5)).size + 1))
theorem cv_run (s : ByteArray) (W : World) : (convert 9 52 (.string s)).run Tryz.prog W = .ok (cvV s W) (cvW s W) :=
  run_bytes_of_string (P := Tryz.prog) W 9 52 5 s Tryz.underlying9 Tryz.underlying52 Tryz.underlying5
theorem cv_own (s : ByteArray) (W : World) (B : Nat) (hs : s.size ≤ maxLen) (hB : B ≤ W.heap.size) : OwG (cvW s W) B (cvV s W) s.data.toList := OwG.of_string W B s hB hs
theorem cv_below (s : ByteArray) (W : World) : Below W.heap.size W (cvW s W) := (below_drewN (Below.refl _ _) 1).alloc (Nat.le_refl _) _
theorem two_heads (o q : Un.Bs × Un.Bs) : ((⟨#[45, 45, 45, 32]⟩ : ByteArray) ++ bB (shT o) ++ (⟨#[10, 43, 43, 43, 32]⟩ : ByteArray) ++ bB (shT q) ++ (⟨#[10]⟩ : ByteArray)).data.toList = Un.nameT Un.mkOld o ++ 10 :: (Un.nameT Un.mkNew q ++ [10]) := by
  unfold Un.nameT Un.mkOld Un.mkNew shT
  simp [bB]
theorem print_parts (o q : Un.Bs × Un.Bs) (hs : List Hk) : Un.printT o q hs = (Un.nameT Un.mkOld o ++ 10 :: (Un.nameT Un.mkNew q ++ [10])) ++ hs.flatMap Un.hunkT := by
  unfold Un.printT
  simp
theorem sh_len (p s : ByteArray) : (bB (shT (p.data.toList, s.data.toList))).size ≤ 4 * p.size + s.size + 3 := by
  rw [bB_size]
  unfold shT
  have h1 := Pq.quote_len p.data.toList
  rw [dsize] at h1
  have h2 := dsize s
  rw [List.length_append]
  split
  · simp; omega
  · simp; omega
set_option maxHeartbeats 8000000 in
set_option maxRecDepth 100000 in
theorem rPrint_bad {w : World} {v : Value} {hs : List Hk} (p1 s1 p2 s2 : ByteArray) (hr : RdH w v hs) (hz : ∀ h ∈ hs, SzH h) (hn : hs.length ≤ 5000000) (hp1 : p1.size ≤ 1099511627776) (hs1 : s1.size ≤ 1099511627776) (hp2 : p2.size ≤ 1099511627776) (hs2 : s2.size ≤ 1099511627776) (hf : fltN (p1.data.toList, s1.data.toList) (p2.data.toList, s2.data.toList) hs ≠ 0) :
    Calls Tryz.prog 6 #[.agg #[.string p1, .string s1], .agg #[.string p2, .string s2], v] w fun e w' => e = .returned (.tuple #[.string ⟨#[]⟩, .int .i64 (fltN (p1.data.toList, s1.data.toList) (p2.data.toList, s2.data.toList) hs : Nat)]) ∧ Below w.heap.size w w' := by
  have HFL := hid (fun w1 (h1 : Below w.heap.size w w1) => rFaults_any p1 s1 p2 s2 (hr.below h1) hz hn hp1 hs1 hp2 hs2)
  obtain ⟨va, vc, rfl⟩ := hr.shape
  obtain ⟨hb0, k1, k2⟩ := twoF w (.cells #[.string p1, .string s1] 23) (.cells #[.string p2, .string s2] 23)
  have HB0 := hid hb0
  have K1 := hid k1
  have K2 := hid k2
  obtain ⟨A, hA⟩ : ∃ A, A = w.heap.size := ⟨_, rfl⟩
  rw [← hA] at K1 K2
  obtain ⟨N, hN⟩ : ∃ N, N = hs.length := ⟨_, rfl⟩
  rw [← hN] at HFL ⊢
  generalize fltN (p1.data.toList, s1.data.toList) (p2.data.toList, s2.data.toList) hs = f at hf HFL ⊢
  have hne : ((f : Int) == 0) = false := beq_eq_false_iff_ne.2 (by omega)
  clear hr hz hn hb0 k1 k2 hf hN
  go_enter Tryz.func6, Tryz.ntmps6
  go_wp2_with fail
  rw [← hA]
  clear hA
  generalize (w.alloc (.cells #[.string p1, .string s1] 23)).alloc (.cells #[.string p2, .string s2] 23) = w0 at HB0 K1 K2 ⊢
  have c0 : w0.cell? ⟨A, 0, none⟩ = some (.string p1) := cell_of_blk K1.out 0
  have c1 : w0.cell? ⟨A, 1, none⟩ = some (.string s1) := cell_of_blk K1.out 1
  have c2 : w0.cell? ⟨A + 1, 0, none⟩ = some (.string p2) := cell_of_blk K2.out 0
  have c3 : w0.cell? ⟨A + 1, 1, none⟩ = some (.string s2) := cell_of_blk K2.out 1
  go_wp2_with fail
  refine (HFL.out w0 HB0.out).mono ?_
  rintro e w1 ⟨rfl, hb1⟩
  have HB1 := hid (HB0.out.trans (hb1.mono HB0.out.size))
  clear hb1 c0 c1 c2 c3
  go_wp2_with fail
  go_ret2
  exact ⟨rfl, HB1.out⟩
set_option maxHeartbeats 8000000 in
set_option maxRecDepth 100000 in
theorem rPrint_ok {w : World} {v : Value} {hs : List Hk} (p1 s1 p2 s2 : ByteArray) (hr : RdH w v hs) (hz : ∀ h ∈ hs, SzH h) (ht : ∀ h ∈ hs, ∀ r ∈ h.rows, r.t.size ≤ 1099511627776) (hn : hs.length ≤ 5000000) (hp1 : p1.size ≤ 1099511627776) (hs1 : s1.size ≤ 1099511627776) (hp2 : p2.size ≤ 1099511627776) (hs2 : s2.size ≤ 1099511627776) (hf : fltN (p1.data.toList, s1.data.toList) (p2.data.toList, s2.data.toList) hs = 0) (hl : (hs.flatMap Un.hunkT).length ≤ 90000000000000) :
    Calls Tryz.prog 6 #[.agg #[.string p1, .string s1], .agg #[.string p2, .string s2], v] w fun e w' => e = .returned (.tuple #[.string (bB (Un.printT (p1.data.toList, s1.data.toList) (p2.data.toList, s2.data.toList) hs)), .int .i64 0]) ∧ Below w.heap.size w w' := by
  have HFL := hid (fun w1 (h1 : Below w.heap.size w w1) => rFaults_any p1 s1 p2 s2 (hr.below h1) hz hn hp1 hs1 hp2 hs2)
  have hall := (chk_yes (flt_yes hf).2.2).1
  have HVL : Hid (∀ h ∈ hs, Hu.vld h = true) := hid (fun h hh => List.all_eq_true.1 hall h hh)
  have HZ := hid hz
  have HTT := hid ht
  obtain ⟨va, vc, rfl⟩ := hr.shape
  obtain ⟨hb0, k1, k2⟩ := twoF w (.cells #[.string p1, .string s1] 23) (.cells #[.string p2, .string s2] 23)
  have HB0 := hid hb0
  have K1 := hid k1
  have K2 := hid k2
  obtain ⟨A, hA⟩ : ∃ A, A = w.heap.size := ⟨_, rfl⟩
  rw [← hA] at K1 K2
  obtain ⟨N, hN⟩ : ∃ N, N = hs.length := ⟨_, rfl⟩
  have HN := hid hN
  have HR : Hid (RdH w (.slice va N vc) hs) := hid (by rw [hN]; exact hr)
  rw [← hN] at HFL hn ⊢
  rw [hf] at HFL
  have HH1 := hid (fun w1 => rShown_any p1 s1 w1 hp1 hs1)
  have HH2 := hid (fun w1 => rShown_any p2 s2 w1 hp2 hs2)
  have lx := sh_len p1 s1
  have ly := sh_len p2 s2
  have hth := two_heads (p1.data.toList, s1.data.toList) (p2.data.toList, s2.data.toList)
  rw [print_parts]
  obtain ⟨PT, hPT⟩ : ∃ PT, PT = Un.nameT Un.mkOld (p1.data.toList, s1.data.toList) ++ 10 :: (Un.nameT Un.mkNew (p2.data.toList, s2.data.toList) ++ [10]) := ⟨_, rfl⟩
  rw [← hPT] at hth ⊢
  generalize bB (shT (p1.data.toList, s1.data.toList)) = X at HH1 lx hth
  generalize bB (shT (p2.data.toList, s2.data.toList)) = Y at HH2 ly hth
  have HTH := hid hth
  have hmx : ((⟨#[45, 45, 45, 32]⟩ : ByteArray) ++ X ++ (⟨#[10, 43, 43, 43, 32]⟩ : ByteArray) ++ Y ++ (⟨#[10]⟩ : ByteArray)).size ≤ 20000000000000 := by
    simp only [ByteArray.size_append]
    have e1 : (⟨#[45, 45, 45, 32]⟩ : ByteArray).size = 4 := rfl
    have e2 : (⟨#[10, 43, 43, 43, 32]⟩ : ByteArray).size = 5 := rfl
    have e3 : (⟨#[10]⟩ : ByteArray).size = 1 := rfl
    omega
  have hPL : PT.length ≤ 20000000000000 := by rw [← hth, dsize]; exact hmx
  have HPL := hid hPL
  have HLL := hid hl
  have HMX : Hid (((⟨#[45, 45, 45, 32]⟩ : ByteArray) ++ X ++ (⟨#[10, 43, 43, 43, 32]⟩ : ByteArray) ++ Y ++ (⟨#[10]⟩ : ByteArray)).size ≤ maxLen) := hid (Nat.le_trans hmx (by decide))
  have z1 : ¬ (9223372036854775807 < 4 + X.size) := by omega
  have z2 : ¬ (9223372036854775807 < 4 + X.size + 5) := by omega
  have z3 : ¬ (9223372036854775807 < 4 + X.size + 5 + Y.size) := by omega
  have z4 : ¬ (9223372036854775807 < 4 + X.size + 5 + Y.size + 1) := by omega
  clear hr hz hb0 k1 k2 hf hN hPT hmx hPL hth ht hl hall
  go_enter Tryz.func6, Tryz.ntmps6
  go_wp2_with fail
  rw [← hA]
  clear hA
  generalize (w.alloc (.cells #[.string p1, .string s1] 23)).alloc (.cells #[.string p2, .string s2] 23) = w0 at HB0 K1 K2 ⊢
  have c0 : w0.cell? ⟨A, 0, none⟩ = some (.string p1) := cell_of_blk K1.out 0
  have c1 : w0.cell? ⟨A, 1, none⟩ = some (.string s1) := cell_of_blk K1.out 1
  have c2 : w0.cell? ⟨A + 1, 0, none⟩ = some (.string p2) := cell_of_blk K2.out 0
  have c3 : w0.cell? ⟨A + 1, 1, none⟩ = some (.string s2) := cell_of_blk K2.out 1
  go_wp2_with fail
  refine (HFL.out w0 HB0.out).mono ?_
  rintro e w1 ⟨rfl, hb1⟩
  have HB1 := hid (HB0.out.trans (hb1.mono HB0.out.size))
  have J1 := hid ((hb1.block _ (lt_of_heap K1.out)).trans K1.out)
  have J2 := hid ((hb1.block _ (lt_of_heap K2.out)).trans K2.out)
  clear hb1 c0 c1 c2 c3 K1 K2 HB0
  have c0 : w1.cell? ⟨A, 0, none⟩ = some (.string p1) := cell_of_blk J1.out 0
  have c1 : w1.cell? ⟨A, 1, none⟩ = some (.string s1) := cell_of_blk J1.out 1
  have c2 : w1.cell? ⟨A + 1, 0, none⟩ = some (.string p2) := cell_of_blk J2.out 0
  have c3 : w1.cell? ⟨A + 1, 1, none⟩ = some (.string s2) := cell_of_blk J2.out 1
  rw [show ((0 : Nat) : Int) = 0 from rfl]
  go_wp2_with fail
  have hcv := cv_run ((⟨#[45, 45, 45, 32]⟩ : ByteArray) ++ X ++ (⟨#[10, 43, 43, 43, 32]⟩ : ByteArray) ++ Y ++ (⟨#[10]⟩ : ByteArray))
  go_region_held (fun w' => w'.cell? ⟨A, 0, none⟩ = some (.string p1) ∧ w'.cell? ⟨A, 1, none⟩ = some (.string s1) ∧ w'.cell? ⟨A + 1, 0, none⟩ = some (.string p2) ∧ w'.cell? ⟨A + 1, 1, none⟩ = some (.string s2))
    (first
      | go_keep
      | (go_split_ands
         refine ⟨?_, ?_, ?_, ?_⟩ <;> exact (hbk.cell (lt_of_cell (by assumption))).trans (by assumption))
      | (go_split_ands
         refine ⟨?_, ?_, ?_, ?_⟩ <;> exact ((cv_below _ _).cell (lt_of_cell (by assumption))).trans (by assumption)))
    (first
      | (go_at_call 17; have hq := HBB1; refine (HH2.out _).mono ?_; rintro e w3 ⟨rfl, hbk⟩; have HBB2 := hid (hq.out.trans (hbk.mono hq.out.size)); clear hq)
      | (go_at_call 17; refine (HH1.out _).mono ?_; rintro e w2 ⟨rfl, hbk⟩; have HBB1 := hid ((below_drewN HB1.out 1).trans (hbk.mono (below_drewN HB1.out 1).size))))
  have HO4 := hid (cv_own _ w3 w.heap.size HMX.out HBB2.out.size)
  rw [HTH.out] at HO4
  have HB4 := hid (HBB2.out.trans ((cv_below ((⟨#[45, 45, 45, 32]⟩ : ByteArray) ++ X ++ (⟨#[10, 43, 43, 43, 32]⟩ : ByteArray) ++ Y ++ (⟨#[10]⟩ : ByteArray)) w3).mono HBB2.out.size))
  clear HBB2 HBB1 hbk hcv z1 z2 z3 z4 HTH HMX c0 c1 c2 c3 J1 J2 HB1
  generalize cvV ((⟨#[45, 45, 45, 32]⟩ : ByteArray) ++ X ++ (⟨#[10, 43, 43, 43, 32]⟩ : ByteArray) ++ Y ++ (⟨#[10]⟩ : ByteArray)) w3 = v4 at HO4 ⊢
  generalize cvW ((⟨#[45, 45, 45, 32]⟩ : ByteArray) ++ X ++ (⟨#[10, 43, 43, 43, 32]⟩ : ByteArray) ++ Y ++ (⟨#[10]⟩ : ByteArray)) w3 = w4 at HO4 HB4 ⊢
  go_wp2_with fail
  go_loopw [9, 10] (fun bb ii wr => ∃ k : Nat, k ≤ N ∧ ii = .int .i64 k ∧ Hid (OwG wr w.heap.size bb (PT ++ (hs.take k).flatMap Un.hunkT)) ∧ Hid (Below w.heap.size w wr)) (fun _ ii _ => N - (intOf ii).toNat)
  case atStart => exact ⟨0, Nat.zero_le _, rfl, hid (by simpa using HO4.out), HB4⟩
  case round =>
    obtain ⟨k, hk, rfl, HO, HB⟩ := hrel
    clear HO4 HB4
    by_cases hlt : k < N
    · obtain ⟨x, hx⟩ : ∃ x, hs[k]? = some x := ⟨_, List.getElem?_eq_getElem (by have := HN.out; omega)⟩
      obtain ⟨b, o, u, rfl, hb, d0, d1, d2, d3, d4, d5, hu⟩ := rdH_at (HR.out.below HB.out) hx
      obtain ⟨qa, qc, rfl⟩ := hu.shape
      have hmem := List.mem_of_getElem? hx
      have hth := take_hunk hx
      have HX := hid (hunks_take hx)
      have hxl : (Un.hunkT x).length ≤ 90000000000000 := by have := HLL.out; omega
      have HRK := hid (rHunk_ok hu (HZ.out x hmem) (HVL.out x hmem) (HTT.out x hmem) (by omega))
      obtain ⟨P, hP⟩ : ∃ P, P = PT ++ (hs.take k).flatMap Un.hunkT := ⟨_, rfl⟩
      have HPE := hid hP
      rw [← hP] at HO
      have HC1 : Hid (P.length + (bB (Un.hunkT x)).size ≤ 140737488355328) := hid (by have h1 := HPL.out; have h2 := HLL.out; rw [bB_size, hP, List.length_append]; omega)
      unfold HkV at HRK
      generalize hTX : Un.hunkT x = TX at HRK HC1 HX
      obtain ⟨xa, xn, xb, xm, xh, xr⟩ := x
      dsimp only at d0 d1 d2 d3 d4 d5 HRK
      obtain ⟨XL, hXL⟩ : ∃ XL, XL = xr.length := ⟨_, rfl⟩
      rw [← hXL] at d5 HRK
      have i1 : (0 : Int) ≤ (k : Int) := by omega
      have i2 : (k : Int) < (N : Int) := by omega
      clear hx hb hu hmem hth hxl hP hTX hXL
      go_wp2_with fail
      refine HRK.out.mono ?_
      rintro e w5 ⟨rfl, hb5⟩
      have HB5 := hid (HB.out.trans (hb5.mono HB.out.size))
      have HO5 := hid (HO.out.below hb5)
      clear hb5 HB HO HRK d0 d1 d2 d3 d4 d5
      go_wp2_with (at_builtin; refine wpList_append_far rfl _ _ rfl w.heap.size _ P rfl HO5.out _ rfl HC1.out HB5.out.size ?_; intro v7 w7 hO7 hg7; rw [bB_data] at hO7; have HO7 := hid hO7; have HB7 := hid (HB5.out.grown hg7 HB5.out.size HO5.out.ge); clear hO7 hg7)
      go_roundw
      case rel => exact ⟨k + 1, by omega, by go_num, hid (by rw [HX.out, ← List.append_assoc, ← HPE.out]; exact HO7.out), HB7⟩
      case measure => simp [intOf]; omega
    · obtain rfl : k = N := by omega
      have HE : Hid (hs.take k = hs) := hid (List.take_of_length_le (by have := HN.out; omega))
      rw [HE.out] at HO
      have hcv := conv_far HO.out
      have i2 : ¬ ((k : Int) < (k : Int)) := by omega
      go_wp2_with fail
      go_ret2
      exact ⟨rfl, HB.out⟩
end Go.Proofs.YtkolgglllladfaaGreatDoor.Ub
/-
  The program's Hunk (layer 11).
-/
namespace Go.Proofs.YtkolgglllladfaaGreatDoor.Ub
open Go.RowKit
open Hu (Rw Hk)

theorem one_rd {w : World} {g : Nat} {h : Hk} {v : Value} (h1 : w.heap[g]? = some (.cells #[.int .i64 h.a, .int .i64 h.n, .int .i64 h.b, .int .i64 h.m, .string h.head, v] 37)) (h2 : RdW w v h.rows) : RdH w (.slice (some ⟨g, 0, none⟩) 1 1) [h] := by
  refine ⟨[(h, v)], rfl, .inr ⟨g, 0, 1, rfl, Nat.le_refl _, lt_of_heap h1, fun j u hj => ?_⟩, fun q hq => ?_⟩
  · rw [Nat.zero_add, cell_of_blk h1 j]
    rw [← hj, ← Array.getElem?_toList]
    rfl
  · rw [List.mem_singleton.1 hq]
    exact h2
theorem chk_one (h : Hk) : chkN [h] = if Hu.vld h = true then 0 else 100 := by
  unfold chkN
  cases hv : Hu.vld h with
  | true => rw [if_pos (by rw [List.all_cons, hv]; rfl), if_pos rfl]; rfl
  | false => rw [if_neg (by rw [List.all_cons, hv]; simp), if_neg (by simp)]
set_option maxHeartbeats 8000000 in
set_option maxRecDepth 100000 in
theorem uHunk_bad {w : World} {h : Hk} {v : Value} (hr : RdW w v h.rows) (hz : SzH h) (hv : Hu.vld h = false) :
    Calls Tryz.prog 9 #[HkV h v] w fun e w' => e = .returned (.tuple #[.string ⟨#[]⟩, .iface 42 (.int .i64 100)]) ∧ Below w.heap.size w w' := by
  obtain ⟨va, vc, rfl⟩ := hr.shape
  have hch := chk_one h
  rw [if_neg (by rw [hv]; simp)] at hch
  have HCK := hid (fun (w1 : World) (g : Nat) (hb : Below w.heap.size w w1) (hk : w1.heap[g]? = some (.cells #[.int .i64 h.a, .int .i64 h.n, .int .i64 h.b, .int .i64 h.m, .string h.head, .slice va h.rows.length vc] 37)) => check_any (one_rd hk (RdX.below hr hb)) (by simp) (fun x hx => by rw [List.mem_singleton.1 hx]; exact hz))
  rw [hch, show errV 100 = .iface 42 (.int .i64 100) from rfl] at HCK
  unfold HkV
  obtain ⟨ha, hn, hb, hm, hh, rows⟩ := h
  dsimp only at HCK ⊢
  obtain ⟨hb0, k1, k2⟩ := twoF w (.cells #[.int .i64 ha, .int .i64 hn, .int .i64 hb, .int .i64 hm, .string hh, .slice va rows.length vc] 37) (.cells #[.int .i64 ha, .int .i64 hn, .int .i64 hb, .int .i64 hm, .string hh, .slice va rows.length vc] 37)
  have HB0 := hid hb0
  have K2 := hid k2
  obtain ⟨A, hA⟩ : ∃ A, A = w.heap.size := ⟨_, rfl⟩
  rw [← hA] at K2
  clear hr hz hv hch hb0 k1 k2
  go_enter Tryz.func9, Tryz.ntmps9
  go_wp2_with fail
  rw [← hA]
  clear hA
  generalize (w.alloc (.cells #[.int .i64 ha, .int .i64 hn, .int .i64 hb, .int .i64 hm, .string hh, .slice va rows.length vc] 37)).alloc (.cells #[.int .i64 ha, .int .i64 hn, .int .i64 hb, .int .i64 hm, .string hh, .slice va rows.length vc] 37) = w1 at HB0 K2 ⊢
  refine (HCK.out w1 _ HB0.out K2.out).mono ?_
  rintro e w2 ⟨rfl, hb2⟩
  have HB2 := hid (HB0.out.trans (hb2.mono HB0.out.size))
  clear hb2
  go_wp2_with fail
  go_ret2
  exact ⟨rfl, HB2.out⟩
set_option maxHeartbeats 8000000 in
set_option maxRecDepth 100000 in
theorem uHunk_ok {w : World} {h : Hk} {v : Value} (hr : RdW w v h.rows) (hz : SzH h) (hp : PowV w) (hv : Hu.vld h = true) (hl : (Un.hunkT h).length ≤ 100000000000000) :
    Calls Tryz.prog 9 #[HkV h v] w fun e w' => e = .returned (.tuple #[.string (bB (Un.hunkT h)), .nilIface]) ∧ Below w.heap.size w w' := by
  obtain ⟨va, vc, rfl⟩ := hr.shape
  have hch := chk_one h
  rw [if_pos hv] at hch
  have HCK := hid (fun (w1 : World) (g : Nat) (hb : Below w.heap.size w w1) (hk : w1.heap[g]? = some (.cells #[.int .i64 h.a, .int .i64 h.n, .int .i64 h.b, .int .i64 h.m, .string h.head, .slice va h.rows.length vc] 37)) => check_any (one_rd hk (RdX.below hr hb)) (by simp) (fun x hx => by rw [List.mem_singleton.1 hx]; exact hz))
  rw [hch, show errV 0 = .nilIface from rfl] at HCK
  have h3 : 3 ≤ w.heap.size := Nat.succ_le_of_lt hp.lt
  have HWH := hid (fun (w1 : World) (b : Nat) (h1 : BfAt b b [] w1) (h2 : b ≤ w1.heap.size) (h4 : w.heap.size ≤ b) (h5 : Below w.heap.size w w1) => writeHunk_any (h := h) (v := .slice va h.rows.length vc) h1 h2 (Nat.le_trans h3 h4) (hp.below h5 h3) (fun w' hb => RdX.below hr (h5.trans (hb.mono h4))) (vld_sm hv) (vld_kinds hv) (Nat.le_of_lt hz.1) (by show 0 + _ + 40 ≤ _; omega))
  unfold HkV at HWH ⊢
  generalize Un.hunkT h = T at HWH ⊢
  obtain ⟨ha, hn, hb, hm, hh, rows⟩ := h
  dsimp only at HCK HWH ⊢
  generalize rows.length = RL at HCK HWH ⊢
  obtain ⟨hb0, k1, k2⟩ := twoF w (.cells #[.int .i64 ha, .int .i64 hn, .int .i64 hb, .int .i64 hm, .string hh, .slice va RL vc] 37) (.cells #[.int .i64 ha, .int .i64 hn, .int .i64 hb, .int .i64 hm, .string hh, .slice va RL vc] 37)
  have HB0 := hid hb0
  have K1 := hid k1
  have K2 := hid k2
  obtain ⟨A, hA⟩ : ∃ A, A = w.heap.size := ⟨_, rfl⟩
  rw [← hA] at K1 K2
  clear hr hz hv hch hb0 k1 k2 hp h3 hl
  go_enter Tryz.func9, Tryz.ntmps9
  go_wp2_with fail
  rw [← hA]
  clear hA
  generalize (w.alloc (.cells #[.int .i64 ha, .int .i64 hn, .int .i64 hb, .int .i64 hm, .string hh, .slice va RL vc] 37)).alloc (.cells #[.int .i64 ha, .int .i64 hn, .int .i64 hb, .int .i64 hm, .string hh, .slice va RL vc] 37) = w1 at HB0 K1 K2 ⊢
  refine (HCK.out w1 _ HB0.out K2.out).mono ?_
  rintro e w2 ⟨rfl, hb2⟩
  have HB2 := hid (HB0.out.trans (hb2.mono HB0.out.size))
  have J1 := hid ((hb2.block A (lt_of_heap K1.out)).trans K1.out)
  clear hb2 HB0 K1 K2
  have hb3 := (Below.refl w2.heap.size w2).alloc (Nat.le_refl _) (.cells #[.pointer none, .slice none 0 0] 60)
  have HB3 := hid (HB2.out.trans (hb3.mono HB2.out.size))
  have L1 := hid ((hb3.block A (lt_of_heap J1.out)).trans J1.out)
  have HF3 : Hid (BfAt w2.heap.size w2.heap.size [] (w2.alloc (.cells #[.pointer none, .slice none 0 0] 60))) := hid (Lib.IsBuilderF.of (Cx.fresh_builder w2))
  have HS3 : Hid (w2.heap.size ≤ (w2.alloc (.cells #[.pointer none, .slice none 0 0] 60)).heap.size) := hid hb3.size
  have c0 : (w2.alloc (.cells #[.pointer none, .slice none 0 0] 60)).cell? ⟨A, 0, none⟩ = some (.int .i64 ha) := cell_of_blk L1.out 0
  have c1 : (w2.alloc (.cells #[.pointer none, .slice none 0 0] 60)).cell? ⟨A, 1, none⟩ = some (.int .i64 hn) := cell_of_blk L1.out 1
  have c2 : (w2.alloc (.cells #[.pointer none, .slice none 0 0] 60)).cell? ⟨A, 2, none⟩ = some (.int .i64 hb) := cell_of_blk L1.out 2
  have c3 : (w2.alloc (.cells #[.pointer none, .slice none 0 0] 60)).cell? ⟨A, 3, none⟩ = some (.int .i64 hm) := cell_of_blk L1.out 3
  have c4 : (w2.alloc (.cells #[.pointer none, .slice none 0 0] 60)).cell? ⟨A, 4, none⟩ = some (.string hh) := cell_of_blk L1.out 4
  have c5 : (w2.alloc (.cells #[.pointer none, .slice none 0 0] 60)).cell? ⟨A, 5, none⟩ = some (.slice va RL vc) := cell_of_blk L1.out 5
  clear hb3
  go_wp2_with fail
  clear c0 c1 c2 c3 c4 c5
  obtain ⟨b, hb'⟩ : ∃ b, b = w2.heap.size := ⟨_, rfl⟩
  have HBb : Hid (w.heap.size ≤ b) := hid (by rw [hb']; exact HB2.out.size)
  rw [← hb'] at HF3 HS3 ⊢
  clear hb'
  generalize w2.alloc (.cells #[.pointer none, .slice none 0 0] 60) = w3 at HB3 L1 HF3 HS3 ⊢
  refine (HWH.out w3 b HF3.out HS3.out HBb.out HB3.out).mono ?_
  rintro e w4 ⟨rfl, hf4, hfr⟩
  rw [List.nil_append] at hf4
  have HF4 := hid hf4
  have HB4 := hid (HB3.out.trans (hfr.below.mono HBb.out))
  have HST := hid (str_any hf4 (Nat.le_trans HS3.out hfr.below.size))
  clear hf4 hfr
  go_wp2_with fail
  refine HST.out.mono ?_
  rintro e w5 ⟨rfl, hb5⟩
  have HB5 := hid (HB4.out.trans (hb5.mono HBb.out))
  clear hb5
  go_wp2_with fail
  go_ret2
  exact ⟨rfl, HB5.out⟩
end Go.Proofs.YtkolgglllladfaaGreatDoor.Ub
/-
  The law's twin (layer 11): hunks with memory of their own. (Made by wip/genqf.py.)
-/
namespace Go.Proofs.YtkolgglllladfaaGreatDoor.Ub
open Go.RowKit
open Hu (Rw Hk)

theorem wpList_append_newU {w : World} {ops : Array Oper} {rest : List Oper} {o : Oper} {a : Act} {Q : Exit → Act → World → Prop} (hgd : o.guard = none) (s x : Operand) (t e : TypeId)
    (ho : o.op = .call { callee := .builtin .append, args := #[s, x], argTypes := #[t, t] }) {z : Value} {sz bytes : Nat} (hu : Tryz.prog.underlying t = some (.slice e)) (hinf : (Tryz.prog.info? e).map (fun i => (i.zero, i.size, i.bytes)) = some (some z, sz, bytes)) (hzc : z.cells.size = sz) (hsz : 0 < sz)
    (hs : a.eval s = .slice none 0 0) (u : Value) (n : Nat) (cs : List Value) (hx : a.eval x = u) (hr : RdX w u n cs) (hA : ArgS u) (hlen : cs.length = n * sz) (h1 : ∀ y ∈ cs, y.oneCell' = true) (h63 : n ≤ maxLen) (hby : n * bytes ≤ 140737488355328)
    (h : ∀ v' w', w'.ownsRow w.heap.size e sz v' n cs → Below w.heap.size w w' → wpList Tryz.prog ops Q rest (a.put o.dst v') w') : wpList Tryz.prog ops Q (o :: rest) a w :=
  wpList_plain hgd fun _ hK => by
    obtain ⟨i0, hi, hz0, hz1, hz2⟩ := info_parts hinf
    have hown0 : w.ownsRow w.heap.size e sz (.slice none 0 0) 0 [] := World.ownsRow_nil _ _ _ _
    have hrun : ∃ v' w', (Builtin.append_ #[t, t] o.type #[.slice none 0 0, u]).run Tryz.prog w = .ok v' w' ∧ w'.ownsRow w.heap.size e sz v' n cs ∧ Below w.heap.size w w' := by
      rcases hA with rfl | ⟨ad, n', c, rfl⟩
      · rcases hr with ⟨rfl, _⟩ | ⟨b, o', c, hv, _⟩
        · have hcs : cs = [] := List.length_eq_zero_iff.1 (by rw [hlen]; simp)
          subst hcs
          exact ⟨_, _, run_append_owned_none (P := Tryz.prog) (w := w) w.heap.size t o.type e i0 sz hu hi _ 0 [] hown0, hown0, Below.refl _ _⟩
        · cases hv
      · have hnn : n' = n ∧ ∀ j y, cs[j]? = some y → w.cell? (ad.add j) = some y := by
          rcases hr with ⟨rfl, a', c', hv⟩ | ⟨b, o', c', hv, _, _, hX⟩
          · cases hv
            have hcs : cs = [] := List.length_eq_zero_iff.1 (by rw [hlen]; simp)
            subst hcs
            exact ⟨rfl, fun j y hj => by simp at hj⟩
          · cases hv
            refine ⟨rfl, fun j y hj => ?_⟩
            rw [Go.WideShapes.add_plain]
            exact hX j y hj
        obtain ⟨rfl, hnews⟩ := hnn
        obtain ⟨v', w', hr', h2, h3, _⟩ := run_append_own (P := Tryz.prog) w w.heap.size t o.type e i0 z sz bytes hu hi hz0 hz1 hz2 hzc hsz _ 0 [] hown0 ad n' c cs hlen hnews h1 (by omega) (by rw [Nat.zero_add]; exact hby) (Nat.le_refl _)
        exact ⟨v', w', hr', by simpa using h2, (Below.refl _ _).grown h3 (Nat.le_refl _) (fun k hk => by cases hk)⟩
    obtain ⟨v', w', hrun, h2, h3⟩ := hrun
    unfold Oper.wp execOp
    simp only [ho, resolve, invoke, builtin, Sem.run_bind, Sem.run_pure, Result.andThen_ok, List.map_toArray, List.map_cons, List.map_nil, hs, hx, hrun]
    exact hK _ _ (h v' w' h2 h3)
theorem alloc_set (w : World) (g k : Nat) (u : Value) (o : Obj) : ((w.setCell ⟨g, k, none⟩ u).alloc o).heap[w.heap.size]? = some o := by
  have h := heap_alloc_new (w.setCell ⟨g, k, none⟩ u) o
  have e : (w.setCell ⟨g, k, none⟩ u).heap.size = w.heap.size := by simp [World.setCell]
  rwa [e] at h
theorem take_moreH {l : List Hk} {k : Nat} {x : Hk} (h : l[k]? = some x) : l.take (k + 1) = l.take k ++ [x] := by
  rw [List.take_add_one, h]; rfl
set_option maxHeartbeats 8000000 in
set_option maxRecDepth 100000 in
theorem twin_any {w : World} {v : Value} {l : List Hk} (hv : RdH w v l) (hA : ArgH w v l.length) (hl : l.length ≤ 5000000) (hz : ∀ h ∈ l, SzH h) :
    Calls Tryz.prog 4 #[v] w fun e w' => ∃ v', e = .returned v' ∧ OwnH w' w.heap.size v' l ∧ Below w.heap.size w w' := by
  obtain ⟨av, cv, rfl⟩ := hv.shape
  have HV := hid hv
  have HA := hid hA
  have HZ := hid hz
  obtain ⟨n, hn⟩ : ∃ n, n = l.length := ⟨_, rfl⟩
  have HN := hid hn
  rw [← hn] at HV HA hl ⊢
  clear hv hn hz hA
  go_enter Tryz.func4, Tryz.ntmps4
  go_wp2_with fail
  go_loopw [3, 4] (fun vo ii wr => ∃ (k : Nat) (X : List Hk), k ≤ n ∧ ii = .int .i64 k ∧ Hid (X.length = k) ∧ Hid (X = l.take k) ∧ Hid (OwnH wr w.heap.size vo X) ∧ Hid (Below w.heap.size w wr)) (fun _ ii _ => n - (intOf ii).toNat)
  case atStart => exact ⟨0, [], Nat.zero_le _, rfl, hid rfl, hid rfl, hid (OwnH.nil _ _), hid (Below.refl _ _)⟩
  case round =>
    obtain ⟨k, X, hk, rfl, hX, HX, HO, HB⟩ := hrel
    obtain ⟨ao, co, rfl⟩ := HO.out.shape
    by_cases hlt : k < n
    · obtain ⟨x, hx⟩ : ∃ x, l[k]? = some x := ⟨_, List.getElem?_eq_getElem (by have := HN.out; omega)⟩
      obtain ⟨b1, o1, u, e1, hb1, d0, d1, d2, d3, d4, d5, hu⟩ := rdH_at HV.out hx
      subst e1
      have HAU := hid (HA.out b1 o1 _ _ rfl k hlt u d5)
      have hb1' : b1 < wr.heap.size := Nat.lt_of_lt_of_le hb1 HB.out.size
      replace d0 := (HB.out.cell (p := ⟨b1, _, none⟩) hb1).trans d0
      replace d1 := (HB.out.cell (p := ⟨b1, _, none⟩) hb1).trans d1
      replace d2 := (HB.out.cell (p := ⟨b1, _, none⟩) hb1).trans d2
      replace d3 := (HB.out.cell (p := ⟨b1, _, none⟩) hb1).trans d3
      replace d4 := (HB.out.cell (p := ⟨b1, _, none⟩) hb1).trans d4
      replace d5 := (HB.out.cell (p := ⟨b1, _, none⟩) hb1).trans d5
      have HSX := hid (HZ.out x (List.mem_of_getElem? hx))
      have HX2 : Hid (X ++ [x] = l.take (k + 1)) := hid (by rw [HX.out, take_moreH hx])
      have i1 : (0 : Int) ≤ (k : Int) := by omega
      have i2 : (k : Int) < (n : Int) := by omega
      obtain ⟨xa, xn, xb, xm, xh, xr⟩ := x
      dsimp only at d0 d1 d2 d3 d4 d5 hu
      obtain ⟨ua, uc, rfl⟩ := hu.shape
      have hxl := HSX.out.1
      dsimp only at hxl
      obtain ⟨XL, hXL⟩ : ∃ XL, XL = xr.length := ⟨_, rfl⟩
      have HXO := hid hXL
      have HXC : Hid ((rwsC xr).length = XL * 2) := hid (by rw [hXL]; exact rwsC_length xr)
      have hbA := (Below.refl wr.heap.size wr).alloc (Nat.le_refl _) (.cells #[.int .i64 xa, .int .i64 xn, .int .i64 xb, .int .i64 xm, .string xh, .slice ua xr.length uc] 37)
      have hkA := heap_alloc_new wr (.cells #[.int .i64 xa, .int .i64 xn, .int .i64 xb, .int .i64 xm, .string xh, .slice ua xr.length uc] 37)
      have HRA : Hid (RdX (wr.alloc (.cells #[.int .i64 xa, .int .i64 xn, .int .i64 xb, .int .i64 xm, .string xh, .slice ua XL uc] 37)) (.slice ua XL uc) XL (rwsC xr)) := hid (by rw [hXL]; exact RdX.below (RdX.below hu HB.out) hbA)
      rw [← hXL] at hbA hkA HAU d5 hxl
      have HBA := hid hbA
      have HKA := hid hkA
      have HV1 : Hid (wr.heap.size < (wr.alloc (.cells #[.int .i64 xa, .int .i64 xn, .int .i64 xb, .int .i64 xm, .string xh, .slice ua XL uc] 37)).heap.size) := hid (lt_of_heap hkA)
      have e5 := (hbA.cell (p := ⟨b1, o1 + k * 6 + 5, none⟩) hb1').trans d5
      have hXl : X.length < 1954687338260 := by have := hX.out; omega
      clear hx hb1 hb1' hu hbA hkA hXL
      go_wp2_with (first | (at_builtin; have HQ := HB4; refine wpList_append_hk rfl _ _ rfl w.heap.size _ X rfl HO4.out w2.heap.size ⟨xa, xn, xb, xm, xh, xr⟩ (.slice a2 XL c2) rfl (alloc_set w2 _ _ _ (.cells #[.int .i64 xa, .int .i64 xn, .int .i64 xb, .int .i64 xm, .string xh, .slice a2 XL c2] 37)) HR4.out hXl HQ.out.size ?_; intro v8 w8 hO8 hb8; have HO8 := hid hO8; have HB8 := hid (HQ.out.trans hb8); clear hO8 hb8) | (at_builtin; refine wpList_append_newU rfl _ _ 35 57 rfl Tryz.underlying35 Tryz.infoRow rfl (by decide) rfl _ XL (rwsC xr) rfl HRA.out HAU.out HXC.out (rwsC_one xr) (by unfold maxLen; omega) (by omega) ?_; intro v2 w2 hO2 hb2; obtain ⟨a2, c2, rfl⟩ := own_shape hO2; have HBA2 : Hid (Below wr.heap.size wr w2) := hid (HBA.out.trans (hb2.mono HBA.out.size)); have HK2 := hid ((hb2.block wr.heap.size (lt_of_heap HKA.out)).trans HKA.out); have f5 : w2.frozen? ⟨wr.heap.size, 5, none⟩ = false := frozen_of_blk HK2.out 5; have k5 : w2.cell? ⟨wr.heap.size, 5, none⟩ = some (.slice ua XL uc) := cell_of_blk HK2.out 5; have HK3 := hid (set_heap w2 wr.heap.size 5 _ _ (.slice a2 XL c2) HK2.out); have m0 : (w2.setCell ⟨wr.heap.size, 5, none⟩ (.slice a2 XL c2)).cell? ⟨wr.heap.size, 0, none⟩ = some (.int .i64 xa) := cell_of_blk HK3.out 0; have m1 : (w2.setCell ⟨wr.heap.size, 5, none⟩ (.slice a2 XL c2)).cell? ⟨wr.heap.size, 1, none⟩ = some (.int .i64 xn) := cell_of_blk HK3.out 1; have m2 : (w2.setCell ⟨wr.heap.size, 5, none⟩ (.slice a2 XL c2)).cell? ⟨wr.heap.size, 2, none⟩ = some (.int .i64 xb) := cell_of_blk HK3.out 2; have m3 : (w2.setCell ⟨wr.heap.size, 5, none⟩ (.slice a2 XL c2)).cell? ⟨wr.heap.size, 3, none⟩ = some (.int .i64 xm) := cell_of_blk HK3.out 3; have m4 : (w2.setCell ⟨wr.heap.size, 5, none⟩ (.slice a2 XL c2)).cell? ⟨wr.heap.size, 4, none⟩ = some (.string xh) := cell_of_blk HK3.out 4; have m5 : (w2.setCell ⟨wr.heap.size, 5, none⟩ (.slice a2 XL c2)).cell? ⟨wr.heap.size, 5, none⟩ = some (.slice a2 XL c2) := cell_of_blk HK3.out 5; have HBA3 : Hid (Below wr.heap.size wr (w2.setCell ⟨wr.heap.size, 5, none⟩ (.slice a2 XL c2))) := hid (below_set HBA2.out (Nat.le_refl _)); have HBA4 : Hid (Below wr.heap.size wr ((w2.setCell ⟨wr.heap.size, 5, none⟩ (.slice a2 XL c2)).alloc (.cells #[.int .i64 xa, .int .i64 xn, .int .i64 xb, .int .i64 xm, .string xh, .slice a2 XL c2] 37))) := hid (HBA3.out.alloc HBA3.out.size _); have HO4 := hid (HO.out.stays HBA4.out); have HR4 : Hid (OwnW ((w2.setCell ⟨wr.heap.size, 5, none⟩ (.slice a2 XL c2)).alloc (.cells #[.int .i64 xa, .int .i64 xn, .int .i64 xb, .int .i64 xm, .string xh, .slice a2 XL c2] 37)) w.heap.size (.slice a2 XL c2) xr) := hid (own_mono (own_stays (ownsRow_setCell_below (HXO.out ▸ hO2) HV1.out _) ((Below.refl _ _).alloc (Nat.le_refl _) _)) (Nat.le_trans HB.out.size HBA.out.size)); have HB4 := hid (HB.out.trans (HBA4.out.mono HB.out.size)); clear hO2 hb2))
      go_roundw
      case rel => exact ⟨k + 1, X ++ [⟨xa, xn, xb, xm, xh, xr⟩], by omega, by go_num, hid (by rw [List.length_append, List.length_singleton, hX.out]), HX2, HO8, HB8⟩
      case measure => simp [intOf]; omega
    · obtain rfl : k = n := by omega
      have HE : Hid (X = l) := hid (by rw [HX.out]; exact List.take_of_length_le (by have := HN.out; omega))
      go_wp2_with fail
      go_ret
      exact ⟨_, rfl, HE.out ▸ HO.out, HB.out⟩
end Go.Proofs.YtkolgglllladfaaGreatDoor.Ub
/-
  What the law UnifiedPrints wants besides: names and hunks as arguments, by their bulk; both sides' answers in one form.
-/
namespace Go.Proofs.YtkolgglllladfaaGreatDoor.Ub
open Go.RowKit Go.Deep Go.ChangeShapes Go.WideShapes Go.ChangeAt
open Hu (Rw Hk)

theorem open_nm {H : Type} {enc : TypeId × Value → H} {W : World} {v : Value} {d : DataW H} {p : List MemPlace} (h : DataW.Trod enc Tryz.prog W 0 (fun _ => true) true 23 v d p) :
    ∃ a b : ByteArray, v = .agg #[.string a, .string b] ∧ a.size + b.size ≤ Rows.uptoBulk d := by
  obtain ⟨fuel, hf⟩ := h
  have hC : Tryz.prog.cellsOf 23 = 2 := by kernel_rfl
  obtain ⟨xs, n, _, hx, hl, hlen, hfs⟩ := DataW.trod_struct Tryz.underlying23 hf
  rw [hC] at hl
  obtain ⟨l, hv, hcl⟩ := agg_of (by omega) hl
  rw [hcl] at hf hl
  match l, hl with
  | [w0, w1], _ =>
    obtain ⟨a, b, rfl, rfl, hb⟩ := open_name hf
    exact ⟨a, b, hv, hb⟩
theorem rwW_mem : ∀ {l : List Rw} {r : Rw}, r ∈ l → 1 + r.t.size ≤ rwW l
  | g :: l, r, hm => by
    show _ ≤ 1 + g.t.size + rwW l
    rcases List.mem_cons.1 hm with rfl | hm
    · omega
    · have := rwW_mem hm; omega
theorem hkW_text {l : List Hk} (hb : hkW l ≤ 1048576) {h : Hk} (hh : h ∈ l) : ∀ r ∈ h.rows, r.t.size ≤ 1099511627776 := fun r hr => by
  have h1 := hkW_mem hh
  have h2 := rwW_mem hr
  omega
theorem hkW_hunk {l : List Hk} (hb : hkW l ≤ 1048576) {h : Hk} (hh : h ∈ l) (hv : Hu.vld h = true) : (Un.hunkT h).length ≤ 100000000000000 := by
  have h1 := hkW_mem hh
  have h2 := hunk_len (vld_sm hv)
  omega
/-- a hunk's text, or nothing -/
def hkS (h : Hk) : ByteArray := if Hu.vld h = true then bB (Un.hunkT h) else ⟨#[]⟩
theorem uHunk_any {w : World} {h : Hk} {v : Value} (hr : RdW w v h.rows) (hz : SzH h) (hp : PowV w) (hl : Hu.vld h = true → (Un.hunkT h).length ≤ 100000000000000) :
    Calls Tryz.prog 9 #[HkV h v] w fun e w' => e = .returned (.tuple #[.string (hkS h), errV (vldN h)]) ∧ Below w.heap.size w w' := by
  cases hv : Hu.vld h with
  | true =>
    have e1 : hkS h = bB (Un.hunkT h) := by unfold hkS; rw [if_pos hv]
    have e2 : vldN h = 0 := by unfold vldN; rw [if_pos hv]
    rw [e1, e2]
    exact uHunk_ok hr hz hp hv (hl hv)
  | false =>
    have e1 : hkS h = ⟨#[]⟩ := by unfold hkS; rw [if_neg (by rw [hv]; exact Bool.false_ne_true)]
    have e2 : vldN h = 100 := by unfold vldN; rw [if_neg (by rw [hv]; exact Bool.false_ne_true)]
    rw [e1, e2]
    exact uHunk_bad hr hz hv
theorem rHunk_any {w : World} {h : Hk} {v : Value} (hr : RdW w v h.rows) (hz : SzH h) (ht : ∀ r ∈ h.rows, r.t.size ≤ 1099511627776) (hl : Hu.vld h = true → (Un.hunkT h).length ≤ 100000000000000) :
    Calls Tryz.prog 10 #[HkV h v] w fun e w' => e = .returned (.tuple #[.string (hkS h), .int .i64 (vldN h : Nat)]) ∧ Below w.heap.size w w' := by
  cases hv : Hu.vld h with
  | true =>
    have e1 : hkS h = bB (Un.hunkT h) := by unfold hkS; rw [if_pos hv]
    have e2 : vldN h = 0 := by unfold vldN; rw [if_pos hv]
    rw [e1, e2]
    exact rHunk_ok hr hz hv ht (hl hv)
  | false =>
    have e1 : hkS h = ⟨#[]⟩ := by unfold hkS; rw [if_neg (by rw [hv]; exact Bool.false_ne_true)]
    have e2 : vldN h = 100 := by unfold vldN; rw [if_neg (by rw [hv]; exact Bool.false_ne_true)]
    rw [e1, e2]
    exact rHunk_bad hr hz hv
theorem num_any (n : Nat) (w : World) (hg : ErrVar w) : Calls Tryz.prog 7 #[errV n] w fun e w' => e = .returned (.int .i64 n) ∧ Below w.heap.size w w' := by
  by_cases h : n = 0
  · subst h
    exact num_nil w
  · rw [show errV n = .iface 42 (.int .i64 n) by unfold errV; rw [if_neg h]]
    exact num_errno n w hg
/-- the whole text, or nothing -/
def prS (o q : Un.Bs × Un.Bs) (hs : List Hk) : ByteArray := if fltN o q hs = 0 then bB (Un.printT o q hs) else ⟨#[]⟩
theorem uPrint_any {w : World} {v : Value} {hs : List Hk} (p1 s1 p2 s2 : ByteArray) (hr : RdH w v hs) (hp : PowV w) (hz : ∀ h ∈ hs, SzH h) (hk : hkW hs ≤ 1048576) (hn1 : p1.size + s1.size ≤ 1048576) (hn2 : p2.size + s2.size ≤ 1048576) :
    Calls Tryz.prog 5 #[.agg #[.string p1, .string s1], .agg #[.string p2, .string s2], v] w fun e w' => e = .returned (.tuple #[.string (prS (p1.data.toList, s1.data.toList) (p2.data.toList, s2.data.toList) hs), errV (fltN (p1.data.toList, s1.data.toList) (p2.data.toList, s2.data.toList) hs)]) ∧ Below w.heap.size w w' := by
  have hll := hkW_len hs
  unfold prS
  by_cases h : fltN (p1.data.toList, s1.data.toList) (p2.data.toList, s2.data.toList) hs = 0
  · obtain ⟨h1, h2, h3⟩ := flt_yes h
    rw [if_pos h, h]
    have h4 := hunks_len hs (chk_yes h3).1
    exact uprint_ok p1 s1 p2 s2 hr hp h3 hz (by omega) (by omega) (by omega) (by omega) (by omega) h1 h2 (by omega)
  · rw [if_neg h]
    have := uprint_bad p1 s1 p2 s2 hr hz (by omega) (by omega) (by omega) h
    rw [show errV (fltN (p1.data.toList, s1.data.toList) (p2.data.toList, s2.data.toList) hs) = .iface 42 (.int .i64 (fltN (p1.data.toList, s1.data.toList) (p2.data.toList, s2.data.toList) hs : Nat)) by unfold errV; rw [if_neg h]]
    exact this
theorem rPrint_any {w : World} {v : Value} {hs : List Hk} (p1 s1 p2 s2 : ByteArray) (hr : RdH w v hs) (hz : ∀ h ∈ hs, SzH h) (hk : hkW hs ≤ 1048576) (hn1 : p1.size + s1.size ≤ 1048576) (hn2 : p2.size + s2.size ≤ 1048576) :
    Calls Tryz.prog 6 #[.agg #[.string p1, .string s1], .agg #[.string p2, .string s2], v] w fun e w' => e = .returned (.tuple #[.string (prS (p1.data.toList, s1.data.toList) (p2.data.toList, s2.data.toList) hs), .int .i64 (fltN (p1.data.toList, s1.data.toList) (p2.data.toList, s2.data.toList) hs : Nat)]) ∧ Below w.heap.size w w' := by
  have hll := hkW_len hs
  unfold prS
  by_cases h : fltN (p1.data.toList, s1.data.toList) (p2.data.toList, s2.data.toList) hs = 0
  · rw [if_pos h, h]
    have h4 := hunks_len hs (chk_yes (flt_yes h).2.2).1
    exact rPrint_ok p1 s1 p2 s2 hr hz (fun x hx => hkW_text hk hx) (by omega) (by omega) (by omega) (by omega) (by omega) h (by omega)
  · rw [if_neg h]
    exact rPrint_bad p1 s1 p2 s2 hr hz (by omega) (by omega) (by omega) (by omega) (by omega) h
end Go.Proofs.YtkolgglllladfaaGreatDoor.Ub
