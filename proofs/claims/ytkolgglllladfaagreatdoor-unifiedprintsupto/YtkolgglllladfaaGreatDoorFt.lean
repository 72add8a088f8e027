/-
  Unified diffs: the program's Parse (made by wip/genft.py).
-/
import Derived.Test.YtkolgglllladfaaGreatDoorFs
import Derived.Deep.RegionHeld3
namespace Go.Proofs.YtkolgglllladfaaGreatDoor
open Go.RowKit
open Hu (Rw Hk)

theorem threeF (w : World) (A B C : Obj) : Below w.heap.size w (((w.alloc A).alloc B).alloc C) ∧ (((w.alloc A).alloc B).alloc C).heap[w.heap.size]? = some A ∧ (((w.alloc A).alloc B).alloc C).heap[w.heap.size + 1]? = some B ∧ (((w.alloc A).alloc B).alloc C).heap[w.heap.size + 2]? = some C := by
  have h1 : ((w.alloc A).alloc B).heap.size = w.heap.size + 2 := by simp
  obtain ⟨hb, k1, k2⟩ := twoF w A B
  have hC := (Below.refl ((w.alloc A).alloc B).heap.size ((w.alloc A).alloc B)).alloc (Nat.le_refl _) C
  refine ⟨hb.trans (hC.mono hb.size), (hC.block _ (lt_of_heap k1)).trans k1, (hC.block _ (lt_of_heap k2)).trans k2, ?_⟩
  rw [← h1]
  exact heap_alloc_new _ C
/-- an operation that stores a whole struct -/
theorem wpOp_stA {o : Oper} {a : Act} {W : World} {K : Act → World → Prop} {Q : Exit → Act → World → Prop} {x y : Operand} (T : TypeId) (cs : Array Value) (ho : o.op = .store T x y) {g : Nat} {old : Array Value} (hg : W.heap[g]? = some (.cells old T)) (hsz : (Tryz.prog.info? T).map (·.size) = some cs.size) (hs : old.size = cs.size) (hall : cs.toList.all (·.oneCell') = true) (hx : a.eval x = .pointer (some ⟨g, 0, none⟩)) (hy : a.eval y = .agg cs)
    (hh : ∀ W', W'.heap[g]? = some (.cells cs T) → Kept (fun j => j = g) W W' → K (a.put o.dst undef) W') : Oper.wp Tryz.prog o a W K Q := by
  unfold Oper.wp execOp
  have hst : (Instr.storeAt T (.pointer (some ⟨g, 0, none⟩)) (.agg cs)).run Tryz.prog W = .ok () (W.setRow g cs) := by
    simp only [Instr.storeAt, Instr.sureAddr, Sem.run_bind, Sem.run_pure, Result.andThen_ok, run_storeVar_row W g _ _ _ cs hg hsz hs (by rw [← Array.all_toList]; exact hall)]
  simp only [ho, hx, hy, Sem.run_bind, hst, Result.andThen_ok]
  exact hh _ (setRow_heap W g _ _ _ hg) ⟨rfl, rfl, rfl, by rw [setRow_size]; exact Nat.le_refl _, fun j _ hj => setRow_other W _ hj⟩
theorem Kept.onto {B g : Nat} {w W W' : World} (h : Below B w W) (hk : Kept (fun j => j = g) W W') (hg : B ≤ g) (hB : B ≤ w.heap.size) : Below B w W' :=
  ⟨hk.os.trans h.os, hk.tape.trans h.tape, hk.output.trans h.output, Nat.le_trans h.size hk.size, fun j hj => (hk.block j (Nat.lt_of_lt_of_le hj (Nat.le_trans hB h.size)) (by omega)).trans (h.block j hj)⟩
theorem OwnH.kept {w w' : World} {B g : Nat} {v : Value} {l : List Hk} {cs : Array Value} {t : TypeId} (h : OwnH w B v l) (hk : Kept (fun j => j = g) w w') (hg : w.heap[g]? = some (.cells cs t)) (h1 : 37 ≠ t) (h2 : 57 ≠ t) : OwnH w' B v l := by
  obtain ⟨p, e, k1, k2⟩ := h
  refine ⟨p, e, own_far k1 fun i hi => hk.block i (own_lt k1 i hi) (fun e9 => ?_), fun q hq => own_far (k2 q hq) fun i hi => hk.block i (own_lt (k2 q hq) i hi) (fun e9 => ?_)⟩
  · exact own_ne k1 hg h1 (by rw [← e9]; exact hi)
  · exact own_ne (k2 q hq) hg h2 (by rw [← e9]; exact hi)
/-- what Parse answers -/
def ParseAns (B : Nat) (w' : World) (e : Ending) : Un.Ps → Prop
  | .bad c er => e = .returned (.tuple #[.agg #[.string ⟨#[]⟩, .string ⟨#[]⟩], .agg #[.string ⟨#[]⟩, .string ⟨#[]⟩], .slice none 0 0, .string ⟨#[]⟩, .int .i64 (c : Nat), .iface 42 (.int .i64 (er : Nat))])
  | .ok o q hs rest => ∃ v, e = .returned (.tuple #[.agg #[.string (bB o.1), .string (bB o.2)], .agg #[.string (bB q.1), .string (bB q.2)], v, .string (bB rest), .int .i64 0, .nilIface]) ∧ OwnH w' B v hs ∧ (∀ h ∈ hs, SzH h) ∧ hs.length ≤ 5000000
def ClsP (R c : Nat) (x : ByteArray) (N1 N2 : Nat) (p1 s1 p2 s2 : ByteArray) (w' : World) : Prop := RdrAt w' R c x ∧ w'.heap[N1]? = some (.cells #[.string p1, .string s1] 23) ∧ w'.heap[N2]? = some (.cells #[.string p2, .string s2] 23)
theorem ClsP.kept {R c N1 N2 g : Nat} {x p1 s1 p2 s2 : ByteArray} {w w' : World} (h : ClsP R c x N1 N2 p1 s1 p2 s2 w) (hk : Kept (fun j => j = g) w w') (h1 : R ≠ g) (h2 : N1 ≠ g) (h3 : N2 ≠ g) : ClsP R c x N1 N2 p1 s1 p2 s2 w' :=
  ⟨(hk.block R h.1.lt h1).trans h.1, (hk.block N1 (lt_of_heap h.2.1) h2).trans h.2.1, (hk.block N2 (lt_of_heap h.2.2) h3).trans h.2.2⟩
set_option maxHeartbeats 8000000 in
set_option maxRecDepth 100000 in
theorem fparse_any {w : World} {s : ByteArray} (hv : LibV w) (hs : s.size ≤ maxLen) :
    Calls Tryz.prog 48 #[.agg #[.string ⟨#[45, 45, 45, 32]⟩, .string ⟨#[43, 43, 43, 32]⟩, .func (.func 19) #[] #[], .func (.func 29) #[] #[], .func (.func 30) #[] #[]], .string s] w fun e w' => Below w.heap.size w w' ∧ ParseAns w.heap.size w' e (Un.parse s.data.toList) := by
  unfold maxLen at hs
  obtain ⟨hb0, k0, k1, k2⟩ := threeF w (.cells #[.string ⟨#[45, 45, 45, 32]⟩, .string ⟨#[43, 43, 43, 32]⟩, .func (.func 19) #[] #[], .func (.func 29) #[] #[], .func (.func 30) #[] #[]] 48) (.cells #[.string ⟨#[]⟩, .string ⟨#[]⟩] 23) (.cells #[.string ⟨#[]⟩, .string ⟨#[]⟩] 23)
  have HV := hid hv
  have hbig := hv.big
  obtain ⟨B, hB⟩ : ∃ B, B = w.heap.size := ⟨_, rfl⟩
  have HBW := hid hB
  have HB0 := hid hb0
  have HF0 := hid k0
  have H40 := hid k1
  have H50 := hid k2
  have HFT := hid (fun c t u w1 => fault_any c t u w1)
  have hsd := dsize s
  rw [← hB] at HF0 H40 H50
  clear hv hb0 k0 k1 k2
  by_cases hlong : 4194304 < s.size
  · have HRES : Hid (Un.parse s.data.toList = .bad 0 2) := hid (by unfold Un.parse; rw [if_pos (by omega)])
    have i1 : (4194304 : Int) < (s.size : Int) := by omega
    clear hlong hsd
    go_enter Tryz.func48, Tryz.ntmps48
    go_wp2_with fail
    rw [← hB]
    clear hB
    generalize ((w.alloc (.cells #[.string ⟨#[45, 45, 45, 32]⟩, .string ⟨#[43, 43, 43, 32]⟩, .func (.func 19) #[] #[], .func (.func 29) #[] #[], .func (.func 30) #[] #[]] 48)).alloc (.cells #[.string ⟨#[]⟩, .string ⟨#[]⟩] 23)).alloc (.cells #[.string ⟨#[]⟩, .string ⟨#[]⟩] 23) = w0 at HB0 HF0 H40 H50 ⊢
    refine (HFT.out _ _ _ _).mono ?_
    rintro e w1 ⟨rfl, hb1⟩
    have HB1 := hid (HB0.out.trans (hb1.mono HB0.out.size))
    have H41 := hid ((hb1.block (B + 1) (lt_of_heap H40.out)).trans H40.out)
    have H51 := hid ((hb1.block (B + 2) (lt_of_heap H50.out)).trans H50.out)
    clear hb1
    go_wp2_with (guard_target =~ wpList _ _ _ (_ :: _) _ _; first | (refine wpList_stA 23 #[.string ⟨#[]⟩, .string ⟨#[]⟩] rfl rfl H41.out Tryz.sizeName rfl rfl rfl rfl ?_; intro w8 hk8 hkp8; have HK8 := hid hk8; have HP8 := hid hkp8; have HQ8 := hid ((hkp8.block (B + 2) (lt_of_heap H51.out) (by omega)).trans H51.out); clear hk8 hkp8) | (refine wpList_stA 23 #[.string ⟨#[]⟩, .string ⟨#[]⟩] rfl rfl HQ8.out Tryz.sizeName rfl rfl rfl rfl ?_; intro w9 hk9 hkp9; have y0 : w9.cell? ⟨B + 1, 0, none⟩ = some (.string ⟨#[]⟩) := cell_of_blk ((hkp9.block (B + 1) (lt_of_heap HK8.out) (by omega)).trans HK8.out) 0; have y1 : w9.cell? ⟨B + 1, 1, none⟩ = some (.string ⟨#[]⟩) := cell_of_blk ((hkp9.block (B + 1) (lt_of_heap HK8.out) (by omega)).trans HK8.out) 1; have z0 : w9.cell? ⟨B + 2, 0, none⟩ = some (.string ⟨#[]⟩) := cell_of_blk hk9 0; have z1 : w9.cell? ⟨B + 2, 1, none⟩ = some (.string ⟨#[]⟩) := cell_of_blk hk9 1; have HP9 := hid hkp9; clear hk9 hkp9))
    exact bodyPost_ret (v := .tuple #[.agg #[.string ⟨#[]⟩, .string ⟨#[]⟩], .agg #[.string ⟨#[]⟩, .string ⟨#[]⟩], .slice none 0 0, .string ⟨#[]⟩, .int .i64 0, .iface 42 (.int .i64 2)]) (by simp [results, Tryz.results48, go_sem, y0, y1, z0, z1]) rfl ⟨Kept.onto (Kept.onto HB1.out HP8.out (by have := HBW.out; omega) (Nat.le_refl _)) HP9.out (by have := HBW.out; omega) (Nat.le_refl _), by rw [HRES.out]; rfl⟩
  · have i1 : ¬ ((4194304 : Int) < (s.size : Int)) := by omega
    have hs4 : s.size ≤ 4194304 := by omega
    have HNR := hid (fun w1 => newReader_any s w1)
    have HRES0 := hid (show Un.parse s.data.toList = _ by unfold Un.parse; rw [if_neg (by omega)])
    clear hlong
    go_enter Tryz.func48, Tryz.ntmps48
    go_wp2_with fail
    rw [← hB]
    clear hB
    generalize ((w.alloc (.cells #[.string ⟨#[45, 45, 45, 32]⟩, .string ⟨#[43, 43, 43, 32]⟩, .func (.func 19) #[] #[], .func (.func 29) #[] #[], .func (.func 30) #[] #[]] 48)).alloc (.cells #[.string ⟨#[]⟩, .string ⟨#[]⟩] 23)).alloc (.cells #[.string ⟨#[]⟩, .string ⟨#[]⟩] 23) = w0 at HB0 HF0 H40 H50 ⊢
    obtain ⟨R, hR⟩ : ∃ R, R = w0.heap.size := ⟨_, rfl⟩
    have HRW : Hid (B + 3 ≤ R) := hid (by have := lt_of_heap H50.out; omega)
    refine (HNR.out w0).mono ?_
    rintro e w1 ⟨rfl, hr1, hb1⟩
    rw [← hR] at hr1 ⊢
    have HR1 := hid hr1
    have HB1 := hid (HB0.out.trans (hb1.mono HB0.out.size))
    have HF1 := hid ((hb1.block B (lt_of_heap HF0.out)).trans HF0.out)
    have H41 := hid ((hb1.block (B + 1) (lt_of_heap H40.out)).trans H40.out)
    have H51 := hid ((hb1.block (B + 2) (lt_of_heap H50.out)).trans H50.out)
    clear hr1 hb1 hR HB0 HF0 H40 H50 HNR
    have f0 : w1.cell? ⟨B, 0, none⟩ = some (.string ⟨#[45, 45, 45, 32]⟩) := cell_of_blk HF1.out 0
    go_wp2_with fail
    refine (header_any (mark := ⟨#[45, 45, 45, 32]⟩) HR1.out hs4 (by omega)).mono ?_
    rintro e w2 ⟨hk2, hcase⟩
    have HB2 := hid (HB1.out.trans (hk2.below (B := w.heap.size) (by have := HBW.out; have := HRW.out; omega) HB1.out.size))
    have HF2 := hid ((hk2.block B (lt_of_heap HF1.out) (by have := HRW.out; omega)).trans HF1.out)
    have H42 := hid ((hk2.block (B + 1) (lt_of_heap H41.out) (by have := HRW.out; omega)).trans H41.out)
    have H52 := hid ((hk2.block (B + 2) (lt_of_heap H51.out) (by have := HRW.out; omega)).trans H51.out)
    rw [show (ByteArray.mk #[45, 45, 45, 32]).data.toList = Un.mkOld from rfl] at hcase
    clear hk2 HR1 HB1 HF1 H41 H51 f0
    rcases hcase with ⟨hh, hr2, rfl⟩ | ⟨o, hh, hr2, rfl⟩
    · have HRES : Hid (Un.parse s.data.toList = .bad 1 110) := hid (by rw [HRES0.out, hh])
      have HR2 := hid hr2
      have hbN := (Below.refl w2.heap.size w2).alloc (Nat.le_refl _) (.cells #[.string ⟨#[]⟩, .string ⟨#[]⟩] 23)
      have HB3 := hid (HB2.out.trans (hbN.mono HB2.out.size))
      have HR3 := hid (HR2.out.below hbN)
      have H43 := hid ((hbN.block (B + 1) (lt_of_heap H42.out)).trans H42.out)
      have H53 := hid ((hbN.block (B + 2) (lt_of_heap H52.out)).trans H52.out)
      have r0 : (w2.alloc (.cells #[.string ⟨#[]⟩, .string ⟨#[]⟩] 23)).cell? ⟨R, 0, none⟩ = some (.int .i64 ((1 : Nat) : Int)) := cell_of_blk HR3.out 0
      clear hh hr2 hbN HRES0
      go_wp2_with fail
      generalize w2.alloc (.cells #[.string ⟨#[]⟩, .string ⟨#[]⟩] 23) = w3 at HB3 HR3 H43 H53 r0 ⊢
      refine (HFT.out _ _ _ _).mono ?_
      rintro e w4 ⟨rfl, hb4⟩
      have HB4 := hid (HB3.out.trans (hb4.mono HB3.out.size))
      have H44 := hid ((hb4.block (B + 1) (lt_of_heap H43.out)).trans H43.out)
      have H54 := hid ((hb4.block (B + 2) (lt_of_heap H53.out)).trans H53.out)
      clear hb4 r0
      go_wp2_with (guard_target =~ wpList _ _ _ (_ :: _) _ _; first | (refine wpList_stA 23 #[.string ⟨#[]⟩, .string ⟨#[]⟩] rfl rfl H44.out Tryz.sizeName rfl rfl rfl rfl ?_; intro w8 hk8 hkp8; have HK8 := hid hk8; have HP8 := hid hkp8; have HQ8 := hid ((hkp8.block (B + 2) (lt_of_heap H54.out) (by omega)).trans H54.out); clear hk8 hkp8) | (refine wpList_stA 23 #[.string ⟨#[]⟩, .string ⟨#[]⟩] rfl rfl HQ8.out Tryz.sizeName rfl rfl rfl rfl ?_; intro w9 hk9 hkp9; have y0 : w9.cell? ⟨B + 1, 0, none⟩ = some (.string ⟨#[]⟩) := cell_of_blk ((hkp9.block (B + 1) (lt_of_heap HK8.out) (by omega)).trans HK8.out) 0; have y1 : w9.cell? ⟨B + 1, 1, none⟩ = some (.string ⟨#[]⟩) := cell_of_blk ((hkp9.block (B + 1) (lt_of_heap HK8.out) (by omega)).trans HK8.out) 1; have z0 : w9.cell? ⟨B + 2, 0, none⟩ = some (.string ⟨#[]⟩) := cell_of_blk hk9 0; have z1 : w9.cell? ⟨B + 2, 1, none⟩ = some (.string ⟨#[]⟩) := cell_of_blk hk9 1; have HP9 := hid hkp9; clear hk9 hkp9))
      exact bodyPost_ret (v := .tuple #[.agg #[.string ⟨#[]⟩, .string ⟨#[]⟩], .agg #[.string ⟨#[]⟩, .string ⟨#[]⟩], .slice none 0 0, .string ⟨#[]⟩, .int .i64 1, .iface 42 (.int .i64 110)]) (by simp [results, Tryz.results48, go_sem, y0, y1, z0, z1]) rfl ⟨Kept.onto (Kept.onto HB4.out HP8.out (by have := HBW.out; omega) (Nat.le_refl _)) HP9.out (by have := HBW.out; omega) (Nat.le_refl _), by rw [HRES.out]; rfl⟩
    · have HR2 := hid hr2
      have HO := hid hh
      have hbN := (Below.refl w2.heap.size w2).alloc (Nat.le_refl _) (.cells #[.string (bB o.1), .string (bB o.2)] 23)
      have hkN := heap_alloc_new w2 (.cells #[.string (bB o.1), .string (bB o.2)] 23)
      obtain ⟨N1, hN1⟩ : ∃ N1, N1 = w2.heap.size := ⟨_, rfl⟩
      have HN1 : Hid (R < N1) := hid (by have := HR2.out.lt; omega)
      have HB3 := hid (HB2.out.trans (hbN.mono HB2.out.size))
      have HR3 := hid (HR2.out.below hbN)
      have HF3 := hid ((hbN.block B (lt_of_heap HF2.out)).trans HF2.out)
      have H43 := hid ((hbN.block (B + 1) (lt_of_heap H42.out)).trans H42.out)
      have H53 := hid ((hbN.block (B + 2) (lt_of_heap H52.out)).trans H52.out)
      have HM3 := hid hkN
      have f1 : (w2.alloc (.cells #[.string (bB o.1), .string (bB o.2)] 23)).cell? ⟨B, 1, none⟩ = some (.string ⟨#[43, 43, 43, 32]⟩) := cell_of_blk HF3.out 1
      clear hh hr2 hbN hkN
      go_wp2_with fail
      rw [← hN1] at HM3 ⊢
      clear hN1
      generalize w2.alloc (.cells #[.string (bB o.1), .string (bB o.2)] 23) = w3 at HB3 HR3 HF3 H43 H53 HM3 f1 ⊢
      have hs5 := advB_size s
      refine (header_any (mark := ⟨#[43, 43, 43, 32]⟩) HR3.out (by omega) (by omega)).mono ?_
      rintro e w4 ⟨hk4, hcase⟩
      have HB4 := hid (HB3.out.trans (hk4.below (B := w.heap.size) (by have := HBW.out; have := HRW.out; omega) HB3.out.size))
      have HF4 := hid ((hk4.block B (lt_of_heap HF3.out) (by have := HRW.out; omega)).trans HF3.out)
      have H44 := hid ((hk4.block (B + 1) (lt_of_heap H43.out) (by have := HRW.out; omega)).trans H43.out)
      have H54 := hid ((hk4.block (B + 2) (lt_of_heap H53.out) (by have := HRW.out; omega)).trans H53.out)
      have HM4 := hid ((hk4.block N1 (lt_of_heap HM3.out) (by have := HN1.out; omega)).trans HM3.out)
      rw [show (ByteArray.mk #[43, 43, 43, 32]).data.toList = Un.mkNew from rfl, advB_data] at hcase
      clear hk4 HR3 HB3 HF3 H43 H53 HM3 f1 HB2 HR2 HF2 H42 H52
      rcases hcase with ⟨hh, hr4, rfl⟩ | ⟨q, hh, hr4, rfl⟩
      · have HRES : Hid (Un.parse s.data.toList = .bad 2 110) := hid (by rw [HRES0.out, HO.out]; simp only; rw [hh])
        have HR4 := hid hr4
        have hbN := (Below.refl w4.heap.size w4).alloc (Nat.le_refl _) (.cells #[.string ⟨#[]⟩, .string ⟨#[]⟩] 23)
        have HB5 := hid (HB4.out.trans (hbN.mono HB4.out.size))
        have HR5 := hid (HR4.out.below hbN)
        have H45 := hid ((hbN.block (B + 1) (lt_of_heap H44.out)).trans H44.out)
        have H55 := hid ((hbN.block (B + 2) (lt_of_heap H54.out)).trans H54.out)
        have r0 : (w4.alloc (.cells #[.string ⟨#[]⟩, .string ⟨#[]⟩] 23)).cell? ⟨R, 0, none⟩ = some (.int .i64 ((2 : Nat) : Int)) := cell_of_blk HR5.out 0
        clear hh hr4 hbN HRES0
        go_wp2_with fail
        generalize w4.alloc (.cells #[.string ⟨#[]⟩, .string ⟨#[]⟩] 23) = w5 at HB5 HR5 H45 H55 r0 ⊢
        refine (HFT.out _ _ _ _).mono ?_
        rintro e w6 ⟨rfl, hb6⟩
        have HB6 := hid (HB5.out.trans (hb6.mono HB5.out.size))
        have H46 := hid ((hb6.block (B + 1) (lt_of_heap H45.out)).trans H45.out)
        have H56 := hid ((hb6.block (B + 2) (lt_of_heap H55.out)).trans H55.out)
        clear hb6 r0
        go_wp2_with (guard_target =~ wpList _ _ _ (_ :: _) _ _; first | (refine wpList_stA 23 #[.string ⟨#[]⟩, .string ⟨#[]⟩] rfl rfl H46.out Tryz.sizeName rfl rfl rfl rfl ?_; intro w8 hk8 hkp8; have HK8 := hid hk8; have HP8 := hid hkp8; have HQ8 := hid ((hkp8.block (B + 2) (lt_of_heap H56.out) (by omega)).trans H56.out); clear hk8 hkp8) | (refine wpList_stA 23 #[.string ⟨#[]⟩, .string ⟨#[]⟩] rfl rfl HQ8.out Tryz.sizeName rfl rfl rfl rfl ?_; intro w9 hk9 hkp9; have y0 : w9.cell? ⟨B + 1, 0, none⟩ = some (.string ⟨#[]⟩) := cell_of_blk ((hkp9.block (B + 1) (lt_of_heap HK8.out) (by omega)).trans HK8.out) 0; have y1 : w9.cell? ⟨B + 1, 1, none⟩ = some (.string ⟨#[]⟩) := cell_of_blk ((hkp9.block (B + 1) (lt_of_heap HK8.out) (by omega)).trans HK8.out) 1; have z0 : w9.cell? ⟨B + 2, 0, none⟩ = some (.string ⟨#[]⟩) := cell_of_blk hk9 0; have z1 : w9.cell? ⟨B + 2, 1, none⟩ = some (.string ⟨#[]⟩) := cell_of_blk hk9 1; have HP9 := hid hkp9; clear hk9 hkp9))
        exact bodyPost_ret (v := .tuple #[.agg #[.string ⟨#[]⟩, .string ⟨#[]⟩], .agg #[.string ⟨#[]⟩, .string ⟨#[]⟩], .slice none 0 0, .string ⟨#[]⟩, .int .i64 2, .iface 42 (.int .i64 110)]) (by simp [results, Tryz.results48, go_sem, y0, y1, z0, z1]) rfl ⟨Kept.onto (Kept.onto HB6.out HP8.out (by have := HBW.out; omega) (Nat.le_refl _)) HP9.out (by have := HBW.out; omega) (Nat.le_refl _), by rw [HRES.out]; rfl⟩
      · have HR4 := hid hr4
        have HQ := hid hh
        have hbN := (Below.refl w4.heap.size w4).alloc (Nat.le_refl _) (.cells #[.string (bB q.1), .string (bB q.2)] 23)
        have hkN := heap_alloc_new w4 (.cells #[.string (bB q.1), .string (bB q.2)] 23)
        obtain ⟨N2, hN2⟩ : ∃ N2, N2 = w4.heap.size := ⟨_, rfl⟩
        have HN2 : Hid (N1 < N2) := hid (by have := lt_of_heap HM4.out; omega)
        have HB5 := hid (HB4.out.trans (hbN.mono HB4.out.size))
        have HR5 := hid (HR4.out.below hbN)
        have HF5 := hid ((hbN.block B (lt_of_heap HF4.out)).trans HF4.out)
        have H45 := hid ((hbN.block (B + 1) (lt_of_heap H44.out)).trans H44.out)
        have H55 := hid ((hbN.block (B + 2) (lt_of_heap H54.out)).trans H54.out)
        have HM5 := hid ((hbN.block N1 (lt_of_heap HM4.out)).trans HM4.out)
        have HP5 := hid hkN
        have HRES : Hid (Un.parse s.data.toList = match Un.hunksF (s.data.toList.length + 1) (Un.lns (Un.advN 2 s.data.toList)) 3 [] with | .bad c e => .bad c e | .ok hs c => .ok o q hs (Un.advN (c - 1) s.data.toList)) := hid (by rw [HRES0.out, HO.out]; simp only; rw [hh]; rfl)
        clear hh hr4 hbN hkN HRES0 HO HQ HB4 HR4 HF4 H44 H54 HM4
        have f0 : (w4.alloc (.cells #[.string (bB q.1), .string (bB q.2)] 23)).cell? ⟨B, 0, none⟩ = some (.string ⟨#[45, 45, 45, 32]⟩) := cell_of_blk HF5.out 0
        have f1 : (w4.alloc (.cells #[.string (bB q.1), .string (bB q.2)] 23)).cell? ⟨B, 1, none⟩ = some (.string ⟨#[43, 43, 43, 32]⟩) := cell_of_blk HF5.out 1
        have f2 : (w4.alloc (.cells #[.string (bB q.1), .string (bB q.2)] 23)).cell? ⟨B, 2, none⟩ = some (.func (.func 19) #[] #[]) := cell_of_blk HF5.out 2
        have f3 : (w4.alloc (.cells #[.string (bB q.1), .string (bB q.2)] 23)).cell? ⟨B, 3, none⟩ = some (.func (.func 29) #[] #[]) := cell_of_blk HF5.out 3
        have f4 : (w4.alloc (.cells #[.string (bB q.1), .string (bB q.2)] 23)).cell? ⟨B, 4, none⟩ = some (.func (.func 30) #[] #[]) := cell_of_blk HF5.out 4
        go_wp2_with fail
        rw [← hN2] at HP5 ⊢
        clear hN2
        generalize w4.alloc (.cells #[.string (bB q.1), .string (bB q.2)] 23) = w5 at HB5 HR5 HF5 H45 H55 HM5 HP5 ⊢
        have hs6 := advB_size (advB s)
        refine (hunks_any (fu := s.data.toList.length + 1) HR5.out (HV.out.below (HB5.out)) (by have := HRW.out; have := HBW.out; omega) (by omega) (by omega) (by omega)).mono ?_
        rintro e w6 ⟨c', x', hr6, hk6, hc6, ha6, hcase⟩
        have HB6 := hid (HB5.out.trans (hk6.below (B := w.heap.size) (by have := HBW.out; have := HRW.out; omega) HB5.out.size))
        have H46 := hid ((hk6.block (B + 1) (lt_of_heap H45.out) (by have := HRW.out; omega)).trans H45.out)
        have H56 := hid ((hk6.block (B + 2) (lt_of_heap H55.out) (by have := HRW.out; omega)).trans H55.out)
        have HM6 := hid ((hk6.block N1 (lt_of_heap HM5.out) (by have := HN1.out; omega)).trans HM5.out)
        have HP6 := hid ((hk6.block N2 (lt_of_heap HP5.out) (by have := HN1.out; have := HN2.out; omega)).trans HP5.out)
        have HS5 : Hid (w.heap.size ≤ w5.heap.size) := hid HB5.out.size
        rw [advB_data, advB_data] at hcase ha6
        clear hk6 HR5 HB5 HF5 H45 H55 HM5 HP5
        rcases hcase with ⟨k, er, hres, rfl⟩ | ⟨hs', v, hres, rfl, hO, hsz, hlen⟩
        · have HRES2 : Hid (Un.parse s.data.toList = .bad k er) := hid (by
            rw [HRES.out]
            have e9 : Un.hunksF (s.data.toList.length + 1) (Un.lns (Un.advN 2 s.data.toList)) 3 [] = .bad k er := hres
            rw [e9])
          clear hres HRES hr6 ha6
          go_wp2_with fail
          refine (HFT.out _ _ _ _).mono ?_
          rintro e w7 ⟨rfl, hb7⟩
          have HB7 := hid (HB6.out.trans (hb7.mono HB6.out.size))
          have H47 := hid ((hb7.block (B + 1) (lt_of_heap H46.out)).trans H46.out)
          have H57 := hid ((hb7.block (B + 2) (lt_of_heap H56.out)).trans H56.out)
          clear hb7
          go_wp2_with (guard_target =~ wpList _ _ _ (_ :: _) _ _; first | (refine wpList_stA 23 #[.string ⟨#[]⟩, .string ⟨#[]⟩] rfl rfl H47.out Tryz.sizeName rfl rfl rfl rfl ?_; intro w8 hk8 hkp8; have HK8 := hid hk8; have HP8 := hid hkp8; have HQ8 := hid ((hkp8.block (B + 2) (lt_of_heap H57.out) (by omega)).trans H57.out); clear hk8 hkp8) | (refine wpList_stA 23 #[.string ⟨#[]⟩, .string ⟨#[]⟩] rfl rfl HQ8.out Tryz.sizeName rfl rfl rfl rfl ?_; intro w9 hk9 hkp9; have y0 : w9.cell? ⟨B + 1, 0, none⟩ = some (.string ⟨#[]⟩) := cell_of_blk ((hkp9.block (B + 1) (lt_of_heap HK8.out) (by omega)).trans HK8.out) 0; have y1 : w9.cell? ⟨B + 1, 1, none⟩ = some (.string ⟨#[]⟩) := cell_of_blk ((hkp9.block (B + 1) (lt_of_heap HK8.out) (by omega)).trans HK8.out) 1; have z0 : w9.cell? ⟨B + 2, 0, none⟩ = some (.string ⟨#[]⟩) := cell_of_blk hk9 0; have z1 : w9.cell? ⟨B + 2, 1, none⟩ = some (.string ⟨#[]⟩) := cell_of_blk hk9 1; have HP9 := hid hkp9; clear hk9 hkp9))
          exact bodyPost_ret (v := .tuple #[.agg #[.string ⟨#[]⟩, .string ⟨#[]⟩], .agg #[.string ⟨#[]⟩, .string ⟨#[]⟩], .slice none 0 0, .string ⟨#[]⟩, .int .i64 (k : Nat), .iface 42 (.int .i64 (er : Nat))]) (by simp [results, Tryz.results48, go_sem, y0, y1, z0, z1]) rfl ⟨Kept.onto (Kept.onto HB7.out HP8.out (by have := HBW.out; omega) (Nat.le_refl _)) HP9.out (by have := HBW.out; omega) (Nat.le_refl _), by rw [HRES2.out]; rfl⟩
        · have HRES2 : Hid (Un.parse s.data.toList = .ok o q hs' x'.data.toList) := hid (by
            rw [HRES.out]
            have e9 : Un.hunksF (s.data.toList.length + 1) (Un.lns (Un.advN 2 s.data.toList)) 3 [] = .ok hs' c' := hres
            rw [e9]
            simp only
            have e8 : x'.data.toList = Un.advN (c' - 1) s.data.toList := by
              rw [ha6]
              have hc3 : 3 ≤ c' := hc6
              rw [show c' - 1 = 2 + (c' - 3) by omega, Un.advN_add]
              rfl
            rw [e8])
          have HR6 := hid hr6
          have HO6 := hid (hO.mono HS5.out)
          have HSZ := hid hsz
          obtain ⟨va, vc, rfl⟩ := hO.shape
          clear hres HRES hr6 ha6 hO hsz
          go_wp2_with fail
          have HBD := hid (below_drewN HB6.out 1)
          have HOD : Hid (OwnH w6.drew w.heap.size (.slice va hs'.length vc) hs') := hid HO6.out
          have HRD : Hid (RdrAt w6.drew R c' x') := hid HR6.out
          have H4D : Hid (w6.drew.heap[B + 1]? = _) := hid H46.out
          have H5D : Hid (w6.drew.heap[B + 2]? = _) := hid H56.out
          have HBX : Hid (Below w.heap.size w w6.drew) := hid HBD.out
          refine wp_region_noPanic ?_
          refine wp_region_held_drew (S := ClsP R c' x' N1 N2 (bB o.1) (bB o.2) (bB q.1) (bB q.2)) (by kernel_rfl) ?S (fun hHeld => ?M)
          case S => exact ⟨HR6.out, HM6.out, HP6.out⟩
          generalize w6.drew = wd at HOD HRD H4D H5D HBX hHeld ⊢
          refine wpAnyH_take (i := 0) (v := ?v0) rfl (by kernel_rfl) (by kernel_rfl) (by kernel_rfl) (fun _ _ _ h => h) (Or.inl ⟨by rfl, fun ww hSw => ?y0⟩) hHeld ?r0
          case y0 => (have c0 : ww.cell? ⟨N1, 0, none⟩ = some (.string (bB o.1)) := cell_of_blk hSw.2.1 0; have c1 : ww.cell? ⟨N1, 1, none⟩ = some (.string (bB o.2)) := cell_of_blk hSw.2.1 1; go_simp; all_goals with_reducible rfl)
          try simp only [Act.put]
          try simp only [List.setIfInBounds_toArray]
          try simp only [List.set]
          refine wpAnyH_take (i := 1) (v := ?v1) rfl (by kernel_rfl) (by kernel_rfl) (by kernel_rfl) (fun _ _ _ h => h) (Or.inl ⟨by rfl, fun ww hSw => ?y1⟩) hHeld ?r1
          case y1 => (have c0 : ww.cell? ⟨N2, 0, none⟩ = some (.string (bB q.1)) := cell_of_blk hSw.2.2 0; have c1 : ww.cell? ⟨N2, 1, none⟩ = some (.string (bB q.2)) := cell_of_blk hSw.2.2 1; go_simp; all_goals with_reducible rfl)
          try simp only [Act.put]
          try simp only [List.setIfInBounds_toArray]
          try simp only [List.set]
          refine wpAnyH_take (i := 2) (v := ?v2) rfl (by kernel_rfl) (by kernel_rfl) (by kernel_rfl) (fun _ _ _ h => h) (Or.inl ⟨by rfl, fun ww hSw => ?y2⟩) hHeld ?r2
          case y2 => (go_simp; all_goals with_reducible rfl)
          try simp only [Act.put]
          try simp only [List.setIfInBounds_toArray]
          try simp only [List.set]
          refine wpAnyH_take (i := 3) (v := ?v3) rfl (by kernel_rfl) (by kernel_rfl) (by kernel_rfl) (fun _ _ _ h => h) (Or.inl ⟨by rfl, fun ww hSw => ?y3⟩) hHeld ?r3
          case y3 => (go_simp; all_goals with_reducible rfl)
          try simp only [Act.put]
          try simp only [List.setIfInBounds_toArray]
          try simp only [List.set]
          refine wpAnyH_ready (rs := [4]) (by kernel_rfl) (by simp) ?p4
          refine AllReadyH.cons rfl (fun K hK => ?_) AllReadyH.nil
          go_simp
          refine (left_any HRD.out).mono ?_
          rintro e we ⟨rfl, rfl⟩
          go_simp
          refine hK.out _ _ ?S4 (fun hHeld => ?M4)
          case S4 => exact hHeld
          clear hK K
          try simp only [Act.put]
          try simp only [List.setIfInBounds_toArray]
          try simp only [List.set]
          refine wpAnyH_ready (rs := [5]) (by kernel_rfl) (by simp) ?p5
          refine AllReadyH.cons rfl (fun K hK => ?_) AllReadyH.nil
          rw [if_pos (by rfl)]
          refine wpOp_stA 23 #[.string (bB o.1), .string (bB o.2)] rfl H4D.out Tryz.sizeName rfl rfl rfl rfl ?_
          intro w7 hk7 hkp7
          have HK7 := hid hk7
          have HB7 := hid (Kept.onto HBX.out hkp7 (by have := HBW.out; omega) (Nat.le_refl _))
          have H57 := hid ((hkp7.block (B + 2) (lt_of_heap H5D.out) (by omega)).trans H5D.out)
          have HO7 := hid (HOD.out.kept hkp7 H4D.out (by decide) (by decide))
          refine hK.out _ _ ?S5 (fun hHeld => ?M5)
          case S5 => exact hHeld.kept hkp7 (by have := HRW.out; omega) (by have := HRW.out; have := HN1.out; omega) (by have := HRW.out; have := HN1.out; have := HN2.out; omega)
          clear hK K hk7 hkp7
          try simp only [Act.put]
          try simp only [List.setIfInBounds_toArray]
          try simp only [List.set]
          refine wpAnyH_ready (rs := [6]) (by kernel_rfl) (by simp) ?p6
          refine AllReadyH.cons rfl (fun K hK => ?_) AllReadyH.nil
          rw [if_pos (by rfl)]
          refine wpOp_stA 23 #[.string (bB q.1), .string (bB q.2)] rfl H57.out Tryz.sizeName rfl rfl rfl rfl ?_
          intro w8 hk8 hkp8
          have y0 : w8.cell? ⟨B + 1, 0, none⟩ = some (.string (bB o.1)) := cell_of_blk ((hkp8.block (B + 1) (lt_of_heap HK7.out) (by omega)).trans HK7.out) 0
          have y1 : w8.cell? ⟨B + 1, 1, none⟩ = some (.string (bB o.2)) := cell_of_blk ((hkp8.block (B + 1) (lt_of_heap HK7.out) (by omega)).trans HK7.out) 1
          have z0 : w8.cell? ⟨B + 2, 0, none⟩ = some (.string (bB q.1)) := cell_of_blk hk8 0
          have z1 : w8.cell? ⟨B + 2, 1, none⟩ = some (.string (bB q.2)) := cell_of_blk hk8 1
          have HB8 := hid (Kept.onto HB7.out hkp8 (by have := HBW.out; omega) (Nat.le_refl _))
          have HO8 := hid (HO7.out.kept hkp8 H57.out (by decide) (by decide))
          refine hK.out _ _ ?S6 (fun hHeld => ?M6)
          case S6 => exact hHeld.kept hkp8 (by have := HRW.out; omega) (by have := HRW.out; have := HN1.out; omega) (by have := HRW.out; have := HN1.out; have := HN2.out; omega)
          clear hK K hk8 hkp8
          try simp only [Act.put]
          try simp only [List.setIfInBounds_toArray]
          try simp only [List.set]
          refine wpAnyH_ready (rs := [7]) (by kernel_rfl) (by simp) ?p7
          refine AllReadyH.cons rfl (fun K hK => ?_) AllReadyH.nil
          go_simp
          refine hK.out _ _ ?S7 (fun hHeld => ?M7)
          case S7 => exact hHeld
          clear hK K
          try simp only [Act.put]
          try simp only [List.setIfInBounds_toArray]
          try simp only [List.set]
          refine wpAnyH_ready (rs := [8]) (by kernel_rfl) (by simp) ?p8
          refine AllReadyH.cons rfl (fun K hK => ?_) AllReadyH.nil
          go_simp
          refine hK.out _ _ ?S8 (fun hHeld => ?M8)
          case S8 => exact hHeld
          clear hK K
          try simp only [Act.put]
          try simp only [List.setIfInBounds_toArray]
          try simp only [List.set]
          refine wpAnyH_ready (rs := [9]) (by kernel_rfl) (by simp) ?p9
          refine AllReadyH.cons rfl (fun K hK => ?_) AllReadyH.nil
          go_simp
          refine hK.out _ _ ?S9 (fun hHeld => ?M9)
          case S9 => exact hHeld
          clear hK K
          try simp only [Act.put]
          try simp only [List.setIfInBounds_toArray]
          try simp only [List.set]
          refine wpAnyH_ready (rs := [10]) (by kernel_rfl) (by simp) ?p10
          refine AllReadyH.cons rfl (fun K hK => ?_) AllReadyH.nil
          go_simp
          refine hK.out _ _ ?S10 (fun hHeld => ?M10)
          case S10 => exact hHeld
          clear hK K
          try simp only [Act.put]
          try simp only [List.setIfInBounds_toArray]
          try simp only [List.set]
          refine wpAnyH_done (by kernel_rfl) ?_ _
          refine NoPanic.normal ?_
          go_wp2_with fail
          exact bodyPost_ret (v := .tuple #[.agg #[.string (bB o.1), .string (bB o.2)], .agg #[.string (bB q.1), .string (bB q.2)], .slice va hs'.length vc, .string x', .int .i64 0, .nilIface]) (by simp [results, Tryz.results48, go_sem, y0, y1, z0, z1]) rfl ⟨HB8.out, by
            rw [HRES2.out]
            exact ⟨_, by rw [bB_eta], HO8.out, HSZ.out, hlen⟩⟩
set_option maxHeartbeats 4000000 in
set_option maxRecDepth 100000 in
theorem parse_any {w : World} {s : ByteArray} (hv : LibV w) (hs : s.size ≤ maxLen) :
    Calls Tryz.prog 24 #[.string s] w fun e w' => Below w.heap.size w w' ∧ ParseAns w.heap.size w' e (Un.parse s.data.toList) := by
  obtain ⟨hb0, k1, k2⟩ := twoF w (.cells #[.string ⟨#[]⟩, .string ⟨#[]⟩] 23) (.cells #[.string ⟨#[]⟩, .string ⟨#[]⟩] 23)
  obtain ⟨B, hB⟩ : ∃ B, B = w.heap.size := ⟨_, rfl⟩
  have HBW := hid hB
  have HB0 := hid hb0
  have H40 := hid k1
  have H50 := hid k2
  have HFM := hid (fun w1 => format_any w1)
  have HFP := hid (fun w1 (h1 : LibV w1) => fparse_any (s := s) h1 hs)
  have HV := hid hv
  rw [← hB] at H40 H50
  clear hv hb0 k1 k2
  go_enter Tryz.func24, Tryz.ntmps24
  go_wp2_with fail
  rw [← hB]
  clear hB
  generalize (w.alloc (.cells #[.string ⟨#[]⟩, .string ⟨#[]⟩] 23)).alloc (.cells #[.string ⟨#[]⟩, .string ⟨#[]⟩] 23) = w0 at HB0 H40 H50 ⊢
  refine (HFM.out w0).mono ?_
  rintro e w1 ⟨rfl, hb1⟩
  have HB1 := hid (HB0.out.trans (hb1.mono HB0.out.size))
  have H41 := hid ((hb1.block B (lt_of_heap H40.out)).trans H40.out)
  have H51 := hid ((hb1.block (B + 1) (lt_of_heap H50.out)).trans H50.out)
  clear hb1 HB0 H40 H50
  go_wp2_with fail
  refine (HFP.out w1 (HV.out.below HB1.out)).mono ?_
  rintro e w2 ⟨hb2, hans⟩
  have HB2 := hid (HB1.out.trans (hb2.mono HB1.out.size))
  have H42 := hid ((hb2.block B (lt_of_heap H41.out)).trans H41.out)
  have H52 := hid ((hb2.block (B + 1) (lt_of_heap H51.out)).trans H51.out)
  have HS1 : Hid (w.heap.size ≤ w1.heap.size) := hid HB1.out.size
  clear hb2 HB1 H41 H51
  cases hp : Un.parse s.data.toList with
  | bad c er =>
    rw [hp] at hans
    have he : e = .returned (.tuple #[.agg #[.string ⟨#[]⟩, .string ⟨#[]⟩], .agg #[.string ⟨#[]⟩, .string ⟨#[]⟩], .slice none 0 0, .string ⟨#[]⟩, .int .i64 (c : Nat), .iface 42 (.int .i64 (er : Nat))]) := hans
    subst he
    have HP := hid hp
    clear hp hans
    go_wp2_with (guard_target =~ wpList _ _ _ (_ :: _) _ _; first | (refine wpList_stA 23 #[.string ⟨#[]⟩, .string ⟨#[]⟩] rfl rfl H42.out Tryz.sizeName rfl rfl rfl rfl ?_; intro w8 hk8 hkp8; have HK8 := hid hk8; have HP8 := hid hkp8; have HQ8 := hid ((hkp8.block (B + 1) (lt_of_heap H52.out) (by omega)).trans H52.out); clear hk8 hkp8) | (refine wpList_stA 23 #[.string ⟨#[]⟩, .string ⟨#[]⟩] rfl rfl HQ8.out Tryz.sizeName rfl rfl rfl rfl ?_; intro w9 hk9 hkp9; have y0 : w9.cell? ⟨B, 0, none⟩ = some (.string ⟨#[]⟩) := cell_of_blk ((hkp9.block B (lt_of_heap HK8.out) (by omega)).trans HK8.out) 0; have y1 : w9.cell? ⟨B, 1, none⟩ = some (.string ⟨#[]⟩) := cell_of_blk ((hkp9.block B (lt_of_heap HK8.out) (by omega)).trans HK8.out) 1; have z0 : w9.cell? ⟨B + 1, 0, none⟩ = some (.string ⟨#[]⟩) := cell_of_blk hk9 0; have z1 : w9.cell? ⟨B + 1, 1, none⟩ = some (.string ⟨#[]⟩) := cell_of_blk hk9 1; have HP9 := hid hkp9; clear hk9 hkp9))
    exact bodyPost_ret (v := .tuple #[.agg #[.string ⟨#[]⟩, .string ⟨#[]⟩], .agg #[.string ⟨#[]⟩, .string ⟨#[]⟩], .slice none 0 0, .string ⟨#[]⟩, .int .i64 (c : Nat), .iface 42 (.int .i64 (er : Nat))]) (by simp [results, Tryz.results24, go_sem, y0, y1, z0, z1]) rfl ⟨Kept.onto (Kept.onto HB2.out HP8.out (Nat.le_of_eq HBW.out.symm) (Nat.le_refl _)) HP9.out (by have := HBW.out; omega) (Nat.le_refl _), by rw [HP.out]; rfl⟩
  | ok o q hs' rest =>
    rw [hp] at hans
    obtain ⟨v, he, hO, hsz, hlen⟩ := hans
    subst he
    have HP := hid hp
    have HO := hid (hO.mono HS1.out)
    have HSZ := hid hsz
    obtain ⟨va, vc, rfl⟩ := hO.shape
    clear hp hO hsz
    go_wp2_with (guard_target =~ wpList _ _ _ (_ :: _) _ _; first | (refine wpList_stA 23 #[.string (bB o.1), .string (bB o.2)] rfl rfl H42.out Tryz.sizeName rfl rfl rfl rfl ?_; intro w8 hk8 hkp8; have HK8 := hid hk8; have HP8 := hid hkp8; have HQ8 := hid ((hkp8.block (B + 1) (lt_of_heap H52.out) (by omega)).trans H52.out); clear hk8 hkp8) | (refine wpList_stA 23 #[.string (bB q.1), .string (bB q.2)] rfl rfl HQ8.out Tryz.sizeName rfl rfl rfl rfl ?_; intro w9 hk9 hkp9; have y0 : w9.cell? ⟨B, 0, none⟩ = some (.string (bB o.1)) := cell_of_blk ((hkp9.block B (lt_of_heap HK8.out) (by omega)).trans HK8.out) 0; have y1 : w9.cell? ⟨B, 1, none⟩ = some (.string (bB o.2)) := cell_of_blk ((hkp9.block B (lt_of_heap HK8.out) (by omega)).trans HK8.out) 1; have z0 : w9.cell? ⟨B + 1, 0, none⟩ = some (.string (bB q.1)) := cell_of_blk hk9 0; have z1 : w9.cell? ⟨B + 1, 1, none⟩ = some (.string (bB q.2)) := cell_of_blk hk9 1; have HP9 := hid hkp9; clear hk9 hkp9))
    exact bodyPost_ret (v := .tuple #[.agg #[.string (bB o.1), .string (bB o.2)], .agg #[.string (bB q.1), .string (bB q.2)], .slice va hs'.length vc, .string (bB rest), .int .i64 0, .nilIface]) (by simp [results, Tryz.results24, go_sem, y0, y1, z0, z1]) rfl ⟨Kept.onto (Kept.onto HB2.out HP8.out (Nat.le_of_eq HBW.out.symm) (Nat.le_refl _)) HP9.out (by have := HBW.out; omega) (Nat.le_refl _), by rw [HP.out]; exact ⟨_, rfl, (HO.out.kept HP8.out H42.out (by decide) (by decide)).kept HP9.out HQ8.out (by decide) (by decide), HSZ.out, hlen⟩⟩
end Go.Proofs.YtkolgglllladfaaGreatDoor
