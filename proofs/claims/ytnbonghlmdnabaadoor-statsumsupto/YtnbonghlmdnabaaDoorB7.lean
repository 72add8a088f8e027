/-
  The walk of the program's columnsOf.
-/
import Derived.Test.YtnbonghlmdnabaaDoorB6
import Derived.Deep.DeepCutAuto
namespace Go.Proofs.YtnbonghlmdnabaaDoor.Sx
open Go.RowKit

theorem cl_size : (Tryd.prog.info? 84).map (·.size) = some 4 := by kernel_rfl
def colsV (k : Cols) : Value := .agg #[.int .i64 (k.name : Int), .int .i64 (k.number : Int), .int .i64 k.bar, .int .i64 k.most]
abbrev clO (a b c d : Int) : Obj := .cells #[.int .i64 a, .int .i64 b, .int .i64 c, .int .i64 d] 84
theorem set_heapK (w : World) (g k : Nat) (cs : Array Value) (t : TypeId) (u : Value) (h : w.heap[g]? = some (.cells cs t)) : (w.setCell ⟨g, k, none⟩ u).heap[g]? = some (.cells (cs.setIfInBounds k u) t) := by
  have hl := lt_of_heap h
  have he : w.heap[g] = .cells cs t := by rw [Array.getElem?_eq_getElem hl] at h; exact Option.some.inj h
  simp [World.setCell, hl, Array.getElem_modify, he]
theorem set_otherK (w : World) {g k j : Nat} {u : Value} (h : j ≠ g) : (w.setCell ⟨g, k, none⟩ u).heap[j]? = w.heap[j]? := by
  simp [World.setCell, Array.getElem?_modify, Ne.symm h]
theorem frozK {w : World} {g : Nat} {cs : Array Value} {t : TypeId} (h : w.heap[g]? = some (.cells cs t)) (o : Nat) : w.frozen? ⟨g, o, none⟩ = false := by
  simp [World.frozen?, h]
theorem drew_heapK (w : World) (m j : Nat) : (w.drewN m).heap[j]? = w.heap[j]? := rfl
/-- what holds between the rounds -/
structure ClI (w wr : World) (G : Nat) (a d : Int) : Prop where
  r : wr.heap[G]? = some (clO 0 0 0 0)
  c : wr.heap[G + 1]? = some (clO a 0 0 d)
  b : Below G w wr
theorem ClI.later {w wr w2 : World} {G : Nat} {a d : Int} (h : ClI w wr G a d) (hb : Below wr.heap.size wr w2) : ClI w w2 G a d :=
  ⟨(hb.block _ (lt_of_heap h.r)).trans h.r, (hb.block _ (lt_of_heap h.c)).trans h.c, h.b.trans (hb.mono (Nat.le_of_lt (lt_of_heap h.r)))⟩
theorem ClI.set0 {w wr : World} {G : Nat} {a d : Int} (h : ClI w wr G a d) (x : Int) : ClI w (wr.setCell ⟨G + 1, 0, none⟩ (.int .i64 x)) G x d :=
  ⟨(set_otherK wr (by omega)).trans h.r, set_heapK wr _ 0 _ _ _ h.c, h.b.setCell (Nat.le_succ _) _⟩
theorem ClI.set3 {w wr : World} {G : Nat} {a d : Int} (h : ClI w wr G a d) (x : Int) : ClI w (wr.setCell ⟨G + 1, 3, none⟩ (.int .i64 x)) G a x :=
  ⟨(set_otherK wr (by omega)).trans h.r, set_heapK wr _ 3 _ _ _ h.c, h.b.setCell (Nat.le_succ _) _⟩
theorem ClI.drew {w wr : World} {G : Nat} {a d : Int} (h : ClI w wr G a d) (m : Nat) : ClI w (wr.drewN m) G a d :=
  ⟨h.r, h.c, below_drewN h.b m⟩
theorem nameW_len (l : List Ct) (k : Nat) : nameW (l.take k) ≤ nameW l := nameW_bound fun _ hx => nameW_mem (List.mem_of_mem_take hx)
theorem all_takeK {l : List Ct} (k : Nat) (h : l.all okC = true) : (l.take k).all okC = true := List.all_eq_true.2 fun x hx => List.all_eq_true.1 h x (List.mem_of_mem_take hx)
set_option maxHeartbeats 4000000 in
theorem columnsOf_any {w : World} {v u : Value} {l : List Ct} (width : Int) (hr : RdK w v l) (hu : RdT w u (l.map qB)) (hn : l.length ≤ 65536) (hok : l.all okC = true) (hw : nameW l ≤ 140737488355328) (hwd : 0 ≤ width ∧ width ≤ 1020) (hp : PowK w) :
    Calls Tryd.prog 38 #[v, u, .int .i64 width] w fun e w' => e = .returned (colsV (colsOf l width)) ∧ Below w.heap.size w w' := by
  obtain ⟨a, c, rfl⟩ := hr.shape
  obtain ⟨a2, c2, rfl⟩ := hu.shape
  obtain ⟨n, hnn⟩ : ∃ n, n = l.length := ⟨_, rfl⟩
  have hnm : (l.map qB).length = n := by rw [List.length_map, hnn]
  have HR := hid hr
  have HU := hid hu
  have HN := hid hnn
  have HOK := hid hok
  have HW := hid hw
  have HP := hid hp
  rw [hnm] at HU ⊢
  rw [← hnn] at HR hn ⊢
  have H2 := hid (two_new w (clO 0 0 0 0) (clO 0 0 0 0))
  obtain ⟨G, hG⟩ : ∃ G, G = w.heap.size := ⟨_, rfl⟩
  have HG := hid hG
  clear hr hu hnn hok hw hp hnm
  go_enter Tryd.func38, Tryd.ntmps38
  go_wp2_with fail
  rw [← hG] at H2 ⊢
  clear hG
  generalize (w.alloc (.cells #[.int .i64 0, .int .i64 0, .int .i64 0, .int .i64 0] 84)).alloc (.cells #[.int .i64 0, .int .i64 0, .int .i64 0, .int .i64 0] 84) = w0 at H2 ⊢
  go_loopw [13] (fun i wr => ∃ k : Nat, k ≤ n ∧ i = .int .i64 k ∧ Hid (ClI w wr G (nameW (l.take k) : Int) (mostL (l.take k)))) (fun i _ => n - (intOf i).toNat)
  case atStart => exact ⟨0, Nat.zero_le _, rfl, hid ⟨H2.out.2.1, H2.out.2.2, H2.out.1⟩⟩
  case round =>
    obtain ⟨k, hk, rfl, HI⟩ := hrel
    clear H2
    by_cases hlt : k < n
    · obtain ⟨x, hx⟩ : ∃ x, l[k]? = some x := ⟨_, List.getElem?_eq_getElem (by have := HN.out; omega)⟩
      have hbw : Below w.heap.size w wr := by have := HI.out.b; rw [HG.out] at this; exact this
      obtain ⟨b1, o1, e1, hb1, d0, d1, d2⟩ := rdK_at (RdX.below HR.out hbw) hx
      obtain ⟨b2, o2, e2, hb2, g0⟩ := rdT_at (RdX.below HU.out hbw) (k := k) (x := qB x) (by rw [List.getElem?_map, hx]; rfl)
      subst e1 e2
      have hxb := okC_iff.1 (List.all_eq_true.1 HOK.out x (List.mem_of_getElem? hx))
      have hq1 : (qB x).size ≤ 140737488355328 := by unfold qB; rw [bB_size]; exact Nat.le_trans (nameW_mem (List.mem_of_getElem? hx)) HW.out
      have hq2 := Nat.le_trans (nameW_len l k) HW.out
      have HT1 : Hid (max (nameW (l.take k) : Int) ((qB x).size : Int) = (nameW (l.take (k + 1)) : Int)) := hid (by rw [nameW_take hx]; unfold qB; rw [bB_size]; omega)
      have HT2 : Hid (max (mostL (l.take k)) (x.a + x.d) = mostL (l.take (k + 1))) := hid (mostL_take hx).symm
      have hm1 := mostL_bound (all_takeK k HOK.out)
      have HLn := hid (fun w' => ctLines_any x w' ⟨by omega, by omega⟩)
      unfold CtV at HLn
      have HNB := hid (one_new wr (ctO x.nm x.a x.d))
      obtain ⟨nW, hnW⟩ : ∃ s : Int, s = (nameW (l.take k) : Int) := ⟨_, rfl⟩
      obtain ⟨mo, hmo⟩ : ∃ s, s = mostL (l.take k) := ⟨_, rfl⟩
      obtain ⟨nW', hnW'⟩ : ∃ s : Int, s = (nameW (l.take (k + 1)) : Int) := ⟨_, rfl⟩
      obtain ⟨mo', hmo'⟩ : ∃ s, s = mostL (l.take (k + 1)) := ⟨_, rfl⟩
      have HNW' := hid hnW'
      have HMO' := hid hmo'
      rw [← hnW] at HT1 HI
      rw [← hmo] at HT2 HI hm1
      rw [← hnW'] at HT1
      rw [← hmo'] at HT2
      generalize x.a + x.d = lx at HT2 HLn
      have hmx1 : ∀ X : World, (Builtin.max_ #[3, 3] 3 #[.int .i64 nW, .int .i64 ((qB x).size : Int)]).run Tryd.prog X = .ok (.int .i64 nW') X := fun X => by rw [← HT1.out]; exact run_maxI _ _ _ X
      have hmx2 : ∀ X : World, (Builtin.max_ #[3, 3] 3 #[.int .i64 mo, .int .i64 lx]).run Tryd.prog X = .ok (.int .i64 mo') X := fun X => by rw [← HT2.out]; exact run_maxI _ _ _ X
      have i1 : (0 : Int) ≤ (k : Int) := by omega
      have i2 : (k : Int) < (n : Int) := by omega
      generalize qB x = Q at g0 hq1 hmx1
      have HG0 : Hid ((wr.alloc (ctO x.nm x.a x.d)).cell? ⟨b2, o2 + k, none⟩ = some (.string Q)) := hid ((HNB.out.1.cell (p := ⟨b2, o2 + k, none⟩) hb2).trans g0)
      clear hx hbw hb1 hb2 hnW hmo hnW' hmo' hxb hq2 hm1 HT1 HT2 g0
      go_wp2_with fail
      obtain ⟨E, hE⟩ : ∃ E, E = wr.heap.size := ⟨_, rfl⟩
      rw [← hE]
      rw [← hE] at HNB
      have HE := hid hE
      have HI1 := hid (HI.out.later (by have := HNB.out.1; rw [hE] at this; exact this))
      clear hE d0 d1 d2
      generalize wr.alloc (.cells #[.string x.nm, .int .i64 x.a, .int .i64 x.d] 38) = w1 at HG0 HNB HI1 ⊢
      have g0 := HG0.out
      have y0 : w1.cell? ⟨G + 1, 0, none⟩ = some (.int .i64 nW) := cell_of_blk HI1.out.c 0
      refine wp_region_qtail 9 (by kernel_rfl) (by kernel_rfl) ?_
      simp only [List.take_succ_cons, List.take_zero, List.drop_succ_cons, List.drop_zero]
      repeat go_big_quiet_step (fail)
      refine wpQuiet_nil ?_
      have HI2 := hid (HI1.out.drew 1)
      have HE2 : Hid ((w1.drewN 1).heap[E]? = some (ctO x.nm x.a x.d)) := hid ((drew_heapK w1 1 E).trans HNB.out.2)
      generalize w1.drewN 1 = w2 at HI2 HE2 ⊢
      clear y0 g0 HG0 hmx1 HNB HI1 HI
      have f0 : w2.frozen? ⟨G + 1, 0, none⟩ = false := frozK HI2.out.c 0
      have c0 : w2.cell? ⟨G + 1, 0, none⟩ = some (.int .i64 nW) := cell_of_blk HI2.out.c 0
      go_upto_region 1 with fail
      have HI3 := hid (HI2.out.set0 nW')
      have HEG : Hid (E ≠ G + 1) := hid (fun e => by
        have h1 := HE2.out
        rw [e, HI2.out.c] at h1
        injection h1 with h2
        injection h2 with h3 h4
        exact absurd h4 (by decide))
      have HE3 : Hid ((w2.setCell ⟨G + 1, 0, none⟩ (.int .i64 nW')).heap[E]? = some (ctO x.nm x.a x.d)) := hid ((set_otherK w2 HEG.out).trans HE2.out)
      generalize w2.setCell ⟨G + 1, 0, none⟩ (.int .i64 nW') = w3 at HI3 HE3 ⊢
      clear f0 c0 HI2 HE2
      have y3 : w3.cell? ⟨G + 1, 3, none⟩ = some (.int .i64 mo) := cell_of_blk HI3.out.c 3
      have f3 : w3.frozen? ⟨G + 1, 3, none⟩ = false := frozK HI3.out.c 3
      have e0 : w3.cell? ⟨E, 0, none⟩ = some (.string x.nm) := cell_of_blk HE3.out 0
      have e1 : w3.cell? ⟨E, 1, none⟩ = some (.int .i64 x.a) := cell_of_blk HE3.out 1
      have e2 : w3.cell? ⟨E, 2, none⟩ = some (.int .i64 x.d) := cell_of_blk HE3.out 2
      go_region_with (go_at_call 50; refine (HLn.out _).mono ?_; rintro e w5 ⟨rfl, hb5⟩; have HI5 := hid (ClI.later (by first | exact HI3.out | exact HI3.out.drew _) hb5); have z3 : w5.cell? ⟨G + 1, 3, none⟩ = some (.int .i64 mo) := cell_of_blk HI5.out.c 3; have k3 : w5.frozen? ⟨G + 1, 3, none⟩ = false := frozK HI5.out.c 3; clear hb5)
      all_goals
        have HI6 := hid (HI5.out.set3 mo')
        go_wp2
        go_roundw
        case rel => exact ⟨k + 1, by omega, by go_num, by rw [← HNW'.out, ← HMO'.out]; first | exact HI6 | exact hid (HI6.out.drew _)⟩
        case measure => simp [intOf]; omega
    · have HT : Hid (l.take k = l) := hid (List.take_of_length_le (by have := HN.out; omega))
      rw [HT.out] at HI
      have hm1 := mostL_bound HOK.out
      have hl := dec_len (n := mostL l) (by omega) (by omega)
      have hnb : (nameW l : Int) ≤ 140737488355328 := by have := HW.out; omega
      have hn0 : (0 : Int) ≤ (nameW l : Int) := by omega
      have hPw : PowK wr := HP.out.later (by have := HI.out.b; rw [HG.out] at this; exact this)
      have HIt := hid (itoaK_any (mostL l) wr hPw (by omega) (by omega))
      have HZ : Hid (colsV (colsOf l width) = .agg #[.int .i64 (nameW l : Int), .int .i64 ((bB (dec (mostL l))).size : Int), .int .i64 (max (width - (nameW l : Int) - ((bB (dec (mostL l))).size : Int) - 5) 10), .int .i64 (mostL l)]) := hid (by unfold colsV colsOf; rw [bB_size])
      have hl2 : (bB (dec (mostL l))).size ≤ 21 := by rw [bB_size]; exact hl
      generalize bB (dec (mostL l)) = D at HIt HZ hl2
      generalize mostL l = mo at *
      generalize (nameW l : Int) = nW at *
      have y3 : wr.cell? ⟨G + 1, 3, none⟩ = some (.int .i64 mo) := cell_of_blk HI.out.c 3
      clear hm1 hl hPw
      go_wp2_with fail
      refine HIt.out.mono ?_
      rintro e w1 ⟨rfl, hb1⟩
      have HI1 := hid (HI.out.later hb1)
      have f1 : w1.frozen? ⟨G + 1, 1, none⟩ = false := frozK HI1.out.c 1
      have c1 : w1.cell? ⟨G + 1, 1, none⟩ = some (.int .i64 0) := cell_of_blk HI1.out.c 1
      clear hb1 HIt y3 HI
      have HC2 : Hid ((w1.setCell ⟨G + 1, 1, none⟩ (.int .i64 (D.size : Int))).heap[G + 1]? = some (clO nW D.size 0 mo)) := hid (set_heapK w1 _ 1 _ _ _ HI1.out.c)
      have HR2 : Hid ((w1.setCell ⟨G + 1, 1, none⟩ (.int .i64 (D.size : Int))).heap[G]? = some (clO 0 0 0 0)) := hid ((set_otherK w1 (by omega)).trans HI1.out.r)
      have HB2 : Hid (Below G w (w1.setCell ⟨G + 1, 1, none⟩ (.int .i64 (D.size : Int)))) := hid (HI1.out.b.setCell (Nat.le_succ _) _)
      have a0 : (w1.setCell ⟨G + 1, 1, none⟩ (.int .i64 (D.size : Int))).cell? ⟨G + 1, 0, none⟩ = some (.int .i64 nW) := cell_of_blk HC2.out 0
      have a1 : (w1.setCell ⟨G + 1, 1, none⟩ (.int .i64 (D.size : Int))).cell? ⟨G + 1, 1, none⟩ = some (.int .i64 (D.size : Int)) := cell_of_blk HC2.out 1
      have a2 : (w1.setCell ⟨G + 1, 1, none⟩ (.int .i64 (D.size : Int))).cell? ⟨G + 1, 2, none⟩ = some (.int .i64 0) := cell_of_blk HC2.out 2
      have f2 : (w1.setCell ⟨G + 1, 1, none⟩ (.int .i64 (D.size : Int))).frozen? ⟨G + 1, 2, none⟩ = false := frozK HC2.out 2
      have s1 : IntKind.i64.wrap (width - nW) = width - nW := wrapI (by omega) (by omega)
      have s2 : IntKind.i64.wrap (width - nW - (D.size : Int)) = width - nW - (D.size : Int) := wrapI (by omega) (by omega)
      have s3 : IntKind.i64.wrap (width - nW - (D.size : Int) - 5) = width - nW - (D.size : Int) - 5 := wrapI (by omega) (by omega)
      have hmx : ∀ X : World, (Builtin.max_ #[3, 3] 3 #[.int .i64 (width - nW - (D.size : Int) - 5), .int .i64 10]).run Tryd.prog X = .ok (.int .i64 (max (width - nW - (D.size : Int) - 5) 10)) X := run_maxI _ _ _
      generalize max (width - nW - (D.size : Int) - 5) 10 = bw at HZ hmx
      have HC3 : Hid (((w1.setCell ⟨G + 1, 1, none⟩ (.int .i64 (D.size : Int))).setCell ⟨G + 1, 2, none⟩ (.int .i64 bw)).heap[G + 1]? = some (clO nW D.size bw mo)) := hid (set_heapK _ _ 2 _ _ _ HC2.out)
      have HR3 : Hid (((w1.setCell ⟨G + 1, 1, none⟩ (.int .i64 (D.size : Int))).setCell ⟨G + 1, 2, none⟩ (.int .i64 bw)).heap[G]? = some (clO 0 0 0 0)) := hid ((set_otherK _ (by omega)).trans HR2.out)
      have HB3 : Hid (Below G w ((w1.setCell ⟨G + 1, 1, none⟩ (.int .i64 (D.size : Int))).setCell ⟨G + 1, 2, none⟩ (.int .i64 bw))) := hid (HB2.out.setCell (Nat.le_succ _) _)
      have b0 : ((w1.setCell ⟨G + 1, 1, none⟩ (.int .i64 (D.size : Int))).setCell ⟨G + 1, 2, none⟩ (.int .i64 bw)).cell? ⟨G + 1, 0, none⟩ = some (.int .i64 nW) := cell_of_blk HC3.out 0
      have b1 : ((w1.setCell ⟨G + 1, 1, none⟩ (.int .i64 (D.size : Int))).setCell ⟨G + 1, 2, none⟩ (.int .i64 bw)).cell? ⟨G + 1, 1, none⟩ = some (.int .i64 (D.size : Int)) := cell_of_blk HC3.out 1
      have b2 : ((w1.setCell ⟨G + 1, 1, none⟩ (.int .i64 (D.size : Int))).setCell ⟨G + 1, 2, none⟩ (.int .i64 bw)).cell? ⟨G + 1, 2, none⟩ = some (.int .i64 bw) := cell_of_blk HC3.out 2
      have b3 : ((w1.setCell ⟨G + 1, 1, none⟩ (.int .i64 (D.size : Int))).setCell ⟨G + 1, 2, none⟩ (.int .i64 bw)).cell? ⟨G + 1, 3, none⟩ = some (.int .i64 mo) := cell_of_blk HC3.out 3
      clear HI1 HC2 HR2 HB2
      go_wp2_with (guard_target =~ wpList _ _ _ (_ :: _) _ _; refine wpList_stK 84 #[.int .i64 nW, .int .i64 (D.size : Int), .int .i64 bw, .int .i64 mo] rfl rfl HR3.out cl_size rfl rfl rfl rfl ?_; intro w4 hk4 hkp4; have HK4 := hid hk4; have HB4 := hid (kept_below HB3.out hkp4 (Nat.le_refl _) (lt_of_heap HR3.out)); clear hk4 hkp4)
      refine bodyPost_ret_by (results_cell_row Tryd.results38 _ _ G _ _ _ _ rfl HK4.out Tryd.underlying84 rfl (by kernel_rfl)) rfl ?_
      exact ⟨by rw [HZ.out], by have := HB4.out; rw [HG.out] at this; exact this⟩
end Go.Proofs.YtnbonghlmdnabaaDoor.Sx
