/-
  The document's Script (made by wip/genue.py).
-/
import Derived.Test.YtnamioihapnefaaGreatDoorUd
import Derived.Test.YtnamioihapnefaaGreatDoorKe
import Derived.Test.YtnamioihapnefaaGreatDoorGrD5
import Derived.Great.BuildSlice
namespace Go.Proofs.YtnamioihapnefaaGreatDoor
open Go.RowKit
open Hu (Rw Hk)
open Ed (Ch)

theorem scrS_kb {r : Rw} {l : List Rw} {x y : Int} {cur : Option Ch} (h : r.k = 1) : Hu.scrS (r :: l) x y cur = cur.toList ++ Hu.scrS l (x + 1) (y + 1) none := by rw [Hu.scrS, if_pos h]
theorem scrS_ko {r : Rw} {l : List Rw} {x y : Int} {cur : Option Ch} (h1 : ¬ r.k = 1) (h : r.k = 2) : Hu.scrS (r :: l) x y cur = Hu.scrS l (x + 1) y (some (Hu.addO x y cur)) := by rw [Hu.scrS, if_neg h1, if_pos h]
theorem scrS_kf {r : Rw} {l : List Rw} {x y : Int} {cur : Option Ch} (h1 : ¬ r.k = 1) (h : ¬ r.k = 2) : Hu.scrS (r :: l) x y cur = Hu.scrS l x (y + 1) (some (Hu.addF x y cur)) := by rw [Hu.scrS, if_neg h1, if_neg h]
theorem setRow_below {B : Nat} {w W : World} (hb : Below B w W) {g : Nat} (hg : B ≤ g) (cs : Array Value) : Below B w (W.setRow g cs) :=
  ⟨hb.os, hb.tape, hb.output, by have := hb.size; unfold World.setRow; simpa using this, fun k hk => (setRow_other W cs (by omega : k ≠ g)).trans (hb.block k hk)⟩
theorem Tryz.sizeChange : (Tryz.prog.info? 49).map (·.size) = some 4 := by kernel_rfl
/-- a whole change written -/
theorem wpList_stC {ops : Array Oper} {rest : List Oper} {o : Oper} {a : Act} {W : World} {Q : Exit → Act → World → Prop} {x y : Operand} (ho : o.op = .store 49 x y) (hgd : o.guard = none) {g : Nat} {c d : Ch} (hg : W.heap[g]? = some (.cells #[.int .i64 c.a, .int .i64 c.n, .int .i64 c.b, .int .i64 c.m] 49)) (hx : a.eval x = .pointer (some ⟨g, 0, none⟩)) (hy : a.eval y = .agg #[.int .i64 d.a, .int .i64 d.n, .int .i64 d.b, .int .i64 d.m])
    (h : ∀ W', W'.heap[g]? = some (.cells #[.int .i64 d.a, .int .i64 d.n, .int .i64 d.b, .int .i64 d.m] 49) → (∀ j, j ≠ g → W'.heap[j]? = W.heap[j]?) → (∀ B w0, Below B w0 W → B ≤ g → Below B w0 W') → wpList Tryz.prog ops Q rest (a.put o.dst undef) W') : wpList Tryz.prog ops Q (o :: rest) a W :=
  wpList_plain hgd fun _ hK => by
    unfold Oper.wp execOp
    have hst : (Instr.storeAt 49 (.pointer (some ⟨g, 0, none⟩)) (.agg #[.int .i64 d.a, .int .i64 d.n, .int .i64 d.b, .int .i64 d.m])).run Tryz.prog W = .ok () (W.setRow g #[.int .i64 d.a, .int .i64 d.n, .int .i64 d.b, .int .i64 d.m]) := by
      simp only [Instr.storeAt, Instr.sureAddr, Sem.run_bind, Sem.run_pure, Result.andThen_ok, run_storeVar_row W g _ _ _ #[.int .i64 d.a, .int .i64 d.n, .int .i64 d.b, .int .i64 d.m] hg (by rw [Tryz.sizeChange]; rfl) rfl (by simp [Value.oneCell'])]
    simp only [ho, hx, hy, Sem.run_bind, hst, Result.andThen_ok]
    exact hK _ _ (h _ (setRow_heap W g _ _ _ hg) (fun j hj => setRow_other W _ hj) (fun B w0 hb hB => setRow_below hb hB _))
theorem own_set {w : World} {B n size cb i : Nat} {e : TypeId} {v u : Value} {xs : List Value} (h : w.ownsRow B e size v n xs) (hne : v.ownBlock ≠ some cb) : (w.setCell ⟨cb, i, none⟩ u).ownsRow B e size v n xs := own_far h (fun _ hg => set_other _ (fun e => hne (e ▸ hg)))
/-- what holds between two rounds over the rows -/
def RsI (xr : List Rw) (P Q : Int) (D0 D : List Ch) (j : Nat) (x y : Int) (cur : Option Ch) : Prop :=
  (j ≤ xr.length ∧ D ++ Hu.scrS (xr.drop j) x y cur = D0 ++ Hu.scrS xr P Q none) ∨ (j = xr.length + 1 ∧ D = D0 ++ Hu.scrS xr P Q none)
theorem RsI.both {xr : List Rw} {P Q : Int} {D0 D : List Ch} {j : Nat} {x y : Int} {cur : Option Ch} {r : Rw} (h : RsI xr P Q D0 D j x y cur) (hr : xr[j]? = some r) (hk : r.k = 1) : RsI xr P Q D0 (D ++ cur.toList) (j + 1) (x + 1) (y + 1) none := by
  have hlt := (List.getElem?_eq_some_iff.1 hr).1
  rcases h with ⟨h1, h2⟩ | ⟨h1, _⟩
  · refine .inl ⟨hlt, ?_⟩
    rw [dropW hr, scrS_kb hk] at h2
    rw [List.append_assoc]
    exact h2
  · omega
theorem RsI.last {xr : List Rw} {P Q : Int} {D0 D : List Ch} {x y : Int} {cur : Option Ch} (h : RsI xr P Q D0 D xr.length x y cur) : RsI xr P Q D0 (D ++ cur.toList) (xr.length + 1) (x + 1) (y + 1) none := by
  rcases h with ⟨h1, h2⟩ | ⟨h1, _⟩
  · refine .inr ⟨rfl, ?_⟩
    rw [List.drop_length] at h2
    exact h2
  · omega
theorem RsI.old {xr : List Rw} {P Q : Int} {D0 D : List Ch} {j : Nat} {x y : Int} {cur : Option Ch} {r : Rw} (h : RsI xr P Q D0 D j x y cur) (hr : xr[j]? = some r) (h1 : ¬ r.k = 1) (hk : r.k = 2) : RsI xr P Q D0 D (j + 1) (x + 1) y (some (Hu.addO x y cur)) := by
  have hlt := (List.getElem?_eq_some_iff.1 hr).1
  rcases h with ⟨_, h2⟩ | ⟨h1, _⟩
  · refine .inl ⟨hlt, ?_⟩
    rw [dropW hr, scrS_ko h1 hk] at h2
    exact h2
  · omega
theorem RsI.new {xr : List Rw} {P Q : Int} {D0 D : List Ch} {j : Nat} {x y : Int} {cur : Option Ch} {r : Rw} (h : RsI xr P Q D0 D j x y cur) (hr : xr[j]? = some r) (h1 : ¬ r.k = 1) (hk : ¬ r.k = 2) : RsI xr P Q D0 D (j + 1) x (y + 1) (some (Hu.addF x y cur)) := by
  have hlt := (List.getElem?_eq_some_iff.1 hr).1
  rcases h with ⟨_, h2⟩ | ⟨h1, _⟩
  · refine .inl ⟨hlt, ?_⟩
    rw [dropW hr, scrS_kf h1 hk] at h2
    exact h2
  · omega
def chCells (c : Ch) : Obj := .cells #[.int .i64 c.a, .int .i64 c.n, .int .i64 c.b, .int .i64 c.m] 49
/-- the change that is under way, in its block -/
def CuI (w : World) (cb : Nat) (j : Nat) (cur : Option Ch) (cc : Ch) : Prop := w.heap[cb]? = some (.cells #[.int .i64 cc.a, .int .i64 cc.n, .int .i64 cc.b, .int .i64 cc.m] 49) ∧ (∀ c, cur = some c → cc = c) ∧ 0 ≤ cc.n ∧ cc.n ≤ j ∧ 0 ≤ cc.m ∧ cc.m ≤ j
set_option maxHeartbeats 8000000 in
set_option maxRecDepth 100000 in
theorem rScript_ord {w : World} {v : Value} {l : List Hk} {n m : Int} (hv : RdH w v l) (hl : l.length < 1954687338260) (hz : ∀ h ∈ l, SzH h) (ho : Hu.orderN l = 0) (EK : Nat) (hEK : EK = if Ed.validN (Hu.scr l) n m = 0 then 0 else 60) :
    Calls Tryz.prog 23 #[v, .int .i64 n, .int .i64 m] w fun e w' => ∃ v', e = .returned (.tuple #[v', .int .i64 (EK : Nat)]) ∧ OwnC w' w.heap.size v' (nrmA (Hu.scr l) n m) ∧ Below w.heap.size w w' := by
  have HS := hid (Hu.scr_small ho)
  have HEK := hid hEK
  clear hEK
  have HOR := hid (fun w1 (hb : Below w.heap.size w w1) => rOrder_any (hv.below hb) hl hz)
  rw [ho, show ((0 : Nat) : Int) = 0 from rfl] at HOR
  have hall : ∀ h ∈ l, Hu.vld h = true := by
    unfold Hu.orderN at ho
    split at ho
    · next h => exact List.all_eq_true.1 h
    · cases ho
  obtain ⟨av, cv, rfl⟩ := hv.shape
  have HV := hid hv
  have HZ := hid hz
  have HALL := hid hall
  obtain ⟨M, hM⟩ : ∃ M, M = l.length := ⟨_, rfl⟩
  have HL := hid hM
  rw [← hM] at HV hl HOR ⊢
  clear hv hz hall hM ho
  go_enter Tryz.func23, Tryz.ntmps23
  go_wp2_with fail
  refine (HOR.out _ (Below.refl _ _)).mono ?_
  rintro e w1 ⟨rfl, hb1⟩
  have HB1 := hid hb1
  clear hb1 HOR
  go_wp2_with fail
  go_loopw [9, 10] (fun vo ii wr => ∃ (k : Nat), k ≤ M ∧ ii = .int .i64 k ∧ Hid (OwnC wr w.heap.size vo (Hu.scr (l.take k))) ∧ Hid (Below w.heap.size w wr)) (fun _ ii _ => M - (intOf ii).toNat)
  case atStart => exact ⟨0, Nat.zero_le _, rfl, hid (World.ownsRow_nil _ _ _ _), HB1⟩
  case round =>
    obtain ⟨k, hk, rfl, HO, HB⟩ := hrel
    obtain ⟨ao, co, eo⟩ := own_shape HO.out
    subst eo
    by_cases hlt : k < M
    · obtain ⟨x, hx⟩ : ∃ x, l[k]? = some x := ⟨_, List.getElem?_eq_getElem (by have := HL.out; omega)⟩
      obtain ⟨b1, o1, u, e1, hb1, d0, d1, d2, d3, d4, d5, hu⟩ := rdH_at HV.out hx
      have HCL := hid (fun w1 (h : Below w.heap.size w w1) => And.intro ((h.cell (p := ⟨b1, _, none⟩) hb1).trans d0) (And.intro ((h.cell (p := ⟨b1, _, none⟩) hb1).trans d1) (And.intro ((h.cell (p := ⟨b1, _, none⟩) hb1).trans d2) (And.intro ((h.cell (p := ⟨b1, _, none⟩) hb1).trans d3) ((h.cell (p := ⟨b1, _, none⟩) hb1).trans d5)))))
      subst e1
      have hmem := List.mem_of_getElem? hx
      have hvx := HALL.out x hmem
      obtain ⟨hs1, hs2, hs3⟩ := vld_small hvx
      have hpl := vld_pl hvx
      have HTK := hid (takeH hx)
      have HSC := hid (Hu.scrH_eq (h := x) hs2)
      have HSL := hid (Nat.le_trans (scr_len hx) HS.out)
      obtain ⟨xa, xn, xb, xm, xh, xr⟩ := x
      dsimp only at HCL hu hs1 hs3 HSC
      obtain ⟨ua, uc, rfl⟩ := hu.shape
      have HP1 := hid (fun w1 => rPlace_any xa xn w1 hpl.1 hpl.2.1)
      have HP2 := hid (fun w1 => rPlace_any xb xm w1 hpl.2.2.1 hpl.2.2.2)
      obtain ⟨P, hP⟩ : ∃ P, P = Hu.plc xa xn := ⟨_, rfl⟩
      obtain ⟨Q, hQ⟩ : ∃ Q, Q = Hu.plc xb xm := ⟨_, rfl⟩
      rw [← hP] at HP1 hs3 HSC
      rw [← hQ] at HP2 hs3 HSC
      have HRU := hid hu
      obtain ⟨N, hN⟩ : ∃ N, N = xr.length := ⟨_, rfl⟩
      have HN := hid hN
      rw [← hN] at hs1 HCL
      obtain ⟨D0, hD0⟩ : ∃ D0, D0 = Hu.scr (l.take k) := ⟨_, rfl⟩
      have HD0 : Hid (D0.length ≤ 4294967294) := hid (by rw [hD0]; have := HSL.out; omega)
      have HD1 := hid hD0
      rw [← hD0] at HO HTK ⊢
      obtain ⟨DL, hDL⟩ : ∃ DL, DL = D0.length := ⟨_, rfl⟩
      rw [← hDL]
      have HO2 : Hid (OwnC wr w.heap.size (.slice ao DL co) D0) := hid (by rw [hDL]; exact HO.out)
      have i1 : (0 : Int) ≤ (k : Int) := by omega
      have i2 : (k : Int) < (M : Int) := by omega
      clear hx hb1 hmem hvx hu hpl hP hQ hN hD0 hDL HO d0 d1 d2 d3 d4 d5 HSL
      obtain ⟨d0, d1, d2, d3, d5⟩ := HCL.out _ HB.out
      go_wp2_with fail
      go_quiet ((go_at_call 46; exact Calls.quiet_of_same (HP1.out _)))
      have HB4 := hid (below_drewN HB.out nq)
      have HO4 : Hid (OwnC (wr.drewN nq) w.heap.size (.slice ao DL co) D0) := hid (own_stays HO2.out (below_drewN (Below.refl wr.heap.size wr) nq))
      clear d0 d1 d2 d3 d5 HO2 HB
      generalize wr.drewN nq = w4 at HB4 HO4 ⊢
      obtain ⟨d0, d1, d2, d3, d5⟩ := HCL.out _ HB4.out
      go_wp2_with fail
      go_quiet ((go_at_call 46; exact Calls.quiet_of_same (HP2.out _)))
      have HB5 := hid (below_drewN HB4.out nq)
      have HO5 : Hid (OwnC (w4.drewN nq) w.heap.size (.slice ao DL co) D0) := hid (own_stays HO4.out (below_drewN (Below.refl w4.heap.size w4) nq))
      clear d0 d1 d2 d3 d5 HO4 HB4
      generalize w4.drewN nq = w5 at HB5 HO5 ⊢
      have hbC := (Below.refl w5.heap.size w5).alloc (Nat.le_refl _) (.cells #[.int .i64 0, .int .i64 0, .int .i64 0, .int .i64 0] 49)
      have hkC := heap_alloc_new w5 (.cells #[.int .i64 0, .int .i64 0, .int .i64 0, .int .i64 0] 49)
      go_wp2_with fail
      obtain ⟨CB, hCB⟩ : ∃ CB, CB = w5.heap.size := ⟨_, rfl⟩
      have HB6 := hid (HB5.out.trans (hbC.mono HB5.out.size))
      have HO6 := hid (own_stays HO5.out hbC)
      have HNE6 : Hid ((Value.slice ao DL co).ownBlock ≠ some CB) := hid (fun h => by have := own_lt HO5.out CB h; omega)
      have HCW : Hid (w.heap.size ≤ CB) := hid (by rw [hCB]; exact HB5.out.size)
      have HKC := hid hkC
      rw [← hCB] at HKC ⊢
      generalize w5.alloc (.cells #[.int .i64 0, .int .i64 0, .int .i64 0, .int .i64 0] 49) = w6 at HB6 HO6 HKC ⊢
      clear hbC hkC HB5 HO5 hCB
      go_loopw [9, 11, 12, 14, 15] (fun vo aa bb rr kk wq => ∃ (j : Nat) (x y : Int) (cur : Option Ch) (D : List Ch) (cc : Ch), j ≤ N + 1 ∧ kk = .int .i64 j ∧ aa = .int .i64 x ∧ bb = .int .i64 y ∧ rr = .bool cur.isSome ∧ (0 ≤ x ∧ x ≤ P + j ∧ 0 ≤ y ∧ y ≤ Q + j) ∧ Hid (CuI wq CB j cur cc) ∧ Hid (RsI xr P Q D0 D j x y cur) ∧ Hid (D.length ≤ D0.length + j) ∧ Hid (OwnC wq w.heap.size vo D ∧ vo.ownBlock ≠ some CB) ∧ Hid (Below w.heap.size w wq)) (fun _ _ _ _ kk _ => N + 1 - (intOf kk).toNat)
      case atStart => exact ⟨0, P, Q, none, D0, ⟨0, 0, 0, 0⟩, Nat.zero_le _, rfl, rfl, rfl, rfl, (by omega), hid ⟨HKC.out, (fun c h => by cases h), by simp, by simp, by simp, by simp⟩, hid (.inl ⟨Nat.zero_le _, rfl⟩), hid (Nat.le_refl _), hid ⟨HO6.out, HNE6.out⟩, HB6⟩
      case round =>
        obtain ⟨j, x, y, cur, D, cc, hj, rfl, rfl, rfl, rfl, hxy, HC, HI, HDL, HOO, HBB⟩ := hrel
        obtain ⟨oa, oc, eo⟩ := own_shape HOO.out.1
        subst eo
        obtain ⟨d0, d1, d2, d3, d5⟩ := HCL.out _ HBB.out
        have a1 : IntKind.i64.wrap (x + 1) = x + 1 := wrapOk (by omega) (by omega)
        have a2 : IntKind.i64.wrap (y + 1) = y + 1 := wrapOk (by omega) (by omega)
        have a3 : IntKind.i64.wrap ((j : Int) + 1) = (j : Int) + 1 := wrapOk (by omega) (by omega)
        have hDl : D.length < 4000000000000 := by have := HDL.out; have := HD0.out; omega
        obtain ⟨EL, hEL⟩ : ∃ EL, EL = D.length := ⟨_, rfl⟩
        have HEL := hid hEL
        rw [← hEL] at HOO ⊢
        clear d0 d1 d2 d3
        have hsz : CB < wr.heap.size := lt_of_heap HC.out.1
        clear hEL
        by_cases hjN : j ≤ N
        · by_cases hje : j = N
          · have HI3 : Hid (RsI xr P Q D0 D xr.length x y cur) := hid (by rw [← HN.out, ← hje]; exact HI.out)
            subst hje
            have z0 : ((j : Int) == (j : Int)) = true := zeq rfl
            cases cur with
            | none =>
              have HI2 : Hid (RsI xr P Q D0 D (j + 1) (x + 1) (y + 1) none) := hid (by have h := HN.out ▸ HI3.out.last; rwa [Option.toList_none, List.append_nil] at h)
              have HC2 : Hid (CuI wr CB (j + 1) none cc) := hid ⟨HC.out.1, (fun c h => by cases h), HC.out.2.2.1, by have := HC.out.2.2.2.1; omega, HC.out.2.2.2.2.1, by have := HC.out.2.2.2.2.2; omega⟩
              clear HI HC
              go_wp2_with fail
              go_roundw
              case rel => exact ⟨j + 1, x + 1, y + 1, none, D, cc, by omega, by go_num, by go_num, by go_num, rfl, by omega, HC2, HI2, hid (by have := HDL.out; omega), hid ⟨by rw [HEL.out] at HOO ⊢; exact HOO.out.1, HOO.out.2⟩, HBB⟩
              case measure => simp [intOf] <;> omega
            | some c =>
              have HI2 : Hid (RsI xr P Q D0 (D ++ [c]) (j + 1) (x + 1) (y + 1) none) := hid (by have h := HN.out ▸ HI3.out.last; exact h)
              obtain ⟨g1, g2, g3, g4, g5, g6⟩ := HC.out
              have g2' := g2 c rfl
              subst g2'
              obtain ⟨ca, cn, cb, cm⟩ := cc
              dsimp only at g1 g3 g4 g5 g6
              have q0 : wr.cell? ⟨CB, 0, none⟩ = some (.int .i64 ca) := cell_of_blk g1 0
              have q1 : wr.cell? ⟨CB, 1, none⟩ = some (.int .i64 cn) := cell_of_blk g1 1
              have q2 : wr.cell? ⟨CB, 2, none⟩ = some (.int .i64 cb) := cell_of_blk g1 2
              have q3 : wr.cell? ⟨CB, 3, none⟩ = some (.int .i64 cm) := cell_of_blk g1 3
              have HG1 := hid g1
              have hbn := (Below.refl wr.heap.size wr).alloc (Nat.le_refl _) (.cells #[.int .i64 ca, .int .i64 cn, .int .i64 cb, .int .i64 cm] 49)
              have HON := hid (own_stays HOO.out.1 hbn)
              have HBN := hid (HBB.out.trans (hbn.mono HBB.out.size))
              have HGN := hid ((hbn.block CB (lt_of_heap g1)).trans g1)
              have hsn : wr.heap.size ≤ (wr.alloc (.cells #[.int .i64 ca, .int .i64 cn, .int .i64 cb, .int .i64 cm] 49)).heap.size := hbn.size
              clear HI HC g1 g2 hbn
              go_wp2_with (at_builtin; refine wpList_append_chL rfl _ _ rfl w.heap.size _ D rfl HON.out wr.heap.size ⟨ca, cn, cb, cm⟩ rfl (heap_alloc_new wr _) hDl HBN.out.size ?_; intro v8 w8 hO8 hg8 hl8; obtain ⟨a8, c8, e8⟩ := own_shape hO8; have HO8 := hid hO8; have HB8 := hid (HBN.out.grown hg8 HBN.out.size (own_ge HON.out)); have HK8 : Hid (w8.heap[CB]? = some (.cells #[.int .i64 ca, .int .i64 cn, .int .i64 cb, .int .i64 cm] 49)) := hid ((hg8.block CB (lt_of_heap HGN.out) (fun h => HOO.out.2 h.symm)).trans HGN.out); have HN8 : Hid (v8.ownBlock ≠ some CB) := hid (fun h => by rcases hl8 CB h with h2 | h2; exact HOO.out.2 h2; omega); clear hO8 hg8 hl8 e8)
              go_roundw
              case rel => exact ⟨j + 1, x + 1, y + 1, none, D ++ [⟨ca, cn, cb, cm⟩], ⟨ca, cn, cb, cm⟩, by omega, by go_num, by go_num, by go_num, rfl, by omega, hid ⟨HK8.out, (fun c h => by cases h), g3, by dsimp only; omega, g5, by dsimp only; omega⟩, HI2, hid (by have := HDL.out; rw [List.length_append, List.length_singleton]; omega), hid ⟨HO8.out, HN8.out⟩, HB8⟩
              case measure => simp [intOf] <;> omega
          · obtain ⟨r, hr⟩ : ∃ r, xr[j]? = some r := ⟨_, List.getElem?_eq_getElem (by have := HN.out; omega)⟩
            obtain ⟨b2, o2, e2, hb2, r0, _⟩ := rdW_at HRU.out hr
            subst e2
            have HB2L := hid hb2
            have HR0 := hid r0
            replace r0 := (HBB.out.cell (p := ⟨b2, _, none⟩) hb2).trans r0
            have HR := hid hr
            have z0 : ((j : Int) == (N : Int)) = false := by simp; omega
            have j1 : (0 : Int) ≤ (j : Int) := by omega
            have j2 : (j : Int) < (N : Int) := by omega
            clear hr hb2 hje
            by_cases hk1 : r.k = 1
            · have z1 : (r.k == 1) = true := by rw [hk1]; rfl
              have HI3 := hid (HI.out.both HR.out hk1)
              clear hk1
              cases cur with
              | none =>
                have HI2 : Hid (RsI xr P Q D0 D (j + 1) (x + 1) (y + 1) none) := hid (by have h := HI3.out; rwa [Option.toList_none, List.append_nil] at h)
                have HC2 : Hid (CuI wr CB (j + 1) none cc) := hid ⟨HC.out.1, (fun c h => by cases h), HC.out.2.2.1, by have := HC.out.2.2.2.1; omega, HC.out.2.2.2.2.1, by have := HC.out.2.2.2.2.2; omega⟩
                clear HI HC
                go_wp2_with fail
                go_roundw
                case rel => exact ⟨j + 1, x + 1, y + 1, none, D, cc, by omega, by go_num, by go_num, by go_num, rfl, by omega, HC2, HI2, hid (by have := HDL.out; omega), hid ⟨by rw [HEL.out] at HOO ⊢; exact HOO.out.1, HOO.out.2⟩, HBB⟩
                case measure => simp [intOf] <;> omega
              | some c =>
                have HI2 : Hid (RsI xr P Q D0 (D ++ [c]) (j + 1) (x + 1) (y + 1) none) := hid (by have h := HI3.out; exact h)
                obtain ⟨g1, g2, g3, g4, g5, g6⟩ := HC.out
                have g2' := g2 c rfl
                subst g2'
                obtain ⟨ca, cn, cb, cm⟩ := cc
                dsimp only at g1 g3 g4 g5 g6
                have q0 : wr.cell? ⟨CB, 0, none⟩ = some (.int .i64 ca) := cell_of_blk g1 0
                have q1 : wr.cell? ⟨CB, 1, none⟩ = some (.int .i64 cn) := cell_of_blk g1 1
                have q2 : wr.cell? ⟨CB, 2, none⟩ = some (.int .i64 cb) := cell_of_blk g1 2
                have q3 : wr.cell? ⟨CB, 3, none⟩ = some (.int .i64 cm) := cell_of_blk g1 3
                have HG1 := hid g1
                have hbn := (Below.refl wr.heap.size wr).alloc (Nat.le_refl _) (.cells #[.int .i64 ca, .int .i64 cn, .int .i64 cb, .int .i64 cm] 49)
                have HON := hid (own_stays HOO.out.1 hbn)
                have HBN := hid (HBB.out.trans (hbn.mono HBB.out.size))
                have HGN := hid ((hbn.block CB (lt_of_heap g1)).trans g1)
                have hsn : wr.heap.size ≤ (wr.alloc (.cells #[.int .i64 ca, .int .i64 cn, .int .i64 cb, .int .i64 cm] 49)).heap.size := hbn.size
                clear HI HC g1 g2 hbn
                go_wp2_with (at_builtin; refine wpList_append_chL rfl _ _ rfl w.heap.size _ D rfl HON.out wr.heap.size ⟨ca, cn, cb, cm⟩ rfl (heap_alloc_new wr _) hDl HBN.out.size ?_; intro v8 w8 hO8 hg8 hl8; obtain ⟨a8, c8, e8⟩ := own_shape hO8; have HO8 := hid hO8; have HB8 := hid (HBN.out.grown hg8 HBN.out.size (own_ge HON.out)); have HK8 : Hid (w8.heap[CB]? = some (.cells #[.int .i64 ca, .int .i64 cn, .int .i64 cb, .int .i64 cm] 49)) := hid ((hg8.block CB (lt_of_heap HGN.out) (fun h => HOO.out.2 h.symm)).trans HGN.out); have HN8 : Hid (v8.ownBlock ≠ some CB) := hid (fun h => by rcases hl8 CB h with h2 | h2; exact HOO.out.2 h2; omega); clear hO8 hg8 hl8 e8)
                go_roundw
                case rel => exact ⟨j + 1, x + 1, y + 1, none, D ++ [⟨ca, cn, cb, cm⟩], ⟨ca, cn, cb, cm⟩, by omega, by go_num, by go_num, by go_num, rfl, by omega, hid ⟨HK8.out, (fun c h => by cases h), g3, by dsimp only; omega, g5, by dsimp only; omega⟩, HI2, hid (by have := HDL.out; rw [List.length_append, List.length_singleton]; omega), hid ⟨HO8.out, HN8.out⟩, HB8⟩
                case measure => simp [intOf] <;> omega
            · have z1 : (r.k == 1) = false := by simp [hk1]
              by_cases hk2 : r.k = 2
              · have z2 : (r.k == 2) = true := by rw [hk2]; rfl
                cases cur with
                | none =>
                  have HI2 : Hid (RsI xr P Q D0 D (j + 1) (x + 1) (y) (some (Hu.addO x y none))) := hid (HI.out.old HR.out hk1 hk2)
                  obtain ⟨g1, g2, g3, g4, g5, g6⟩ := HC.out
                  obtain ⟨ca, cn, cb, cm⟩ := cc
                  dsimp only at g1 g3 g4 g5 g6 HI2
                  have q0 : wr.cell? ⟨CB, 0, none⟩ = some (.int .i64 ca) := cell_of_blk g1 0
                  have q1 : wr.cell? ⟨CB, 1, none⟩ = some (.int .i64 cn) := cell_of_blk g1 1
                  have q2 : wr.cell? ⟨CB, 2, none⟩ = some (.int .i64 cb) := cell_of_blk g1 2
                  have q3 : wr.cell? ⟨CB, 3, none⟩ = some (.int .i64 cm) := cell_of_blk g1 3
                  have qf : ∀ i, wr.frozen? ⟨CB, i, none⟩ = false := fun i => frozen_of_blk g1 i
                  have HG1 := hid g1
                  clear HI HC g1 g2 hk1 hk2 q0 q1 q2 q3 qf
                  go_wp2_with (guard_target =~ wpList _ _ _ (_ :: _) _ _; refine wpList_stC (c := ⟨ca, cn, cb, cm⟩) (d := ⟨x, 0, y, 0⟩) rfl rfl HG1.out rfl rfl ?_; intro w8 hk8 ho8 hb8; have HK8 := hid hk8; have HB8 := hid (hb8 _ _ HBB.out HCW.out); have HO8 : Hid (OwnC w8 w.heap.size (.slice oa EL oc) D) := hid (own_far HOO.out.1 (fun i hi => ho8 i (fun e => HOO.out.2 (e ▸ hi)))); have m1 : w8.cell? ⟨CB, 1, none⟩ = some (.int .i64 0) := cell_of_blk hk8 1; have mf : ∀ i, w8.frozen? ⟨CB, i, none⟩ = false := (fun i => frozen_of_blk hk8 i); obtain ⟨_, _, _, _, d5⟩ := HCL.out _ HB8.out; have r0 := (HB8.out.cell (p := ⟨b2, o2 + j * 2, none⟩) HB2L.out).trans HR0.out; clear hk8 ho8 hb8)
                  have HK2 := hid (set_heap _ CB 1 _ _ (.int .i64 1) HK8.out)
                  go_roundw
                  case rel => exact ⟨j + 1, x + 1, y, some (Hu.addO x y none), D, ⟨x, 1, y, 0⟩, by omega, by go_num, by go_num, by go_num, rfl, by omega, hid ⟨HK2.out, (fun c' h => by cases h; rfl), by dsimp only; omega, by dsimp only; omega, by dsimp only; omega, by dsimp only; omega⟩, HI2, hid (by have := HDL.out; omega), hid ⟨own_set HO8.out HOO.out.2, HOO.out.2⟩, hid (below_set HB8.out HCW.out)⟩
                  case measure => simp [intOf]; omega
                | some c =>
                  have HI2 : Hid (RsI xr P Q D0 D (j + 1) (x + 1) (y) (some (Hu.addO x y (some c)))) := hid (HI.out.old HR.out hk1 hk2)
                  obtain ⟨g1, g2, g3, g4, g5, g6⟩ := HC.out
                  have g2' := g2 c rfl
                  subst g2'
                  obtain ⟨ca, cn, cb, cm⟩ := cc
                  dsimp only at g1 g3 g4 g5 g6 HI2
                  have q0 : wr.cell? ⟨CB, 0, none⟩ = some (.int .i64 ca) := cell_of_blk g1 0
                  have q1 : wr.cell? ⟨CB, 1, none⟩ = some (.int .i64 cn) := cell_of_blk g1 1
                  have q2 : wr.cell? ⟨CB, 2, none⟩ = some (.int .i64 cb) := cell_of_blk g1 2
                  have q3 : wr.cell? ⟨CB, 3, none⟩ = some (.int .i64 cm) := cell_of_blk g1 3
                  have qf : ∀ i, wr.frozen? ⟨CB, i, none⟩ = false := fun i => frozen_of_blk g1 i
                  have a4 : IntKind.i64.wrap (cn + 1) = cn + 1 := wrapOk (by omega) (by omega)
                  have HK2 := hid (set_heap _ CB 1 _ _ (.int .i64 (cn + 1)) g1)
                  clear HI HC g1 g2 hk1 hk2
                  go_wp2_with fail
                  go_roundw
                  case rel => exact ⟨j + 1, x + 1, y, some (Hu.addO x y (some ⟨ca, cn, cb, cm⟩)), D, ⟨ca, cn + 1, cb, cm⟩, by omega, by go_num, by go_num, by go_num, rfl, by omega, hid ⟨HK2.out, (fun c' h => by cases h; rfl), by dsimp only; omega, by dsimp only; omega, by dsimp only; omega, by dsimp only; omega⟩, HI2, hid (by have := HDL.out; omega), hid ⟨own_far (HOO.out.1) (fun g hg => set_other _ (fun e => HOO.out.2 (e ▸ hg))), HOO.out.2⟩, hid (below_set (HBB.out) HCW.out)⟩
                  case measure => simp [intOf]; omega
              · have z2 : (r.k == 2) = false := by simp [hk2]
                cases cur with
                | none =>
                  have HI2 : Hid (RsI xr P Q D0 D (j + 1) (x) (y + 1) (some (Hu.addF x y none))) := hid (HI.out.new HR.out hk1 hk2)
                  obtain ⟨g1, g2, g3, g4, g5, g6⟩ := HC.out
                  obtain ⟨ca, cn, cb, cm⟩ := cc
                  dsimp only at g1 g3 g4 g5 g6 HI2
                  have q0 : wr.cell? ⟨CB, 0, none⟩ = some (.int .i64 ca) := cell_of_blk g1 0
                  have q1 : wr.cell? ⟨CB, 1, none⟩ = some (.int .i64 cn) := cell_of_blk g1 1
                  have q2 : wr.cell? ⟨CB, 2, none⟩ = some (.int .i64 cb) := cell_of_blk g1 2
                  have q3 : wr.cell? ⟨CB, 3, none⟩ = some (.int .i64 cm) := cell_of_blk g1 3
                  have qf : ∀ i, wr.frozen? ⟨CB, i, none⟩ = false := fun i => frozen_of_blk g1 i
                  have HG1 := hid g1
                  clear HI HC g1 g2 hk1 hk2 q0 q1 q2 q3 qf
                  go_wp2_with (guard_target =~ wpList _ _ _ (_ :: _) _ _; refine wpList_stC (c := ⟨ca, cn, cb, cm⟩) (d := ⟨x, 0, y, 0⟩) rfl rfl HG1.out rfl rfl ?_; intro w8 hk8 ho8 hb8; have HK8 := hid hk8; have HB8 := hid (hb8 _ _ HBB.out HCW.out); have HO8 : Hid (OwnC w8 w.heap.size (.slice oa EL oc) D) := hid (own_far HOO.out.1 (fun i hi => ho8 i (fun e => HOO.out.2 (e ▸ hi)))); have m1 : w8.cell? ⟨CB, 3, none⟩ = some (.int .i64 0) := cell_of_blk hk8 3; have mf : ∀ i, w8.frozen? ⟨CB, i, none⟩ = false := (fun i => frozen_of_blk hk8 i); obtain ⟨_, _, _, _, d5⟩ := HCL.out _ HB8.out; have r0 := (HB8.out.cell (p := ⟨b2, o2 + j * 2, none⟩) HB2L.out).trans HR0.out; clear hk8 ho8 hb8)
                  have HK2 := hid (set_heap _ CB 3 _ _ (.int .i64 1) HK8.out)
                  go_roundw
                  case rel => exact ⟨j + 1, x, y + 1, some (Hu.addF x y none), D, ⟨x, 0, y, 1⟩, by omega, by go_num, by go_num, by go_num, rfl, by omega, hid ⟨HK2.out, (fun c' h => by cases h; rfl), by dsimp only; omega, by dsimp only; omega, by dsimp only; omega, by dsimp only; omega⟩, HI2, hid (by have := HDL.out; omega), hid ⟨own_set HO8.out HOO.out.2, HOO.out.2⟩, hid (below_set HB8.out HCW.out)⟩
                  case measure => simp [intOf]; omega
                | some c =>
                  have HI2 : Hid (RsI xr P Q D0 D (j + 1) (x) (y + 1) (some (Hu.addF x y (some c)))) := hid (HI.out.new HR.out hk1 hk2)
                  obtain ⟨g1, g2, g3, g4, g5, g6⟩ := HC.out
                  have g2' := g2 c rfl
                  subst g2'
                  obtain ⟨ca, cn, cb, cm⟩ := cc
                  dsimp only at g1 g3 g4 g5 g6 HI2
                  have q0 : wr.cell? ⟨CB, 0, none⟩ = some (.int .i64 ca) := cell_of_blk g1 0
                  have q1 : wr.cell? ⟨CB, 1, none⟩ = some (.int .i64 cn) := cell_of_blk g1 1
                  have q2 : wr.cell? ⟨CB, 2, none⟩ = some (.int .i64 cb) := cell_of_blk g1 2
                  have q3 : wr.cell? ⟨CB, 3, none⟩ = some (.int .i64 cm) := cell_of_blk g1 3
                  have qf : ∀ i, wr.frozen? ⟨CB, i, none⟩ = false := fun i => frozen_of_blk g1 i
                  have a4 : IntKind.i64.wrap (cm + 1) = cm + 1 := wrapOk (by omega) (by omega)
                  have HK2 := hid (set_heap _ CB 3 _ _ (.int .i64 (cm + 1)) g1)
                  clear HI HC g1 g2 hk1 hk2
                  go_wp2_with fail
                  go_roundw
                  case rel => exact ⟨j + 1, x, y + 1, some (Hu.addF x y (some ⟨ca, cn, cb, cm⟩)), D, ⟨ca, cn, cb, cm + 1⟩, by omega, by go_num, by go_num, by go_num, rfl, by omega, hid ⟨HK2.out, (fun c' h => by cases h; rfl), by dsimp only; omega, by dsimp only; omega, by dsimp only; omega, by dsimp only; omega⟩, HI2, hid (by have := HDL.out; omega), hid ⟨own_far (HOO.out.1) (fun g hg => set_other _ (fun e => HOO.out.2 (e ▸ hg))), HOO.out.2⟩, hid (below_set (HBB.out) HCW.out)⟩
                  case measure => simp [intOf]; omega
        · have HE : Hid (D = Hu.scr (l.take (k + 1))) := hid (by
            rcases HI.out with ⟨h1, _⟩ | ⟨_, h2⟩
            · have := HN.out; omega
            · rw [h2, HTK.out, HSC.out])
          clear HI HC
          go_wp2_with fail
          go_roundw
          case rel => exact ⟨k + 1, by omega, by go_num, hid (by rw [← HE.out]; exact HOO.out.1), HBB⟩
          case measure => simp [intOf]; omega
    · obtain rfl : k = M := by omega
      have htk : l.take k = l := List.take_of_length_le (by have := HL.out; omega)
      rw [htk] at HO ⊢
      have HWF : Hid (∀ c ∈ Hu.scr l, WfC c) := hid (scr_wf HALL.out)
      have HVR := hid (fun w1 (hb : Below wr.heap.size wr w1) => refValid_any (n := n) (m := m) (own_rd (own_stays HO.out hb)) HWF.out (by have := HS.out; omega))
      have HNR := hid (fun w1 (hb : Below wr.heap.size wr w1) => refNormal_all (n := n) (m := m) (own_rd (own_stays HO.out hb)) HWF.out (by have := HS.out; omega))
      obtain ⟨SL, hSL⟩ : ∃ SL, SL = (Hu.scr l).length := ⟨_, rfl⟩
      rw [← hSL] at HVR HNR ⊢
      by_cases h0 : Ed.validN (Hu.scr l) n m = 0
      · have HE0 : Hid (EK = 0) := hid (by rw [HEK.out, if_pos h0])
        rw [h0, show ((0 : Nat) : Int) = 0 from rfl] at HVR HNR
        clear h0 hSL htk
        go_wp2_with fail
        refine (HVR.out wr (Below.refl _ _)).mono ?_
        rintro e w7 ⟨rfl, hb7⟩
        have HB7 := hid hb7
        clear hb7
        go_wp2_with fail
        refine (HNR.out w7 HB7.out).mono ?_
        rintro e w8 ⟨v8, rfl, hO8, hb8⟩
        have HB8 := hid ((HB.out.trans (HB7.out.mono HB.out.size)).trans (hb8.mono (Nat.le_trans HB.out.size HB7.out.size)))
        obtain ⟨a8, c8, e8⟩ := own_shape hO8
        subst e8
        obtain ⟨RL, hRL⟩ : ∃ RL, RL = (nrmA (Hu.scr l) n m).length := ⟨_, rfl⟩
        have HO8 : Hid (OwnC w8 w.heap.size (.slice a8 RL c8) (nrmA (Hu.scr l) n m)) := hid (by rw [hRL]; exact own_mono hO8 (Nat.le_trans HB.out.size HB7.out.size))
        rw [← hRL]
        clear hO8 hb8 hRL
        go_wp2_with fail
        go_ret2
        exact ⟨_, by rw [HE0.out]; rfl, HO8.out, HB8.out⟩
      · have HE0 : Hid (EK = 60) := hid (by rw [HEK.out, if_neg h0])
        have HRN : Hid (nrmA (Hu.scr l) n m = []) := hid (by unfold nrmA; rw [if_neg h0])
        obtain ⟨K, hK⟩ : ∃ K, K = Ed.validN (Hu.scr l) n m := ⟨_, rfl⟩
        rw [← hK] at HVR HNR h0
        have z : ((K : Int) == 0) = false := by simp; omega
        clear h0 hSL htk hK
        go_wp2_with fail
        refine (HVR.out wr (Below.refl _ _)).mono ?_
        rintro e w7 ⟨rfl, hb7⟩
        have HB7 := hid (HB.out.trans (hb7.mono HB.out.size))
        clear hb7
        go_wp2_with fail
        go_ret2
        refine ⟨_, by rw [HE0.out]; rfl, ?_, HB7.out⟩
        rw [HRN.out]
        exact World.ownsRow_nil _ _ _ _
set_option maxHeartbeats 1000000 in
set_option maxRecDepth 100000 in
theorem rScript_any {w : World} {v : Value} {l : List Hk} {n m : Int} (hv : RdH w v l) (hl : l.length < 1954687338260) (hz : ∀ h ∈ l, SzH h) :
    Calls Tryz.prog 23 #[v, .int .i64 n, .int .i64 m] w fun e w' => ∃ v', e = .returned (.tuple #[v', .int .i64 (Hu.scrN l n m : Nat)]) ∧ OwnC w' w.heap.size v' (Hu.scrA l n m) ∧ Below w.heap.size w w' := by
  by_cases ho : Hu.orderN l = 0
  · have h1 := rScript_ord (n := n) (m := m) hv hl hz ho _ rfl
    have e1 : Hu.scrN l n m = if Ed.validN (Hu.scr l) n m = 0 then 0 else 60 := by unfold Hu.scrN; rw [if_pos ho]
    have e2 : Hu.scrA l n m = nrmA (Hu.scr l) n m := by
      unfold Hu.scrA
      rw [e1]
      unfold nrmA
      by_cases h : Ed.validN (Hu.scr l) n m = 0
      · rw [if_pos h, if_pos h]; rfl
      · rw [if_neg h, if_neg h]; rfl
    rw [e1, e2]
    exact h1
  · have e1 : Hu.scrN l n m = Hu.orderN l := by unfold Hu.scrN; rw [if_neg ho]
    have e2 : Hu.scrA l n m = [] := by unfold Hu.scrA; rw [e1, if_neg ho]
    rw [e1, e2]
    have HOR := hid (fun w1 (hb : Below w.heap.size w w1) => rOrder_any (hv.below hb) hl hz)
    obtain ⟨K, hK⟩ : ∃ K, K = Hu.orderN l := ⟨_, rfl⟩
    rw [← hK] at HOR ho ⊢
    have z : ((K : Int) == 0) = false := by simp; omega
    obtain ⟨av, cv, rfl⟩ := hv.shape
    obtain ⟨N, hN⟩ : ∃ N, N = l.length := ⟨_, rfl⟩
    rw [← hN] at HOR ⊢
    clear hv hl hz hN hK ho e1 e2
    go_enter Tryz.func23, Tryz.ntmps23
    go_wp2_with fail
    refine (HOR.out _ (Below.refl _ _)).mono ?_
    rintro e w1 ⟨rfl, hb1⟩
    have HB1 := hid hb1
    clear hb1 HOR
    go_wp2_with fail
    go_ret2
    exact ⟨_, rfl, World.ownsRow_nil _ _ _ _, HB1.out⟩
end Go.Proofs.YtnamioihapnefaaGreatDoor
