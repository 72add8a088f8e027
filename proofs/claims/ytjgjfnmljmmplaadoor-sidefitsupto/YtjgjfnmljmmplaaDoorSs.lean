/-
  The document's Print (layer 15). (Made by wip/genss.py.)
-/
import Derived.Test.YtjgjfnmljmmplaaDoorSr
import Derived.Deep.RegionHeld3
import Derived.Test.YtjgjfnmljmmplaaDoorGrDn
import Derived.Test.YtjgjfnmljmmplaaDoorD2
import Derived.Test.YtjgjfnmljmmplaaDoorXValidRef
namespace Go.Proofs.YtjgjfnmljmmplaaDoor
namespace Sy
open Go.RowKit
open Ed (Ch)

theorem str_ownY {w : World} {B : Nat} {v : Value} {l : Sd.Bs} {s : ByteArray} (h : w.ownsRow B 5 1 v (l.length + s.size) (Lib.byteCells l ++ Lib.strCells s)) : OwY w B v (l ++ s.data.toList) := by
  have e1 : Lib.strCells s = Lib.byteCells s.data.toList := rfl
  have e2 : s.size = s.data.toList.length := (dsize s).symm
  rw [e1, e2] at h
  show w.ownsRow _ _ _ _ _ _
  rw [Lib.byteCells_append, List.length_append]
  exact h
theorem refValid_rd {w : World} {v : Value} {A : List ByteArray} (h : RdT w v A) (hl : A.length ≤ 140737488355328) (hx : ∀ x ∈ A, x.size ≤ 1099511627776) :
    Calls Tryd.prog 23 #[v] w fun e w' => e = .returned (.bool (Pl.valid (Cx.DL A))) ∧ w' = w := by
  rcases h with ⟨h0, a, c, rfl⟩ | ⟨b, o, c, rfl, _, _, hX⟩
  · rw [List.length_eq_zero_iff.1 h0]
    exact Cx.refValid_none a c w
  · exact Cx.refValid_any b o c A w (fun j x hj => hX j _ (stC_get hj)) hl (fun x hxx => Nat.le_trans (hx x hxx) (by decide))
theorem wp_append_strY {P : Program} {w : World} {o : Oper} {a : Act} {K : Act → World → Prop} {Q : Exit → Act → World → Prop} (sl x : Operand) (t u : TypeId)
    (ho : o.op = .call { callee := .builtin .append, args := #[sl, x], argTypes := #[t, u] })
    (base : Nat) (e : TypeId) (i : TypeInfo) (ht : P.underlying t = some (.slice e)) (hu : P.underlying u = some .string) (hi : P.info? e = some i) (hz : i.zero = some (.int .u8 0))
    (hsize : i.size = 1) (hby : i.bytes = 1)
    (v : Value) (n : Nat) (xs : List Value) (hs : a.eval sl = v) (hown : w.ownsRow base e 1 v n xs) (s : ByteArray) (hx : a.eval x = .string s)
    (h63 : n + s.size ≤ maxLen) (hbytes : n + s.size ≤ 140737488355328) (hbase : base ≤ w.heap.size)
    (h : ∀ v' w', w'.ownsRow base e 1 v' (n + s.size) (xs ++ Lib.strCells s) → w.grownBy w' v.ownBlock → (v' = .slice none 0 0 ↔ v = .slice none 0 0 ∧ s.size = 0) → K (a.put o.dst v') w') : o.wp P a w K Q := by
  obtain ⟨v', w', hr, h2, h3, h4⟩ := Lib.run_append_own_string (P := P) w base t u o.type e i ht hu hi hz hsize hby v n xs hown s h63 hbytes hbase
  unfold Oper.wp execOp
  simp only [ho, resolve, invoke, builtin, Sem.run_bind, Sem.run_pure, Result.andThen_ok, List.map_toArray, List.map_cons, List.map_nil, hs, hx, hr]
  exact h v' w' h2 h3 h4
set_option maxHeartbeats 1500000 in
set_option maxRecDepth 100000 in
theorem refPrint_ok {vs va vb : Value} {s : List Ch} {A M : List ByteArray} {w : World} {wd : Int} (hs : RdC w vs s) (hwf : ∀ c ∈ s, WfC c) (hl : s.length ≤ 1048576) (hV : Ed.Val s A.length M.length) (ha : RdT w va A) (hb : RdT w vb M) (hxa : ∀ x ∈ A, x.size ≤ 1099511627776) (hxm : ∀ x ∈ M, x.size ≤ 1099511627776) (hvA : Pl.valid (Cx.DL A) = true) (hvM : Pl.valid (Cx.DL M) = true) (hc0 : colE wd = 0) :
    Calls Tryd.prog 7 #[vs, va, vb, .int .i64 wd] w fun e w' => e = .returned (.tuple #[.string (bB (prT (colH wd) (colS wd) A M (Ed.normal s A.length M.length) 0 0)), .int .i64 0]) ∧ Below w.heap.size w w' := by
  obtain ⟨i0, hi, hz0, hz1, hz2⟩ := info_parts Bx.infoByteB
  have hk0 := Ed.validN_zero.2 hV
  have HN := hid (fun w1 (h1 : Below w.heap.size w w1) => refNormal_all (n := A.length) (m := M.length) (hs.below h1) hwf (by omega))
  rw [hk0, show nrmA s A.length M.length = Ed.normal s A.length M.length by unfold nrmA; rw [if_pos hk0]] at HN
  have HVA := hid (fun w1 (h1 : Below w.heap.size w w1) => refValid_rd (ha.below h1) (by have := Ed.cnt_iff.1 hV.1; omega) hxa)
  have HVM := hid (fun w1 (h1 : Below w.heap.size w w1) => refValid_rd (hb.below h1) (by have := Ed.cnt_iff.1 hV.2.1; omega) hxm)
  rw [hvA] at HVA
  rw [hvM] at HVM
  have HCL := hid (fun w1 => refCols_any wd w1)
  rw [hc0] at HCL
  have hch := colH_le wd
  generalize colH wd = half at HCL hch ⊢
  generalize colS wd = sec at HCL ⊢
  have hNV := (Ed.normal_Val hV).1
  have hnl := Val_len hNV
  have hla := Ed.cnt_iff.1 hV.1
  have hlb := Ed.cnt_iff.1 hV.2.1
  have hv0 := hNV.2.2
  obtain ⟨s0, c0, rfl⟩ := hs.shape
  obtain ⟨aa, ca, rfl⟩ := ha.shape
  obtain ⟨ab, cb, rfl⟩ := hb.shape
  generalize Ed.normal s A.length M.length = S at HN hv0 hnl ⊢
  rw [← prT_ends]
  obtain ⟨T, hTT⟩ : ∃ T, T = prT half sec A M (ends S A.length M.length) 0 0 := ⟨_, rfl⟩
  rw [← hTT]
  have HTT := hid hTT
  obtain ⟨n, hn⟩ : ∃ n, n = A.length := ⟨_, rfl⟩
  obtain ⟨m, hm⟩ : ∃ m, m = M.length := ⟨_, rfl⟩
  have HNn := hid hn
  have HMm := hid hm
  have HA2 : Hid (∀ w', Below w.heap.size w w' → RdT w' (.slice aa n ca) A) := hid (by rw [hn]; exact fun w' h => RdX.below ha h)
  have HM2 : Hid (∀ w', Below w.heap.size w w' → RdT w' (.slice ab m cb) M) := hid (by rw [hm]; exact fun w' h => RdX.below hb h)
  have HXA := hid hxa
  have HXM := hid hxm
  rw [← hn] at HN HVA hla hv0 hTT HTT ⊢
  rw [← hm] at HN HVM hlb hv0 hTT HTT ⊢
  have HOK : Hid (okAt S n m 0 0 0) := hid ⟨fun _ => hv0, fun h9 => by omega⟩
  have HSL : Hid (S.length ≤ 8388608) := hid (by omega)
  clear hs hwf hV ha hb hNV hTT hn hm hxa hxm hvA hvM hc0 hk0 hv0 hnl
  go_enter Tryd.func7, Tryd.ntmps7
  go_wp2_with fail
  refine (HCL.out w).mono ?_
  rintro e w1 ⟨rfl, hb1⟩
  have HB1 := hid hb1
  clear hb1 HCL
  rw [show ((0 : Nat) : Int) = 0 from rfl]
  go_wp2_with fail
  refine (HN.out w1 HB1.out).mono ?_
  rintro e w2 ⟨v2, rfl, hO, hb2⟩
  obtain ⟨a1, c1, rfl⟩ := own_shape hO
  have HB2 := hid (HB1.out.trans (hb2.mono HB1.out.size))
  have HO2 := hid (own_mono hO HB1.out.size)
  obtain ⟨N, hN⟩ : ∃ N, N = S.length := ⟨_, rfl⟩
  rw [← hN]
  have HNl := hid hN
  clear hO hb2 HN HB1 hN
  go_wp2_with fail
  refine (HVA.out w2 HB2.out).mono ?_
  rintro e w3 ⟨rfl, rfl⟩
  go_wp2_with fail
  refine (HVM.out w3 HB2.out).mono ?_
  rintro e w4 ⟨rfl, rfl⟩
  clear HVA HVM
  have hbC := (Below.refl w4.heap.size w4).alloc (Nat.le_refl _) (.cells #[.int .i64 (n : Int), .int .i64 0, .int .i64 (m : Int), .int .i64 0] 45)
  have HBC := hid (HB2.out.trans (hbC.mono HB2.out.size))
  have HOC : Hid (OwnC (w4.alloc (.cells #[.int .i64 (n : Int), .int .i64 0, .int .i64 (m : Int), .int .i64 0] 45)) w.heap.size (.slice a1 N c1) S) := hid (by rw [HNl.out]; exact own_stays HO2.out hbC)
  clear hbC HO2
  go_wp2_with (at_builtin; refine wpList_append_ch rfl _ _ rfl w.heap.size _ S rfl HOC.out w4.heap.size ⟨n, 0, m, 0⟩ rfl (heap_alloc_new w4 _) (Nat.le_trans HSL.out (by decide)) HBC.out.size ?_; intro v5 w5 ho5 hb5; obtain ⟨a5, c5, rfl⟩ := own_shape ho5; have HO5 := hid ho5; have HB5 := hid (HBC.out.trans hb5); clear ho5 hb5)
  obtain ⟨LL, hLL⟩ : ∃ LL, LL = ends S n m := ⟨_, rfl⟩
  obtain ⟨NN, hNN⟩ : ∃ NN, NN = LL.length := ⟨_, rfl⟩
  have HLE : Hid (LL = ends S n m) := hid hLL
  have HNE := hid hNN
  obtain ⟨G, hG⟩ : ∃ G, G = w5.heap.size := ⟨_, rfl⟩
  have HRL : Hid (∀ w', Below G w5 w' → RdC w' (.slice a5 NN c5) LL) := hid (fun w' h => by
    have h9 := own_rd HO5.out
    rw [show S ++ [(⟨(n : Int), 0, (m : Int), 0⟩ : Ch)] = LL from hLL.symm, ← hNN] at h9
    rw [hG] at h
    have h8 := RdX.below h9 h
    show RdX w' (.slice a5 NN c5) LL.length (csC LL)
    rw [← hNN]
    exact h8)
  have HGw5 : Hid (w.heap.size ≤ G) := hid (by rw [hG]; exact HB5.out.size)
  have HG5 : Hid (G ≤ w5.heap.size) := hid (by rw [hG]; exact Nat.le_refl _)
  rw [← hLL] at HTT
  have hNNs : NN = S.length + 1 := by rw [hNN, hLL]; unfold ends; rw [List.length_append, List.length_singleton]
  have HNS := hid hNNs
  rw [← hNNs]
  have hNb : NN ≤ 8388609 := by have := HSL.out; omega
  have HWBF : Hid (∀ w', Below G w5 w' → Below w.heap.size w w') := hid (fun w' h => HB5.out.trans (h.mono HGw5.out))
  have HGE := hid hG
  clear hLL hNN hG HOC HO5 HBC HB2 hNNs
  go_wp2_with fail
  go_loopw [14, 15, 16, 17] (fun oo ii kk cc wr => ∃ (c da db : Nat) (acc : Sd.Bs), c ≤ NN ∧ cc = .int .i64 c ∧ ii = .int .i64 da ∧ kk = .int .i64 db ∧ da ≤ n ∧ db ≤ m ∧ Hid (okAt S n m c da db) ∧ Hid (OwY wr G oo acc) ∧ Hid (T = acc ++ prT half sec A M (LL.drop c) da db) ∧ Hid (acc.length ≤ 8196 * (da + db)) ∧ Hid (Below G w5 wr) ∧ Hid (G ≤ wr.heap.size)) (fun _ _ _ cc _ => NN - (intOf cc).toNat)
  case atStart => exact ⟨0, 0, 0, [], Nat.zero_le _, rfl, rfl, rfl, Nat.zero_le _, Nat.zero_le _, HOK, hid (World.ownsRow_nil _ _ _ _), hid (by rw [List.drop_zero]; exact HTT.out), hid (Nat.zero_le _), hid (Below.refl _ _), HG5⟩
  case round =>
    obtain ⟨c, da, db, acc, hc, rfl, rfl, rfl, hda, hdb, HOKc, HO, HT, HAC, HBG, HGz⟩ := hrel
    obtain ⟨wo, hwo⟩ : ∃ wo, wo = wr := ⟨_, rfl⟩
    subst hwo
    by_cases hlt : c < NN
    · obtain ⟨x, hx⟩ : ∃ x, LL[c]? = some x := ⟨_, List.getElem?_eq_getElem (by have := HNE.out; omega)⟩
      obtain ⟨xa, ya, xb, yb, hxe, g1, g2, g3, g4, g5, g6, g7, hok⟩ := ok_step hda hdb HOKc.out (by rw [← HLE.out]; exact hx)
      have hpr := prT_at (half := half) (sec := sec) (A := A) (M := M) (i := da) (j := db) hx
      obtain ⟨b0, o0, rfl, hblt, d0, d1, d2, d3⟩ := rdC_at (HRL.out w5 (Below.refl _ _)) hx
      obtain ⟨XN, hXN⟩ : ∃ XN, XN = ya - xa := ⟨_, rfl⟩
      obtain ⟨XM, hXM⟩ : ∃ XM, XM = yb - xb := ⟨_, rfl⟩
      subst hxe
      dsimp only at d0 d1 d2 d3 hpr
      rw [← hXN, ← hXM, Int.toNat_natCast, Int.toNat_natCast, show ((xa : Int) + (XN : Int)).toNat = ya by omega, show ((xb : Int) + (XM : Int)).toNat = yb by omega] at hpr
      rw [← hXN] at d1
      rw [← hXM] at d3
      have HOK2 := hid hok
      obtain ⟨PA1, hPA1⟩ : ∃ PA1, PA1 = (part A da xa).map dat := ⟨_, rfl⟩
      obtain ⟨PM1, hPM1⟩ : ∃ PM1, PM1 = (part M db xb).map dat := ⟨_, rfl⟩
      obtain ⟨PA2, hPA2⟩ : ∃ PA2, PA2 = (part A xa ya).map dat := ⟨_, rfl⟩
      obtain ⟨PM2, hPM2⟩ : ∃ PM2, PM2 = (part M xb yb).map dat := ⟨_, rfl⟩
      rw [← hPA1, ← hPM1, ← hPA2, ← hPM2] at hpr
      have HT2 : Hid (T = (acc ++ Sd.bes half sec PA1 PM1 ++ Sd.chg half sec PA2 PM2) ++ prT half sec A M (LL.drop (c + 1)) ya yb) := hid (by rw [HT.out, hpr]; simp)
      have hl1 : PA1.length = xa - da := by rw [hPA1, List.length_map, part_len (by have := HNn.out; omega)]
      have hl2 : PM1.length = xb - db := by rw [hPM1, List.length_map, part_len (by have := HMm.out; omega)]
      have hl3 : PA2.length = XN := by rw [hPA2, List.length_map, part_len (by have := HNn.out; omega), hXN]
      have hl4 : PM2.length = XM := by rw [hPM2, List.length_map, part_len (by have := HMm.out; omega), hXM]
      have hq1 := bes_len half sec hch PA1 PM1
      have hq2 := chg_len half sec hch PA2 PM2
      rw [hl1] at hq1
      rw [hl3, hl4] at hq2
      have hac := HAC.out
      have HQ1 := hid hq1
      have HQ2 := hid hq2
      have HAC2 : Hid ((acc ++ Sd.bes half sec PA1 PM1 ++ Sd.chg half sec PA2 PM2).length ≤ 8196 * (ya + yb)) := hid (by rw [List.length_append, List.length_append]; omega)
      have HAB : Hid ((acc ++ Sd.bes half sec PA1 PM1).length ≤ 8196 * (xa + xb)) := hid (by rw [List.length_append]; omega)
      have HACC := hid hac
      have HE1 := hid hPA1
      have HE2 := hid hPM1
      have HE3 := hid hPA2
      have HE4 := hid hPM2
      have HL1 := hid hl1
      have HL2 := hid hl2
      have HL3 := hid hl3
      have HL4 := hid hl4
      have HX1 := hid hXN
      have HX2 := hid hXM
      have hblG : b0 < w5.heap.size := hblt
      have HLBG : Hid (b0 < G) := hid (by rw [HGE.out]; exact hblG)
      have D0 := hid d0
      have D1 := hid d1
      have D2 := hid d2
      have D3 := hid d3
      have G7 := hid g7
      obtain ⟨MX, hMX⟩ : ∃ MX, MX = max XN XM := ⟨_, rfl⟩
      have hmx : ∀ X : World, (Builtin.max_ #[3, 3] 3 #[.int .i64 (XN : Int), .int .i64 (XM : Int)]).run Tryd.prog X = .ok (.int .i64 (MX : Int)) X := fun X => by rw [run_maxS]; congr 2; omega
      have HMX := hid hMX
      have i1 : (0 : Int) ≤ (c : Int) := by omega
      have i2 : (c : Int) < (NN : Int) := by omega
      have iw1 : IntKind.i64.wrap ((xa : Int) + (XN : Int)) = (ya : Int) := by rw [IntKind.wrap_i64]; omega
      have iw2 : IntKind.i64.wrap ((xb : Int) + (XM : Int)) = (yb : Int) := by rw [IntKind.wrap_i64]; omega
      clear hx hpr hok hPA1 hPM1 hPA2 hPM2 hl1 hl2 hl3 hl4 hq1 hq2 hac hblt hblG d0 d1 d2 d3 g7 hXN hXM hMX HT HOKc HAC HTT HOK
      go_wp2_with fail
      go_loopw [14, 15, 16] (fun oo ii kk wr => ∃ p q : Nat, ii = .int .i64 p ∧ kk = .int .i64 q ∧ p ≤ xa ∧ q ≤ xb ∧ Hid (∃ j, p = da + j ∧ q = db + j ∧ OwY wr G oo (acc ++ Sd.bes half sec (PA1.take j) (PM1.take j))) ∧ Hid (Below G w5 wr) ∧ Hid (G ≤ wr.heap.size)) (fun _ ii _ _ => xa - (intOf ii).toNat)
      case atStart => exact ⟨da, db, rfl, rfl, g1, g4, hid ⟨0, rfl, rfl, by rw [List.take_zero, List.take_zero, show Sd.bes half sec [] [] = [] from rfl, List.append_nil]; exact HO.out⟩, HBG, HGz⟩
      case round =>
        obtain ⟨p, q, rfl, rfl, hpx, hqx, HJ, HBw, HGw⟩ := hrel
        obtain ⟨j, hpj, hqj, hoj⟩ := HJ.out
        have dd0 := (HBw.out.cell (p := ⟨b0, o0 + c * 4, none⟩) HLBG.out).trans D0.out
        by_cases hpt : p < xa
        · have g7 := G7.out
          obtain ⟨x, hxk⟩ : ∃ x, A[p]? = some x := ⟨_, List.getElem?_eq_getElem (by have := HNn.out; omega)⟩
          obtain ⟨y, hyk⟩ : ∃ y, M[q]? = some y := ⟨_, List.getElem?_eq_getElem (by have := HMm.out; omega)⟩
          obtain ⟨ba, oa, ea, hba, ta⟩ := rdT_at (HA2.out w5 HB5.out) hxk
          obtain ⟨bb, ob, eb, hbb, tb⟩ := rdT_at (HM2.out w5 HB5.out) hyk
          subst ea
          subst eb
          have HKE : Hid (∀ w', Below G w5 w' → w'.cell? ⟨ba, oa + p, none⟩ = some (.string x) ∧ w'.cell? ⟨bb, ob + q, none⟩ = some (.string y)) := hid (fun w' h => ⟨(h.cell (by have := HGE.out; show ba < G; omega)).trans ta, (h.cell (by have := HGE.out; show bb < G; omega)).trans tb⟩)
          clear ta tb
          have hone := bes_one half sec j PA1 PM1 (dat x) (dat y) (by rw [HE1.out, List.getElem?_map, part_at (by omega) (by rw [← hpj]; exact hxk)]; rfl) (by rw [HE2.out, List.getElem?_map, part_at (by omega) (by rw [← hqj]; exact hyk)]; rfl)
          have HMK := hid (fun w1 => refMark_any x y w1 (HXA.out x (List.mem_of_getElem? hxk)) (HXM.out y (List.mem_of_getElem? hyk)))
          have HRO := hid (fun w1 => refRow_any (w := w1) (half := half) (sec := sec) x y (Sd.mkT (dat x) (dat y)) hch (HXA.out x (List.mem_of_getElem? hxk)) (HXM.out y (List.mem_of_getElem? hyk)))
          generalize Sd.mkT (dat x) (dat y) = mk at hone HMK HRO
          have HOw := hid hoj
          obtain ⟨PA, hPA⟩ : ∃ PA, PA = acc ++ Sd.bes half sec (PA1.take j) (PM1.take j) := ⟨_, rfl⟩
          have hPl : PA.length ≤ 90000000000 := by
            rw [hPA]
            have h1 := bes_len half sec hch (PA1.take j) (PM1.take j)
            have h2 := HL1.out
            have h3 := HACC.out
            rw [List.length_take] at h1
            rw [List.length_append]
            omega
          have HPA := hid hPA
          rw [← hPA] at HOw
          obtain ⟨RW, hRW⟩ : ∃ RW, RW = bB (Sd.rowT half sec (dat x) mk (dat y)) := ⟨_, rfl⟩
          have hRz : RW.size ≤ 8196 := by
            rw [hRW, bsz]
            have := Sd.rowT_len half sec (dat x) mk (dat y)
            omega
          have HRW : Hid (RW.data.toList = Sd.rowT half sec (dat x) mk (dat y)) := hid (by rw [hRW]; rfl)
          have HAL1 : Hid (PA.length + RW.size ≤ maxLen) := hid (by unfold maxLen; omega)
          have HAL2 : Hid (PA.length + RW.size ≤ 140737488355328) := hid (by omega)
          rw [← hRW] at HRO
          have HONE : Hid (acc ++ Sd.bes half sec (PA1.take (j + 1)) (PM1.take (j + 1)) = PA ++ RW.data.toList) := hid (by rw [hone, HRW.out, HPA.out, List.append_assoc])
          have HPJ := hid hpj
          have HQJ := hid hqj
          have i4 : (p : Int) < (xa : Int) := by omega
          have i5 : (0 : Int) ≤ (p : Int) := by omega
          have i6 : (p : Int) < (n : Int) := by omega
          have i7 : (0 : Int) ≤ (q : Int) := by omega
          have i8 : (q : Int) < (m : Int) := by omega
          have i9 : IntKind.i64.wrap ((p : Int) + 1) = ((p + 1 : Nat) : Int) := by rw [wrapB (by omega) (by omega)]; omega
          have ia : IntKind.i64.wrap ((q : Int) + 1) = ((q + 1 : Nat) : Int) := by rw [wrapB (by omega) (by omega)]; omega
          have hq2 : q + 1 ≤ xb := by omega
          generalize bB [mk] = MK at HMK HRO
          clear hxk hyk hba hbb hoj HJ hone hPA hPl hRW hRz hpj hqj g7
          go_wp2_with fail
          have HBd : Hid (Below G w5 wr.drew) := hid (below_drewN HBw.out 1)
          have HGd : Hid (G ≤ wr.drew.heap.size) := HGw
          have HOd : Hid (wr.drew.ownsRow G 5 1 u14 PA.length (Lib.byteCells PA)) := hid (own_stays HOw.out (below_drewN (Below.refl wr.heap.size wr) 1))
          clear HBw HGw HOw
          obtain ⟨ta, tb⟩ := HKE.out _ HBd.out
          go_region_held3 (fun w' => w'.cell? ⟨ba, oa + p, none⟩ = some (.string x) ∧ w'.cell? ⟨bb, ob + q, none⟩ = some (.string y))
            (first
              | go_keep
              | ((try dsimp only); exact HKE.out _ (by first | exact HB7.out | exact HB6.out | exact HBd.out)))
            (first
              | (rw [if_pos (by rfl)]; refine wp_append_strY _ _ _ _ rfl G 5 i0 Tryd.underlying55 Tryd.underlying9 hi hz0 hz1 hz2 _ _ _ rfl HO6.out RW rfl HAL1.out HAL2.out HG6.out ?_; intro v7 w7 ho7 hg7 _; have HO7 := hid (str_ownY (l := PA) (s := RW) ho7); have HB7 := hid (HB6.out.grown hg7 HG6.out (own_geY HO6.out)); have HG7 := hid (Nat.le_trans HG6.out hg7.size); clear ho7 hg7)
              | (go_at_call 24; refine (HRO.out _).mono ?_; rintro e w6 ⟨rfl, hb6⟩; have HB6 := hid (HBd.out.trans (hb6.mono HGd.out)); have HG6 := hid (Nat.le_trans HGd.out hb6.size); have HO6 := hid (own_stays HOd.out hb6); clear hb6)
              | (go_at_call 25; refine (HMK.out _).mono ?_; rintro e wm ⟨rfl, rfl⟩))
          clear ta tb HMK HRO
          go_wp2_with fail
          go_roundw
          case rel => exact ⟨p + 1, q + 1, rfl, rfl, by omega, hq2, hid ⟨j + 1, by have := HPJ.out; omega, by have := HQJ.out; omega, by rw [HONE.out]; exact HO7.out⟩, HB7, HG7⟩
          case measure => simp [intOf]; omega
        · have hpe : p = xa := by omega
          subst hpe
          have g7 := G7.out
          have hqe : q = xb := by omega
          subst hqe
          have i4 : ¬ ((p : Int) < (p : Int)) := by omega
          have hj1 := HL1.out
          have hj2 := HL2.out
          rw [List.take_of_length_le (by omega), List.take_of_length_le (by omega)] at hoj
          obtain ⟨acc1, hacc1⟩ : ∃ acc1, acc1 = acc ++ Sd.bes half sec PA1 PM1 := ⟨_, rfl⟩
          rw [← hacc1] at hoj HAB HT2 HAC2
          have HO1 := hid hoj
          obtain ⟨wq, hwq⟩ : ∃ wq, wq = wr := ⟨_, rfl⟩
          subst hwq
          have HB1 := HBw
          have HG1 := HGw
          clear HJ hoj hj1 hj2 hacc1 hpj hqj HBw HGw g7 hpt
          go_wp2_with fail
          go_loopw [14, 18] (fun oo nn wr => ∃ j : Nat, nn = .int .i64 j ∧ j ≤ MX ∧ Hid (OwY wr G oo (acc1 ++ ((chgL half sec PA2 PM2).take j).flatten)) ∧ Hid (Below G w5 wr) ∧ Hid (G ≤ wr.heap.size)) (fun _ nn _ => MX - (intOf nn).toNat)
          case atStart => exact ⟨0, rfl, Nat.zero_le _, hid (by rw [List.take_zero, List.flatten_nil, List.append_nil]; exact HO1.out), HB1, HG1⟩
          case round =>
            clear HO1 HB1 HG1
            obtain ⟨j, rfl, hjm, HOw, HBw, HGw⟩ := hrel
            have dd1 := (HBw.out.cell (p := ⟨b0, o0 + c * 4 + 1, none⟩) HLBG.out).trans D1.out
            have dd3 := (HBw.out.cell (p := ⟨b0, o0 + c * 4 + 3, none⟩) HLBG.out).trans D3.out
            have hx1 := HX1.out
            have hx2 := HX2.out
            have hmxe := HMX.out
            by_cases hjt : j < MX
            · have j1 : (j : Int) < (MX : Int) := by omega
              have j0 : (0 : Int) ≤ (j : Int) := by omega
              have jw : IntKind.i64.wrap ((j : Int) + 1) = ((j + 1 : Nat) : Int) := by rw [wrapB (by omega) (by omega)]; omega
              have hfl := flat_le (chgL half sec PA2 PM2) j
              rw [chgL_flat] at hfl
              have hq2 := HQ2.out
              have hab := HAB.out
              go_wp2_with fail
              go_quiet (fail)
              have HB2 := hid (below_drewN HBw.out nq)
              have HG2 : Hid (G ≤ (wr.drewN nq).heap.size) := HGw
              have HO2 := hid (own_stays HOw.out (below_drewN (Below.refl wr.heap.size wr) nq))
              clear HBw HGw HOw dd1 dd3
              generalize wr.drewN nq = wt at HB2 HG2 HO2 ⊢
              have HBw := HB2
              have HGw := HG2
              have HOw := HO2
              clear HB2 HG2 HO2
              have dd1 := (HBw.out.cell (p := ⟨b0, o0 + c * 4 + 1, none⟩) HLBG.out).trans D1.out
              have dd3 := (HBw.out.cell (p := ⟨b0, o0 + c * 4 + 3, none⟩) HLBG.out).trans D3.out
              have hA9 := HA2.out wt (HWBF.out _ HBw.out)
              have hM9 := HM2.out wt (HWBF.out _ HBw.out)
              obtain ⟨PA, hPA⟩ : ∃ PA, PA = acc1 ++ ((chgL half sec PA2 PM2).take j).flatten := ⟨_, rfl⟩
              have hPl : PA.length ≤ 90000000000 := by
                rw [hPA]
                rw [List.length_append]
                omega
              have HPA := hid hPA
              rw [← hPA] at HOw
              by_cases hcm : XM ≤ j
              · have jm : (XM : Int) ≤ (j : Int) := by omega
                obtain ⟨x, hxk⟩ : ∃ x, A[p + j]? = some x := ⟨_, List.getElem?_eq_getElem (by have := HNn.out; omega)⟩
                obtain ⟨ba, oa, ea, hba, ta⟩ := rdT_at hA9 hxk
                subst ea
                have hat := chgL_old half sec j PA2 PM2 (dat x) (by rw [HE3.out, List.getElem?_map, part_at (by omega) hxk]; rfl) (by rw [HL4.out]; exact hcm)
                have hone := flat_one hat
                have HRO := hid (fun w1 => refRow_any (w := w1) (half := half) (sec := sec) x ⟨#[]⟩ 60 hch (HXA.out x (List.mem_of_getElem? hxk)) (by decide))
                rw [show bB [60] = ⟨#[60]⟩ from rfl, show dat ⟨#[]⟩ = [] from rfl] at HRO
                obtain ⟨RW, hRW⟩ : ∃ RW, RW = bB (Sd.rowT half sec (dat x) 60 []) := ⟨_, rfl⟩
                have hRz : RW.size ≤ 8196 := by
                  rw [hRW, bsz]
                  have := Sd.rowT_len half sec (dat x) 60 []
                  omega
                have HRW : Hid (RW.data.toList = Sd.rowT half sec (dat x) 60 []) := hid (by rw [hRW]; rfl)
                have HAL1 : Hid (PA.length + RW.size ≤ maxLen) := hid (by unfold maxLen; omega)
                have HAL2 : Hid (PA.length + RW.size ≤ 140737488355328) := hid (by omega)
                rw [← hRW] at HRO
                have HONE : Hid (acc1 ++ ((chgL half sec PA2 PM2).take (j + 1)).flatten = PA ++ RW.data.toList) := hid (by rw [hone, HRW.out, HPA.out, List.append_assoc])
                have k1 : IntKind.i64.wrap ((p : Int) + (j : Int)) = ((p + j : Nat) : Int) := by rw [wrapB (by omega) (by omega)]; omega
                have k2 : (0 : Int) ≤ ((p + j : Nat) : Int) := by omega
                have k3 : ((p + j : Nat) : Int) < (n : Int) := by omega
                have k4 : p + j < n := by omega
                clear hxk hba hat hone hPA hPl hRW hRz hA9 hM9 hfl hx1 hx2 hmxe
                obtain ⟨pj, hpj⟩ : ∃ pj, p + j = pj := ⟨_, rfl⟩
                rw [hpj] at k1 k2 k3 k4 ta
                clear hpj
                go_wp2_with fail
                have HBd := HBw
                have HGd := HGw
                have HOd := HOw
                clear HBw HGw HOw dd1 dd3
                go_wp2_with fail
                refine (HRO.out _).mono ?_
                rintro e w6 ⟨rfl, hb6⟩
                have HB6 := hid (HBd.out.trans (hb6.mono HGd.out))
                have HG6 := hid (Nat.le_trans HGd.out hb6.size)
                have HO6 := hid (own_stays HOd.out hb6)
                clear hb6 HOd
                go_wp2_with (at_builtin; refine Lib.wpList_append_own_string _ rfl _ _ 55 9 rfl G 5 i0 Tryd.underlying55 Tryd.underlying9 hi hz0 hz1 hz2 _ _ _ rfl HO6.out RW rfl HAL1.out HAL2.out HG6.out ?_; intro v7 w7 ho7 hg7 _; have HO7 := hid (str_ownY (l := PA) (s := RW) ho7); have HB7 := hid (HB6.out.grown hg7 HG6.out (own_geY HO6.out)); have HG7 := hid (Nat.le_trans HG6.out hg7.size); clear ho7 hg7)
                go_wp2_with fail
                go_roundw
                case rel => exact ⟨j + 1, rfl, by omega, hid (by rw [HONE.out]; exact HO7.out), HB7, HG7⟩
                case measure => simp [intOf]; omega
                case roundEnd => exfalso; rename_i h9; have := HMX.out; have := HX1.out; have := HX2.out; omega
              · have jm : ¬ ((XM : Int) ≤ (j : Int)) := by omega
                obtain ⟨y, hyk⟩ : ∃ y, M[q + j]? = some y := ⟨_, List.getElem?_eq_getElem (by have := HMm.out; omega)⟩
                obtain ⟨bb, ob, eb, hbb, tb⟩ := rdT_at hM9 hyk
                subst eb
                have hyp := part_at (y := yb) (by omega) hyk
                have k1 : IntKind.i64.wrap ((q : Int) + (j : Int)) = ((q + j : Nat) : Int) := by rw [wrapB (by omega) (by omega)]; omega
                have k2 : (0 : Int) ≤ ((q + j : Nat) : Int) := by omega
                have k3 : ((q + j : Nat) : Int) < (m : Int) := by omega
                have k4 : q + j < m := by omega
                have hys := HXM.out y (List.mem_of_getElem? hyk)
                by_cases hcn : XN ≤ j
                · have jn : (XN : Int) ≤ (j : Int) := by omega
                  have hat := chgL_new half sec j PA2 PM2 (dat y) (by rw [HE4.out, List.getElem?_map, hyp]; rfl) (by rw [HL3.out]; exact hcn)
                  have hone := flat_one hat
                  have HRO := hid (fun w1 => refRow_any (w := w1) (half := half) (sec := sec) ⟨#[]⟩ y 62 hch (by decide) hys)
                  rw [show bB [62] = ⟨#[62]⟩ from rfl, show dat ⟨#[]⟩ = [] from rfl] at HRO
                  obtain ⟨RW, hRW⟩ : ∃ RW, RW = bB (Sd.rowT half sec [] 62 (dat y)) := ⟨_, rfl⟩
                  have hRz : RW.size ≤ 8196 := by
                    rw [hRW, bsz]
                    have := Sd.rowT_len half sec [] 62 (dat y)
                    omega
                  have HRW : Hid (RW.data.toList = Sd.rowT half sec [] 62 (dat y)) := hid (by rw [hRW]; rfl)
                  have HAL1 : Hid (PA.length + RW.size ≤ maxLen) := hid (by unfold maxLen; omega)
                  have HAL2 : Hid (PA.length + RW.size ≤ 140737488355328) := hid (by omega)
                  rw [← hRW] at HRO
                  have HONE : Hid (acc1 ++ ((chgL half sec PA2 PM2).take (j + 1)).flatten = PA ++ RW.data.toList) := hid (by rw [hone, HRW.out, HPA.out, List.append_assoc])
                  clear hyk hyp hbb hat hone hPA hPl hRW hRz hA9 hM9 hfl hx1 hx2 hmxe
                  obtain ⟨qj, hqj⟩ : ∃ qj, q + j = qj := ⟨_, rfl⟩
                  rw [hqj] at k1 k2 k3 k4 tb
                  clear hqj
                  go_wp2_with fail
                  have HBd := HBw
                  have HGd := HGw
                  have HOd := HOw
                  clear HBw HGw HOw dd1 dd3
                  go_wp2_with fail
                  refine (HRO.out _).mono ?_
                  rintro e w6 ⟨rfl, hb6⟩
                  have HB6 := hid (HBd.out.trans (hb6.mono HGd.out))
                  have HG6 := hid (Nat.le_trans HGd.out hb6.size)
                  have HO6 := hid (own_stays HOd.out hb6)
                  clear hb6 HOd
                  go_wp2_with (at_builtin; refine Lib.wpList_append_own_string _ rfl _ _ 55 9 rfl G 5 i0 Tryd.underlying55 Tryd.underlying9 hi hz0 hz1 hz2 _ _ _ rfl HO6.out RW rfl HAL1.out HAL2.out HG6.out ?_; intro v7 w7 ho7 hg7 _; have HO7 := hid (str_ownY (l := PA) (s := RW) ho7); have HB7 := hid (HB6.out.grown hg7 HG6.out (own_geY HO6.out)); have HG7 := hid (Nat.le_trans HG6.out hg7.size); clear ho7 hg7)
                  go_wp2_with fail
                  go_roundw
                  case rel => exact ⟨j + 1, rfl, by omega, hid (by rw [HONE.out]; exact HO7.out), HB7, HG7⟩
                  case measure => simp [intOf]; omega
                  case roundEnd => exfalso; rename_i h9; have := HMX.out; have := HX1.out; have := HX2.out; omega
                · have jn : ¬ ((XN : Int) ≤ (j : Int)) := by omega
                  obtain ⟨x, hxk⟩ : ∃ x, A[p + j]? = some x := ⟨_, List.getElem?_eq_getElem (by have := HNn.out; omega)⟩
                  obtain ⟨ba, oa, ea, hba, ta⟩ := rdT_at (HA2.out w5 HB5.out) hxk
                  subst ea
                  obtain ⟨bb2, ob2, eb2, hbb2, tb2⟩ := rdT_at (HM2.out w5 HB5.out) hyk
                  obtain ⟨rfl, rfl⟩ : bb2 = bb ∧ ob2 = ob := by simpa [eq_comm] using eb2
                  have HKE0 : Hid (∀ w', Below G w5 w' → w'.cell? ⟨ba, oa + (p + j), none⟩ = some (.string x) ∧ w'.cell? ⟨bb2, ob2 + (q + j), none⟩ = some (.string y)) := hid (fun w' h => ⟨(h.cell (by have := HGE.out; show ba < G; omega)).trans ta, (h.cell (by have := HGE.out; show bb2 < G; omega)).trans tb2⟩)
                  clear ta tb2 eb2 tb
                  have hxs := HXA.out x (List.mem_of_getElem? hxk)
                  have hat := chgL_both half sec j PA2 PM2 (dat x) (dat y) (by rw [HE3.out, List.getElem?_map, part_at (by omega) hxk]; rfl) (by rw [HE4.out, List.getElem?_map, hyp]; rfl)
                  have HMK := hid (fun w1 => refMark_any x y w1 hxs hys)
                  have HRO := hid (fun w1 => refRow_any (w := w1) (half := half) (sec := sec) x y (Sd.mkT (dat x) (dat y)) hch hxs hys)
                  generalize Sd.mkT (dat x) (dat y) = mk at hat HMK HRO
                  have hone := flat_one hat
                  obtain ⟨RW, hRW⟩ : ∃ RW, RW = bB (Sd.rowT half sec (dat x) mk (dat y)) := ⟨_, rfl⟩
                  have hRz : RW.size ≤ 8196 := by
                    rw [hRW, bsz]
                    have := Sd.rowT_len half sec (dat x) mk (dat y)
                    omega
                  have HRW : Hid (RW.data.toList = Sd.rowT half sec (dat x) mk (dat y)) := hid (by rw [hRW]; rfl)
                  have HAL1 : Hid (PA.length + RW.size ≤ maxLen) := hid (by unfold maxLen; omega)
                  have HAL2 : Hid (PA.length + RW.size ≤ 140737488355328) := hid (by omega)
                  rw [← hRW] at HRO
                  have HONE : Hid (acc1 ++ ((chgL half sec PA2 PM2).take (j + 1)).flatten = PA ++ RW.data.toList) := hid (by rw [hone, HRW.out, HPA.out, List.append_assoc])
                  have l1 : IntKind.i64.wrap ((p : Int) + (j : Int)) = ((p + j : Nat) : Int) := by rw [wrapB (by omega) (by omega)]; omega
                  have l2 : (0 : Int) ≤ ((p + j : Nat) : Int) := by omega
                  have l3 : ((p + j : Nat) : Int) < (n : Int) := by omega
                  have l4 : p + j < n := by omega
                  generalize bB [mk] = MK at HMK HRO
                  clear hxk hyk hyp hba hbb hbb2 hat hone hPA hPl hRW hRz hA9 hM9 hfl hx1 hx2 hmxe
                  obtain ⟨qj, hqj⟩ : ∃ qj, q + j = qj := ⟨_, rfl⟩
                  rw [hqj] at k1 k2 k3 k4
                  obtain ⟨pj, hpj⟩ : ∃ pj, p + j = pj := ⟨_, rfl⟩
                  rw [hpj] at l1 l2 l3 l4
                  have HKE : Hid (∀ w', Below G w5 w' → w'.cell? ⟨ba, oa + pj, none⟩ = some (.string x) ∧ w'.cell? ⟨bb2, ob2 + qj, none⟩ = some (.string y)) := hid (by rw [← hpj, ← hqj]; exact HKE0.out)
                  clear hpj hqj HKE0
                  go_wp2_with fail
                  case roundEnd => exfalso; rename_i h9; have := HMX.out; have := HX1.out; have := HX2.out; omega
                  have HBd : Hid (Below G w5 wt.drew) := hid (below_drewN HBw.out 1)
                  have HGd : Hid (G ≤ wt.drew.heap.size) := HGw
                  have HOd : Hid (wt.drew.ownsRow G 5 1 u14 PA.length (Lib.byteCells PA)) := hid (own_stays HOw.out (below_drewN (Below.refl wt.heap.size wt) 1))
                  clear HBw HGw HOw
                  obtain ⟨ta, tb⟩ := HKE.out _ HBd.out
                  go_region_held3 (fun w' => w'.cell? ⟨ba, oa + pj, none⟩ = some (.string x) ∧ w'.cell? ⟨bb2, ob2 + qj, none⟩ = some (.string y))
                    (first
                      | go_keep
                      | ((try dsimp only); exact HKE.out _ (by first | exact HB7.out | exact HB6.out | exact HBd.out)))
                    (first
                      | (rw [if_pos (by rfl)]; refine wp_append_strY _ _ _ _ rfl G 5 i0 Tryd.underlying55 Tryd.underlying9 hi hz0 hz1 hz2 _ _ _ rfl HO6.out RW rfl HAL1.out HAL2.out HG6.out ?_; intro v7 w7 ho7 hg7 _; have HO7 := hid (str_ownY (l := PA) (s := RW) ho7); have HB7 := hid (HB6.out.grown hg7 HG6.out (own_geY HO6.out)); have HG7 := hid (Nat.le_trans HG6.out hg7.size); clear ho7 hg7)
                      | (go_at_call 24; refine (HRO.out _).mono ?_; rintro e w6 ⟨rfl, hb6⟩; have HB6 := hid (HBd.out.trans (hb6.mono HGd.out)); have HG6 := hid (Nat.le_trans HGd.out hb6.size); have HO6 := hid (own_stays HOd.out hb6); clear hb6)
                      | (go_at_call 25; refine (HMK.out _).mono ?_; rintro e wm ⟨rfl, rfl⟩))
                  clear ta tb HMK HRO
                  go_wp2_with fail
                  go_roundw
                  case rel => exact ⟨j + 1, rfl, by omega, hid (by rw [HONE.out]; exact HO7.out), HB7, HG7⟩
                  case measure => simp [intOf]; omega
            · have hje : j = MX := by omega
              subst hje
              have j1 : ¬ ((j : Int) < (j : Int)) := by omega
              have hlen : (chgL half sec PA2 PM2).length ≤ j := by rw [chgL_len, HL3.out, HL4.out]; omega
              have HOe : Hid (OwY wr G u14 (acc1 ++ Sd.chg half sec PA2 PM2)) := hid (by
                have h9 := HOw.out
                rw [List.take_of_length_le hlen, chgL_flat] at h9
                exact h9)
              clear HOw hlen hx1 hx2 hmxe
              go_wp2_with fail
              go_quiet (fail)
              have HB2 := hid (below_drewN HBw.out nq)
              have HG2 : Hid (G ≤ (wr.drewN nq).heap.size) := HGw
              have HO2 := hid (own_stays HOe.out (below_drewN (Below.refl wr.heap.size wr) nq))
              clear HBw HGw HOe dd1 dd3
              generalize wr.drewN nq = wt at HB2 HG2 HO2 ⊢
              have dd1 := (HB2.out.cell (p := ⟨b0, o0 + c * 4 + 1, none⟩) HLBG.out).trans D1.out
              have dd3 := (HB2.out.cell (p := ⟨b0, o0 + c * 4 + 3, none⟩) HLBG.out).trans D3.out
              go_wp2_with fail
              go_roundw
              case rel => exact ⟨c + 1, ya, yb, acc1 ++ Sd.chg half sec PA2 PM2, by omega, by go_num, rfl, rfl, g3, g6, HOK2, HO2, HT2, HAC2, HB2, HG2⟩
              case measure => simp [intOf]; omega
    · have hce : c = NN := by omega
      subst hce
      have i2 : ¬ ((c : Int) < (c : Int)) := by omega
      have HOe : Hid (acc = T) := hid (by
        have h9 := HT.out
        have h8 := HOKc.out.2 (by have := HNS.out; omega)
        rw [List.drop_of_length_le (by have := HNE.out; omega), h8.1, h8.2] at h9
        unfold prT at h9
        rw [List.drop_of_length_le (by have := HNn.out; omega), List.drop_of_length_le (by have := HMm.out; omega)] at h9
        rw [h9, show Sd.bes half sec (List.map dat []) (List.map dat []) = [] from rfl, List.append_nil])
      rw [HOe.out] at HO
      have hcv := conv_ownY HO.out
      go_wp2_with fail
      go_ret2
      exact ⟨rfl, HB5.out.trans (HBG.out.mono HGw5.out)⟩
end Sy
end Go.Proofs.YtjgjfnmljmmplaaDoor
