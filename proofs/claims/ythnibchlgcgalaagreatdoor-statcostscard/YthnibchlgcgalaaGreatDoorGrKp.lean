/-
  Several texts in one: Kp, Kr.
-/
import Derived.Test.YthnibchlgcgalaaGreatDoorJb
import Derived.Test.YthnibchlgcgalaaGreatDoorGrKa
import Derived.Test.YthnibchlgcgalaaGreatDoorGrPl
import Derived.Test.YthnibchlgcgalaaGreatDoorKb
import Derived.Test.YthnibchlgcgalaaGreatDoorGrD5
import Derived.Test.YthnibchlgcgalaaGreatDoorGrJd
import Derived.Test.YthnibchlgcgalaaGreatDoorGrX
/-
  The document's one: the hunk of a group.
-/
namespace Go.Proofs.YthnibchlgcgalaaGreatDoor
open Go.RowKit
open Hu (Rw Hk)
open Ed (Ch)

set_option maxHeartbeats 8000000 in
set_option maxRecDepth 100000 in
theorem rOne_any {w : World} {v va vb : Value} {g : List Ch} {a b : List ByteArray} {ctx : Int} (hv : RdC w v g) (ha : RdT w va a) (hb : RdT w vb b) (hne : g ≠ []) (hinc : Hu.inc g (Hu.fromG ctx g) (Hu.fromH ctx g) a.length b.length) (h0 : 0 ≤ Hu.fromG ctx g) (h1 : 0 ≤ Hu.fromH ctx g) (hc0 : 0 ≤ ctx) (hc1 : ctx ≤ 2147483647) (hla : a.length ≤ 4194304) (hlb : b.length ≤ 4194304) (hlg : g.length ≤ 8388608) :
    Calls Tryz.prog 21 #[v, va, vb, .int .i64 ctx] w fun e w' => ∃ v', e = .returned (HkV (Hu.ofG ctx a b g) v') ∧ OwnW w' w.heap.size v' (Hu.ofG ctx a b g).rows ∧ Below w.heap.size w w' := by
  obtain ⟨ag, cg, rfl⟩ := hv.shape
  obtain ⟨aa, ca, rfl⟩ := ha.shape
  obtain ⟨ab, cb, rfl⟩ := hb.shape
  have hg0 : 0 < g.length := List.length_pos_iff.2 hne
  obtain ⟨c, hc⟩ : ∃ c, g[0]? = some c := ⟨_, List.getElem?_eq_getElem hg0⟩
  obtain ⟨d, hd⟩ : ∃ d, g[g.length - 1]? = some d := ⟨_, List.getElem?_eq_getElem (by omega)⟩
  have HV := hid hv
  obtain ⟨bg, og, rfl, hbg, c0, c1, c2, c3⟩ := rdC_at hv hc
  obtain ⟨bg2, og2, e2, _, d0, d1, d2, d3⟩ := rdC_at hv hd
  cases e2
  obtain ⟨n, hn⟩ : ∃ n, n = g.length - 1 := ⟨_, rfl⟩
  have e1 : g.length = n + 1 := by omega
  rw [← hn] at d0 d1 d2 d3
  rw [e1]
  have i1 : IntKind.i64.wrap ((n : Int) + 1 - 1) = (n : Int) := (wrapOk (by omega) (by omega)).trans (by omega)
  have i2 : (n : Int) < (n : Int) + 1 := by omega
  have i3 : (0 : Int) ≤ (n : Int) := by omega
  have i4 : (0 : Int) < (n : Int) + 1 := by omega
  simp only [Nat.zero_mul, Nat.add_zero] at c0 c1 c2 c3
  have HC := hid hc
  have HD := hid hd
  have HN := hid hn
  have HE1 := hid e1
  have HA := hid ha
  have HBb := hid hb
  have HNE := hid hne
  have HINC := hid hinc
  have HF := hid (Hu.ofG_facts hne hinc h0 h1 hc0 hla hlb)
  have H01 := hid (And.intro h0 h1)
  have hn8 : n < 8388608 := by omega
  have hhead : g.headD Hu.zC = c := by
    have := HC.out
    cases g with
    | nil => simp at this
    | cons x r => simpa using this
  have hlast : g.getLastD Hu.zC = d := by
    have := HD.out
    rw [List.getLastD_eq_getLast?, List.getLast?_eq_getElem?, this]
    rfl
  have hFG : Hu.fromG ctx g = c.a - min ctx c.a := by unfold Hu.fromG; rw [hhead]
  have hFH : Hu.fromH ctx g = c.b - min ctx c.a := by unfold Hu.fromH; rw [hhead]
  have hTG : Hu.toG ctx a.length g = min (d.a + d.n + ctx) a.length := by unfold Hu.toG; rw [hlast]
  obtain ⟨q1, q2, q3, q4, q5, q6, q7⟩ := HF.out
  have hci := Hu.inc_in HINC.out c (List.mem_of_getElem? HC.out)
  have hdi := Hu.inc_in HINC.out d (List.mem_of_getElem? HD.out)
  obtain ⟨MO, hM⟩ : ∃ MO : Int, min ctx c.a = MO := ⟨_, rfl⟩
  rw [hM] at hFG hFH
  obtain ⟨P0, hP0⟩ := Int.eq_ofNat_of_zero_le h0
  obtain ⟨TO, hTO⟩ := Int.eq_ofNat_of_zero_le (a := Hu.toG ctx a.length g) (by omega)
  obtain ⟨Q0, hQ0⟩ := Int.eq_ofNat_of_zero_le h1
  have i6 : IntKind.i64.wrap (c.a - MO) = (P0 : Int) := (wrapOk (by omega) (by omega)).trans (by omega)
  obtain ⟨MD, hMD⟩ : ∃ MD : Int, MD = c.a - (P0 : Int) := ⟨_, rfl⟩
  have i6b : IntKind.i64.wrap (c.a - (P0 : Int)) = MD := (wrapOk (by omega) (by omega)).trans hMD.symm
  have i6c : IntKind.i64.wrap (c.b - MD) = (Q0 : Int) := (wrapOk (by omega) (by omega)).trans (by omega)
  obtain ⟨DE, hDE⟩ : ∃ DE : Int, DE = d.a + d.n := ⟨_, rfl⟩
  have i7 : IntKind.i64.wrap (d.a + d.n) = DE := (wrapOk (by omega) (by omega)).trans hDE.symm
  obtain ⟨DL, hDL⟩ : ∃ DL : Int, DL = (a.length : Int) - DE := ⟨_, rfl⟩
  have i8 : IntKind.i64.wrap ((a.length : Int) - DE) = DL := (wrapOk (by omega) (by omega)).trans hDL.symm
  obtain ⟨DM, hDM⟩ : ∃ DM : Int, min ctx DL = DM := ⟨_, rfl⟩
  have hT : IntKind.i64.wrap (DE + DM) = (TO : Int) := (wrapOk (by omega) (by omega)).trans (by omega)
  obtain ⟨N, hN⟩ : ∃ N : Nat, (N : Int) = (TO : Int) - (P0 : Int) + Ed.comeS g := ⟨((TO : Int) - (P0 : Int) + Ed.comeS g).toNat, by omega⟩
  have hNl : N ≤ 8388608 := by omega
  have hTOl : TO ≤ a.length := by omega
  have hP0l : P0 ≤ TO := by omega
  have HFG : Hid (Hu.fromG ctx g = (P0 : Int)) := hid hP0
  have HFH : Hid (Hu.fromH ctx g = (Q0 : Int)) := hid hQ0
  have HTG : Hid (Hu.toG ctx a.length g = (TO : Int)) := hid hTO
  have HLN : Hid ((Hu.rowsG a b P0 g TO).length = N) := hid (by rw [hP0, hTO] at q5; omega)
  have HEND : Hid (Hu.endA P0 g ≤ TO) := hid (by rw [hP0, hTO] at q1; exact q1)
  have HIN0 : Hid (Hu.inc g P0 Q0 a.length b.length) := hid (by have := HINC.out; rw [hP0, hQ0] at this; exact this)
  have hP0b : (P0 : Int) ≤ 4194304 := by omega
  have hQ0b : (Q0 : Int) ≤ 4194304 := by omega
  clear hhead hlast hFG hFH hTG q1 q2 q3 q4 q5 q6 q7 h0 h1 hci hdi hP0 hTO hQ0 hDE hDL hN hMD
  clear hc hd hn e1 hv ha hb hne hinc hg0 hlg
  have hbR := (Below.refl w.heap.size w).alloc (Nat.le_refl _) (.cells #[.int .i64 0, .int .i64 0, .int .i64 0, .int .i64 0, .string ⟨#[]⟩, .slice none 0 0] 48)
  have hkR := heap_alloc_new w (.cells #[.int .i64 0, .int .i64 0, .int .i64 0, .int .i64 0, .string ⟨#[]⟩, .slice none 0 0] 48)
  go_enter Tryz.func21, Tryz.ntmps21
  go_wp2_with fail
  have hs1 : (w.alloc (.cells #[.int .i64 0, .int .i64 0, .int .i64 0, .int .i64 0, .string ⟨#[]⟩, .slice none 0 0] 48)).heap.size = w.heap.size + 1 := by simp
  generalize w.alloc (.cells #[.int .i64 0, .int .i64 0, .int .i64 0, .int .i64 0, .string ⟨#[]⟩, .slice none 0 0] 48) = w1 at hbR hkR hs1 ⊢
  replace c0 := (hbR.cell (p := ⟨bg, _, none⟩) hbg).trans c0
  replace c1 := (hbR.cell (p := ⟨bg, _, none⟩) hbg).trans c1
  replace c2 := (hbR.cell (p := ⟨bg, _, none⟩) hbg).trans c2
  replace c3 := (hbR.cell (p := ⟨bg, _, none⟩) hbg).trans c3
  replace d0 := (hbR.cell (p := ⟨bg, _, none⟩) hbg).trans d0
  replace d1 := (hbR.cell (p := ⟨bg, _, none⟩) hbg).trans d1
  replace d2 := (hbR.cell (p := ⟨bg, _, none⟩) hbg).trans d2
  replace d3 := (hbR.cell (p := ⟨bg, _, none⟩) hbg).trans d3
  obtain ⟨R, hR⟩ : ∃ R, R = w.heap.size := ⟨_, rfl⟩
  rw [← hR] at hkR hs1 ⊢
  have HR := hid hR
  have hb2 := (Below.refl w1.heap.size w1).alloc (Nat.le_refl _) (.cells #[.int .i64 d.a, .int .i64 d.n, .int .i64 d.b, .int .i64 d.m] 68)
  have hL2 := heap_alloc_new w1 (.cells #[.int .i64 d.a, .int .i64 d.n, .int .i64 d.b, .int .i64 d.m] 68)
  rw [hs1] at hL2
  have hbg1 : bg < w1.heap.size := Nat.lt_of_lt_of_le hbg hbR.size
  replace c0 := (hb2.cell (p := ⟨bg, _, none⟩) hbg1).trans c0
  replace c2 := (hb2.cell (p := ⟨bg, _, none⟩) hbg1).trans c2
  have hkR2 := (hb2.block R (by omega)).trans hkR
  have HB2 := hid (hbR.trans (hb2.mono hbR.size))
  obtain ⟨L, hL⟩ : ∃ L, L = R + 1 := ⟨_, rfl⟩
  rw [← hL] at hL2 ⊢
  generalize w1.alloc (.cells #[.int .i64 d.a, .int .i64 d.n, .int .i64 d.b, .int .i64 d.m] 68) = w2 at c0 c2 hkR2 HB2 hL2 ⊢
  clear hR hs1 hb2 hbg1 hkR hbR c1 c3 d0 d1 d2 d3 hL
  go_quiet (fail)
  have HB3 := hid (below_drewN HB2.out nq)
  have HN3 := hid (below_drewN (Below.refl w2.heap.size w2) nq)
  have hL3 := (HN3.out.block L (lt_of_heap hL2)).trans hL2
  have HR3 := hid ((HN3.out.block R (lt_of_heap hkR2)).trans hkR2)
  generalize w2.drewN nq = w3 at HB3 hL3 HR3 ⊢
  have l0 : w3.cell? ⟨L, 0, none⟩ = some (.int .i64 d.a) := cell_of_blk hL3 0
  have l1 : w3.cell? ⟨L, 1, none⟩ = some (.int .i64 d.n) := cell_of_blk hL3 1
  clear HN3 c0 c2 hkR2 hL2 hL3 HB2
  go_wp2_with fail
  go_loopw [13, 14, 15] (fun vo pp ii wr => ∃ (k P Q : Nat) (X : List Rw), k ≤ n + 1 ∧ ii = .int .i64 k ∧ pp = .int .i64 P ∧ P ≤ TO ∧ Hid (OwnW wr w3.heap.size vo X) ∧ Hid (Below w3.heap.size w3 wr) ∧ Hid (Hu.rowsG a b P0 g TO = X ++ Hu.rowsG a b P (g.drop k) TO) ∧ Hid (Hu.inc (g.drop k) P Q a.length b.length) ∧ Hid (Hu.endA P (g.drop k) ≤ TO)) (fun _ _ ii _ => n + 1 - (intOf ii).toNat)
  case atStart => exact ⟨0, P0, Q0, [], Nat.zero_le _, rfl, rfl, hP0l, World.ownsRow_nil _ _ _ _, Below.refl _ _, hid rfl, HIN0, HEND⟩
  case round =>
    obtain ⟨k, P, Q, X, hk, rfl, rfl, hPT, HW, HB, HX, HI, HEN⟩ := hrel
    obtain ⟨ax, cx, rfl⟩ := own_shape HW.out
    have hcapA := rd_cap HA.out
    have hcapB := rd_cap HBb.out
    have HAU : Hid (Under w3.heap.size (.slice aa a.length ca)) := hid (HA.out.under.mono HB3.out.size)
    have HBU : Hid (Under w3.heap.size (.slice ab b.length cb)) := hid (HBb.out.under.mono HB3.out.size)
    have hXl : X.length ≤ N := by
      have := HX.out
      have h2 := congrArg List.length this
      rw [HLN.out, List.length_append] at h2
      omega
    by_cases hlt : k < n + 1
    · obtain ⟨z, hz⟩ : ∃ z, g[k]? = some z := ⟨_, List.getElem?_eq_getElem (by have := HE1.out; omega)⟩
      have HD2 := hid (drop_atC hz)
      rw [HD2.out] at HX HI HEN
      have hzi := Hu.inc_in HI.out z (List.mem_cons_self)
      have HI2 := hid HI.out.2
      have hend := Hu.endA_ge HI2.out
      have HEN2 : Hid (Hu.endA (z.a + z.n) (g.drop (k + 1)) ≤ TO) := hid HEN.out
      obtain ⟨bz, oz, ez, hbz, z0, z1, z2, z3⟩ := rdC_at HV.out hz
      cases ez
      have HBW := hid (HB3.out.trans (HB.out.mono HB3.out.size))
      replace z0 := (HBW.out.cell (p := ⟨bg, _, none⟩) hbz).trans z0
      replace z1 := (HBW.out.cell (p := ⟨bg, _, none⟩) hbz).trans z1
      replace z2 := (HBW.out.cell (p := ⟨bg, _, none⟩) hbz).trans z2
      replace z3 := (HBW.out.cell (p := ⟨bg, _, none⟩) hbz).trans z3
      obtain ⟨za, zn, zb, zm⟩ := z
      dsimp only at z0 z1 z2 z3 hzi hend HEN2 HI2
      obtain ⟨CA, hCA⟩ := Int.eq_ofNat_of_zero_le (a := za) (by omega)
      obtain ⟨CN, hCN⟩ := Int.eq_ofNat_of_zero_le (a := zn) (by omega)
      obtain ⟨CB, hCB⟩ := Int.eq_ofNat_of_zero_le (a := zb) (by omega)
      obtain ⟨CM2, hCM2⟩ := Int.eq_ofNat_of_zero_le (a := zm) (by omega)
      subst hCA hCN hCB hCM2
      have hE := HEN2.out
      have hca1 : P ≤ CA := by omega
      have hca2 : CA + CN ≤ a.length := by omega
      have hca3 : CB + CM2 ≤ b.length := by omega
      have hca4 : CA + CN ≤ TO := by omega
      obtain ⟨CE, hCE⟩ : ∃ CE, CE = CA + CN := ⟨_, rfl⟩
      obtain ⟨CF, hCF⟩ : ∃ CF, CF = CB + CM2 := ⟨_, rfl⟩
      have s1 : IntKind.i64.wrap ((CA : Int) + (CN : Int)) = (CE : Int) := (wrapOk (by omega) (by omega)).trans (by omega)
      have s2 : IntKind.i64.wrap ((CB : Int) + (CM2 : Int)) = (CF : Int) := (wrapOk (by omega) (by omega)).trans (by omega)
      have j1 : (0 : Int) ≤ (P : Int) := by omega
      have j2 : (P : Int) ≤ (CA : Int) := by omega
      have j3 : (CA : Int) ≤ (ca : Int) := by omega
      have j4 : (CA : Int) ≤ (CE : Int) := by omega
      have j5 : (CE : Int) ≤ (ca : Int) := by omega
      have j6 : (CB : Int) ≤ (CF : Int) := by omega
      have j7 : (CF : Int) ≤ (cb : Int) := by omega
      have j8 : (0 : Int) ≤ (CA : Int) := by omega
      have j9 : (0 : Int) ≤ (CB : Int) := by omega
      have k1 : (0 : Int) ≤ (k : Int) := by omega
      have k2 : (k : Int) < (n : Int) + 1 := by omega
      have k3 : IntKind.i64.wrap ((k : Int) + 1) = (k : Int) + 1 := wrapOk (by omega) (by omega)
      have k4 : (k : Int) + 1 ≤ (n : Int) + 1 := by omega
      obtain ⟨A1, hA1⟩ : ∃ A1, (if ca = P then aa else aa.map (·.add P)) = A1 := ⟨_, rfl⟩
      obtain ⟨A2, hA2⟩ : ∃ A2, (if ca = CA then aa else aa.map (·.add CA)) = A2 := ⟨_, rfl⟩
      obtain ⟨A3, hA3⟩ : ∃ A3, (if cb = CB then ab else ab.map (·.add CB)) = A3 := ⟨_, rfl⟩
      have HX2 : Hid (Hu.rowsG a b P0 g TO = (((X ++ Hu.mk 1 (Hu.sl a P CA)) ++ Hu.mk 2 (Hu.sl a CA CE)) ++ Hu.mk 3 (Hu.sl b CB CF)) ++ Hu.rowsG a b CE (g.drop (k + 1)) TO) := hid (by
        rw [HX.out, rowsG_cons, show ((CA : Int) + (CN : Int)) = (CE : Int) by omega, show ((CB : Int) + (CM2 : Int)) = (CF : Int) by omega]
        simp only [List.append_assoc])
      have HI3 : Hid (Hu.inc (g.drop (k + 1)) CE CF a.length b.length) := hid (by have h := HI2.out; rw [show ((CA : Int) + (CN : Int)) = (CE : Int) by omega, show ((CB : Int) + (CM2 : Int)) = (CF : Int) by omega] at h; exact h)
      have HEN3 : Hid (Hu.endA CE (g.drop (k + 1)) ≤ TO) := hid (by have h := HEN2.out; rw [show ((CA : Int) + (CN : Int)) = (CE : Int) by omega] at h; exact h)
      have hla1 : ((a.drop P).take (CA - P)).length ≤ 4194304 := by rw [List.length_take]; omega
      have hla2 : ((a.drop CA).take (CE - CA)).length ≤ 4194304 := by rw [List.length_take]; omega
      have hla3 : ((b.drop CB).take (CF - CB)).length ≤ 4194304 := by rw [List.length_take]; omega
      have HC1 := hid (fun (w5 : World) (v5 : Value) (Y : List Rw) (ho : OwnW w5 w3.heap.size v5 Y) (hb5 : Below w3.heap.size w3 w5) (hY : Y.length ≤ 20000000) => rPut_any (kd := 1) ho hb5.size (rdT_sliced ((HA.out.below HB3.out).keep HAU.out hb5) (x := P) (y := CA) hca1 (by omega)) (under_sliced HA.out HAU.out (by omega)) (by omega))
      have HC2 := hid (fun (w5 : World) (v5 : Value) (Y : List Rw) (ho : OwnW w5 w3.heap.size v5 Y) (hb5 : Below w3.heap.size w3 w5) (hY : Y.length ≤ 20000000) => rPut_any (kd := 2) ho hb5.size (rdT_sliced ((HA.out.below HB3.out).keep HAU.out hb5) (x := CA) (y := CE) (by omega) (by omega)) (under_sliced HA.out HAU.out (by omega)) (by omega))
      have HC3 := hid (fun (w5 : World) (v5 : Value) (Y : List Rw) (ho : OwnW w5 w3.heap.size v5 Y) (hb5 : Below w3.heap.size w3 w5) (hY : Y.length ≤ 20000000) => rPut_any (kd := 3) ho hb5.size (rdT_sliced ((HBb.out.below HB3.out).keep HBU.out hb5) (x := CB) (y := CF) (by omega) (by omega)) (under_sliced HBb.out HBU.out (by omega)) (by omega))
      rw [hA1] at HC1
      rw [hA2] at HC2
      rw [hA3] at HC3
      simp only [← Hu.sl_nat] at HC1 HC2 HC3
      have hN1 : (X ++ Hu.mk 1 (Hu.sl a P CA)).length ≤ N := by
        have h2 := congrArg List.length HX2.out
        rw [HLN.out] at h2
        simp only [List.length_append] at h2 ⊢
        omega
      have hN2 : ((X ++ Hu.mk 1 (Hu.sl a P CA)) ++ Hu.mk 2 (Hu.sl a CA CE)).length ≤ N := by
        have h2 := congrArg List.length HX2.out
        rw [HLN.out] at h2
        simp only [List.length_append] at h2 ⊢
        omega
      have HW5 := hid (own_stays HW.out ((Below.refl wr.heap.size wr).alloc (Nat.le_refl _) (.cells #[.int .i64 CA, .int .i64 CN, .int .i64 CB, .int .i64 CM2] 68)))
      have HB5 := hid (HB.out.alloc HB.out.size (.cells #[.int .i64 CA, .int .i64 CN, .int .i64 CB, .int .i64 CM2] 68))
      have HZ5 := hid (heap_alloc_new wr (.cells #[.int .i64 CA, .int .i64 CN, .int .i64 CB, .int .i64 CM2] 68))
      have zc0 : (wr.alloc (.cells #[.int .i64 CA, .int .i64 CN, .int .i64 CB, .int .i64 CM2] 68)).cell? ⟨wr.heap.size, 0, none⟩ = some (.int .i64 CA) := cell_of_blk HZ5.out 0
      obtain ⟨X1, hX1⟩ : ∃ X1, X1 = X ++ Hu.mk 1 (Hu.sl a P CA) := ⟨_, rfl⟩
      obtain ⟨X2, hX2⟩ : ∃ X2, X2 = X1 ++ Hu.mk 2 (Hu.sl a CA CE) := ⟨_, rfl⟩
      obtain ⟨X3, hX3⟩ : ∃ X3, X3 = X2 ++ Hu.mk 3 (Hu.sl b CB CF) := ⟨_, rfl⟩
      rw [← hX1, ← hX2, ← hX3] at HX2
      rw [← hX1, ← hX2] at hN2
      rw [← hX1] at hN1
      have HP1 := hid (HC1.out _ _ X HW5.out HB5.out (by omega))
      rw [← hX1] at HP1
      have HP2 := hid (fun w5 v5 ho hb5 => HC2.out w5 v5 X1 ho hb5 (by omega))
      rw [← hX2] at HP2
      have HP3 := hid (fun w5 v5 ho hb5 => HC3.out w5 v5 X2 ho hb5 (by omega))
      rw [← hX3] at HP3
      obtain ⟨Z, hZ⟩ : ∃ Z, Z = wr.heap.size := ⟨_, rfl⟩
      have HZL : Hid (∀ q, (Value.slice ax X.length cx).ownBlock = some q → q ≠ Z) := hid (fun q h => by have := own_lt HW.out q h; omega)
      have HZW : Hid (Z < (wr.alloc (.cells #[.int .i64 CA, .int .i64 CN, .int .i64 CB, .int .i64 CM2] 68)).heap.size) := hid (by rw [hZ]; exact lt_of_heap HZ5.out)
      rw [← hZ] at HZ5
      have HCE := hid hCE
      clear hCE hCF hX1 hX2 hX3 HC1 HC2 HC3 hN1 hN2 HW HB HX hz hbz hE hend hzi HEN HEN2 HI HI2 HW5
      go_wp2_with fail
      rw [← hZ]
      clear hZ
      refine HP1.out.mono ?_
      rintro e w6 ⟨v6, rfl, hO6, hb6, hoo6⟩
      obtain ⟨a6, c6, rfl⟩ := own_shape hO6
      have HO6 := hid hO6
      have HB6 := hid (HB5.out.trans hb6)
      have HZ6 := hid ((hoo6.1 Z HZW.out (fun e => HZL.out Z e rfl)).trans HZ5.out)
      have HZL6 : Hid (∀ q, (Value.slice a6 X1.length c6).ownBlock = some q → q ≠ Z) := hid (fun q h => by
        rcases hoo6.2 q h with h | h
        · exact HZL.out q h
        · have := HZW.out; omega)
      have y0 : w6.cell? ⟨Z, 0, none⟩ = some (.int .i64 CA) := cell_of_blk HZ6.out 0
      have y1 : w6.cell? ⟨Z, 1, none⟩ = some (.int .i64 CN) := cell_of_blk HZ6.out 1
      clear hO6 hb6 hoo6 HP1 HB5 HZ5 HZL zc0 z0 z1 z2 z3
      go_wp2_with fail
      refine (HP2.out w6 _ HO6.out HB6.out).mono ?_
      rintro e w7 ⟨v7, rfl, hO7, hb7, hoo7⟩
      obtain ⟨a7, c7, rfl⟩ := own_shape hO7
      have HO7 := hid hO7
      have HB7 := hid (HB6.out.trans hb7)
      have HZ7 := hid ((hoo7.1 Z (lt_of_heap HZ6.out) (fun e => HZL6.out Z e rfl)).trans HZ6.out)
      have HZL7 : Hid (∀ q, (Value.slice a7 X2.length c7).ownBlock = some q → q ≠ Z) := hid (fun q h => by
        rcases hoo7.2 q h with h | h
        · exact HZL6.out q h
        · have := lt_of_heap HZ6.out; omega)
      have x2 : w7.cell? ⟨Z, 2, none⟩ = some (.int .i64 CB) := cell_of_blk HZ7.out 2
      have x3 : w7.cell? ⟨Z, 3, none⟩ = some (.int .i64 CM2) := cell_of_blk HZ7.out 3
      clear hO7 hb7 hoo7 HP2 HO6 HB6 HZ6 HZL6 y0 y1
      go_wp2_with fail
      refine (HP3.out w7 _ HO7.out HB7.out).mono ?_
      rintro e w8 ⟨v8, rfl, hO8, hb8, hoo8⟩
      have HO8 := hid hO8
      have HB8 := hid (HB7.out.trans hb8)
      have HZ8 := hid ((hoo8.1 Z (lt_of_heap HZ7.out) (fun e => HZL7.out Z e rfl)).trans HZ7.out)
      have x0 : w8.cell? ⟨Z, 0, none⟩ = some (.int .i64 CA) := cell_of_blk HZ8.out 0
      have x1 : w8.cell? ⟨Z, 1, none⟩ = some (.int .i64 CN) := cell_of_blk HZ8.out 1
      clear hO8 hb8 hoo8 HP3 HO7 HB7 HZ7 x2 x3 HZ8
      go_wp2_with fail
      go_roundw
      case rel => exact ⟨k + 1, CE, CF, X3, by omega, by go_num, rfl, by have := HCE.out; omega, HO8, HB8, HX2, HI3, HEN3⟩
      case measure => simp [intOf]; omega
    · obtain rfl : k = n + 1 := by omega
      have hdr : g.drop (n + 1) = [] := List.drop_eq_nil_of_le (by have := HE1.out; omega)
      have HX2 : Hid (X ++ Hu.mk 1 (Hu.sl a P TO) = Hu.rowsG a b P0 g TO) := hid (by rw [HX.out, hdr]; rfl)
      have k2 : ¬ ((n : Int) + 1 < (n : Int) + 1) := by omega
      have j1 : (0 : Int) ≤ (P : Int) := by omega
      have j2 : (P : Int) ≤ (TO : Int) := by omega
      have j3 : (TO : Int) ≤ (ca : Int) := by omega
      obtain ⟨A1, hA1⟩ : ∃ A1, (if ca = P then aa else aa.map (·.add P)) = A1 := ⟨_, rfl⟩
      have hla1 : ((a.drop P).take (TO - P)).length ≤ 4194304 := by rw [List.length_take]; omega
      have HP1 := hid (rPut_any (kd := 1) HW.out HB.out.size (rdT_sliced ((HA.out.below HB3.out).keep HAU.out HB.out) (x := P) (y := TO) hPT (by omega)) (under_sliced HA.out HAU.out (by omega)) (by omega))
      rw [hA1] at HP1
      simp only [← Hu.sl_nat] at HP1
      rw [HX2.out] at HP1
      obtain ⟨RW, hRW⟩ : ∃ RW, RW = Hu.rowsG a b P0 g TO := ⟨_, rfl⟩
      have hrl : RW.length < 5864062014800 := by have := HLN.out; rw [← hRW] at this; omega
      rw [← hRW] at HP1
      have HOF : Hid (Hu.ofG ctx a b g = Hu.hunkAt P0 Q0 RW) := hid (by unfold Hu.ofG; rw [HFG.out, HFH.out, HTG.out, ← hRW])
      have HFL : Hid (R < w3.heap.size) := hid (lt_of_heap HR3.out)
      clear hdr HX HI HEN hXl hla1 hRW
      go_wp2_with fail
      refine HP1.out.mono ?_
      rintro e w6 ⟨v6, rfl, hO6, hb6, _⟩
      obtain ⟨a6, c6, rfl⟩ := own_shape hO6
      have HO6 := hid hO6
      have HB6 := hid (HB.out.trans hb6)
      have HR6 := hid ((HB6.out.block R HFL.out).trans HR3.out)
      have HK6 := hid (rCounts_any (own_rd HO6.out) hrl)
      obtain ⟨ON, hON⟩ : ∃ ON : Nat, ON = (Hu.olds RW).length := ⟨_, rfl⟩
      obtain ⟨FN, hFN⟩ : ∃ FN : Nat, FN = (Hu.fres RW).length := ⟨_, rfl⟩
      obtain ⟨TX, hTX⟩ : ∃ TX, TX = Hu.told P0 ON := ⟨_, rfl⟩
      obtain ⟨TY, hTY⟩ : ∃ TY, TY = Hu.told Q0 FN := ⟨_, rfl⟩
      rw [← hON, ← hFN] at HK6
      have HHV : Hid (∀ u, HkV (Hu.ofG ctx a b g) u = .agg #[.int .i64 TX, .int .i64 (ON : Int), .int .i64 TY, .int .i64 (FN : Int), .string ⟨#[]⟩, u]) := hid (fun u => by rw [HOF.out, hTX, hTY, hON, hFN]; rfl)
      have HRW : Hid ((Hu.ofG ctx a b g).rows = RW) := hid (by rw [HOF.out]; rfl)
      have HS1 := hid (fun w9 => rStated_any P0 ON w9 (by omega) (by omega))
      have HS2 := hid (fun w9 => rStated_any Q0 FN w9 (by omega) (by omega))
      rw [← hTX] at HS1
      rw [← hTY] at HS2
      clear hO6 hb6 HP1 HW hTX hTY hON hFN
      go_wp2_with fail
      refine HK6.out.mono ?_
      rintro e w7 ⟨rfl, hb7⟩
      have HO7 := hid (own_stays HO6.out hb7)
      have HB7 := hid (HB6.out.trans (hb7.mono HB6.out.size))
      have HR7 := hid ((hb7.block R (lt_of_heap HR6.out)).trans HR6.out)
      have HBW7 := hid (HB3.out.trans (HB7.out.mono HB3.out.size))
      obtain ⟨bz, oz, ez, hbz, z0, _, z2, _⟩ := rdC_at HV.out HC.out
      cases ez
      simp only [Nat.zero_mul, Nat.add_zero] at z0 z2
      replace z0 := (HBW7.out.cell (p := ⟨bg, _, none⟩) hbz).trans z0
      replace z2 := (HBW7.out.cell (p := ⟨bg, _, none⟩) hbz).trans z2
      clear hb7 HK6 HO6 HB6 HR6
      go_wp2_with fail
      go_quiet (fail)
      have HN8 := hid (below_drewN (Below.refl w7.heap.size w7) nq)
      have HO8 := hid (own_stays HO7.out HN8.out)
      have HBW8 := hid (HBW7.out.trans (HN8.out.mono HBW7.out.size))
      have HR8 := hid ((HN8.out.block R (lt_of_heap HR7.out)).trans HR7.out)
      clear HO7 HBW7 HR7 HB7 z0 z2
      generalize w7.drewN nq = w8 at HO8 HBW8 HR8 ⊢
      clear HN8
      have z0 : w8.cell? ⟨R, 0, none⟩ = some (.int .i64 0) := cell_of_blk HR8.out 0
      have z1 : w8.cell? ⟨R, 1, none⟩ = some (.int .i64 0) := cell_of_blk HR8.out 1
      have z2 : w8.cell? ⟨R, 2, none⟩ = some (.int .i64 0) := cell_of_blk HR8.out 2
      have z3 : w8.cell? ⟨R, 3, none⟩ = some (.int .i64 0) := cell_of_blk HR8.out 3
      have z4 : w8.cell? ⟨R, 4, none⟩ = some (.string ⟨#[]⟩) := cell_of_blk HR8.out 4
      have z5 : w8.cell? ⟨R, 5, none⟩ = some (.slice none 0 0) := cell_of_blk HR8.out 5
      have zf : ∀ j, w8.frozen? ⟨R, j, none⟩ = false := fun j => frozen_of_blk HR8.out j
      have HWR : Hid (w.heap.size ≤ R) := hid (by rw [HR.out]; exact Nat.le_refl _)
      have hk6 := set_heap _ R 5 _ _ (.slice a6 RW.length c6) (set_heap _ R 4 _ _ (.string ⟨#[]⟩) (set_heap _ R 3 _ _ (.int .i64 (FN : Int)) (set_heap _ R 2 _ _ (.int .i64 TY) (set_heap _ R 1 _ _ (.int .i64 (ON : Int)) (set_heap _ R 0 _ _ (.int .i64 TX) HR8.out)))))
      have HB9 := hid (below_set (k := 5) (u := .slice a6 RW.length c6) (below_set (k := 4) (u := .string ⟨#[]⟩) (below_set (k := 3) (u := .int .i64 (FN : Int)) (below_set (k := 2) (u := .int .i64 TY) (below_set (k := 1) (u := .int .i64 (ON : Int)) (below_set (k := 0) (u := .int .i64 TX) HBW8.out HWR.out) HWR.out) HWR.out) HWR.out) HWR.out) HWR.out)
      have HO9 : Hid (OwnW ((((((w8.setCell ⟨R, 0, none⟩ (.int .i64 TX)).setCell ⟨R, 1, none⟩ (.int .i64 (ON : Int))).setCell ⟨R, 2, none⟩ (.int .i64 TY)).setCell ⟨R, 3, none⟩ (.int .i64 (FN : Int))).setCell ⟨R, 4, none⟩ (.string ⟨#[]⟩)).setCell ⟨R, 5, none⟩ (.slice a6 RW.length c6)) w3.heap.size (.slice a6 RW.length c6) RW) := hid (own_far HO8.out (fun q hq => by
        have hne : q ≠ R := by have := own_ge HO8.out q hq; have := HFL.out; omega
        exact (set_other _ hne).trans ((set_other _ hne).trans ((set_other _ hne).trans ((set_other _ hne).trans ((set_other _ hne).trans (set_other _ hne)))))))
      go_wp2_with fail
      refine (HS1.out w8).mono ?_
      rintro e w9 ⟨rfl, h9⟩
      rw [h9]
      clear h9
      go_wp2_with fail
      refine (HS2.out _).mono ?_
      rintro e w9 ⟨rfl, h9⟩
      rw [h9]
      clear h9
      go_wp2_with fail
      generalize ((((((w8.setCell ⟨R, 0, none⟩ (.int .i64 TX)).setCell ⟨R, 1, none⟩ (.int .i64 (ON : Int))).setCell ⟨R, 2, none⟩ (.int .i64 TY)).setCell ⟨R, 3, none⟩ (.int .i64 (FN : Int))).setCell ⟨R, 4, none⟩ (.string ⟨#[]⟩)).setCell ⟨R, 5, none⟩ (.slice a6 RW.length c6)) = w9 at hk6 HB9 HO9 ⊢
      have y0 : w9.cell? ⟨R, 0, none⟩ = some (.int .i64 TX) := cell_of_blk hk6 0
      have y1 : w9.cell? ⟨R, 1, none⟩ = some (.int .i64 (ON : Int)) := cell_of_blk hk6 1
      have y2 : w9.cell? ⟨R, 2, none⟩ = some (.int .i64 TY) := cell_of_blk hk6 2
      have y3 : w9.cell? ⟨R, 3, none⟩ = some (.int .i64 (FN : Int)) := cell_of_blk hk6 3
      have y4 : w9.cell? ⟨R, 4, none⟩ = some (.string ⟨#[]⟩) := cell_of_blk hk6 4
      have y5 : w9.cell? ⟨R, 5, none⟩ = some (.slice a6 RW.length c6) := cell_of_blk hk6 5
      exact bodyPost_ret (v := .agg #[.int .i64 TX, .int .i64 (ON : Int), .int .i64 TY, .int .i64 (FN : Int), .string ⟨#[]⟩, .slice a6 RW.length c6]) (by simp [results, Tryz.results21, go_sem, y0, y1, y2, y3, y4, y5]) rfl ⟨_, by rw [HHV.out], by rw [HRW.out]; exact own_mono HO9.out HB3.out.size, HB9.out⟩
end Go.Proofs.YthnibchlgcgalaaGreatDoor
/-
  The document's Build: which of its ways, the pairs that stay.
-/
namespace Go.Proofs.YthnibchlgcgalaaGreatDoor
open Go.RowKit
open Hu (Rw Hk)
open Ed (Ch Pr)

theorem rLinesValid_any {w : World} {v : Value} {l : List ByteArray} (hv : RdT w v l) (hl : l.length ≤ 140737488355328) (hs : ∀ x ∈ l, x.size ≤ maxLen) :
    Calls Tryz.prog 17 #[v] w fun e w' => e = .returned (.bool (Hu.valS l)) ∧ w' = w := by
  rcases hv with ⟨h0, a, c, rfl⟩ | ⟨b, o, c, rfl, _, _, hX⟩
  · have e : l = [] := List.length_eq_zero_iff.1 h0
    subst e
    exact Cx.refValid_none a c w
  · exact Cx.refValid_any b o c l w (fun j x hj => hX j _ (stC_get hj)) hl hs
theorem getD_mem {l : List ByteArray} {k : Nat} (h : k < l.length) : ∃ x, l[k]? = some x ∧ l.getD k .empty = x ∧ x ∈ l := by
  refine ⟨l[k], List.getElem?_eq_getElem h, ?_, List.getElem_mem h⟩
  rw [List.getD_eq_getElem?_getD, List.getElem?_eq_getElem h]
  rfl
theorem all_take {P : List Pr} {f : Pr → Bool} {k : Nat} {p : Pr} (h : P[k]? = some p) : (P.take (k + 1)).all f = ((P.take k).all f && f p) := by
  rw [List.take_add_one, h]
  simp
/-- the groups one by one, as the document goes -/
structure GrI2 (ctx : Int) (a b : List ByteArray) (t : List Ch) (F I : Nat) (X : List Hk) (x y : Int) : Prop where
  bld : Hu.bld ctx a b t = X ++ Hu.bld ctx a b (t.drop F)
  ahead : Hu.Ahead ctx (t.drop F) x y a.length b.length
  le : F < t.length → I ≤ F + Hu.glen ctx (t.drop F)
  xl : X.length ≤ F
theorem drop_get {t : List Ch} {F I : Nat} (h : F ≤ I) : (t.drop F)[I - F]? = t[I]? := by
  rw [List.getElem?_drop]
  congr 1
  omega
theorem GrI2.more {ctx : Int} {a b : List ByteArray} {t : List Ch} {F I : Nat} {X : List Hk} {x y : Int} (h : GrI2 ctx a b t F I X x y) (hF : F < I) {c d : Ch} (hc : t[I - 1]? = some c) (hd : t[I]? = some d) (hg : d.a - (c.a + c.n) ≤ 2 * ctx) : GrI2 ctx a b t F (I + 1) X x y := by
  refine ⟨h.bld, h.ahead, fun hl => ?_, h.xl⟩
  have h1 := h.le hl
  have h2 := Hu.glen_more ctx (t.drop F) (I - F) c d (by omega) (by omega) (by rw [show I - F - 1 = (I - 1) - F by omega, drop_get (by omega)]; exact hc) (by rw [drop_get (by omega)]; exact hd) (by omega)
  omega
theorem GrI2.fin {ctx : Int} {a b : List ByteArray} {t : List Ch} {F I : Nat} {X : List Hk} {x y : Int} (h : GrI2 ctx a b t F I X x y) (hF : F < I) (hI : I ≤ t.length) (hc0 : 0 ≤ ctx) (hq : I = t.length ∨ ∃ c d, t[I - 1]? = some c ∧ t[I]? = some d ∧ ¬ d.a - (c.a + c.n) ≤ 2 * ctx) :
    (t.drop F).take (I - F) ≠ [] ∧ Hu.inc ((t.drop F).take (I - F)) (Hu.fromG ctx ((t.drop F).take (I - F))) (Hu.fromH ctx ((t.drop F).take (I - F))) a.length b.length ∧ 0 ≤ Hu.fromG ctx ((t.drop F).take (I - F)) ∧ 0 ≤ Hu.fromH ctx ((t.drop F).take (I - F)) ∧
    ∃ x' y', GrI2 ctx a b t I (I + 1) (X ++ [Hu.ofG ctx a b ((t.drop F).take (I - F))]) x' y' := by
  have hl : F < t.length := by omega
  have h1 := h.le hl
  have hne : t.drop F ≠ [] := by
    intro e
    have := congrArg List.length e
    rw [List.length_drop] at this
    simp at this
    omega
  have he : Hu.glen ctx (t.drop F) = I - F := Hu.glen_end ctx (t.drop F) (I - F) (by omega) (by omega) (by
    rcases hq with hq | ⟨c, d, q1, q2, q3⟩
    · exact .inl (by rw [List.length_drop]; omega)
    · exact .inr ⟨c, d, by rw [show I - F - 1 = (I - 1) - F by omega, drop_get (by omega)]; exact q1, by rw [drop_get (by omega)]; exact q2, by omega⟩)
  obtain ⟨g1, g2, g3, g4, x', y', g5⟩ := h.ahead.group hne hc0
  have hb := Hu.bld_step (ctx := ctx) (a := a) (b := b) hne
  rw [he] at g1 g2 g3 g4 g5 hb
  have e2 : (t.drop F).drop (I - F) = t.drop I := by rw [List.drop_drop]; congr 1; omega
  rw [e2] at g5 hb
  refine ⟨g1, g2, g3, g4, x', y', ⟨by rw [h.bld, hb]; simp, g5, fun hl2 => ?_, by rw [List.length_append, List.length_singleton]; have := h.xl; omega⟩⟩
  have := Hu.glen_pos ctx (t.drop I) (by
    intro e
    have := congrArg List.length e
    rw [List.length_drop] at this
    simp at this
    omega)
  omega
theorem GrI2.done {ctx : Int} {a b : List ByteArray} {t : List Ch} {F : Nat} {X : List Hk} {x y : Int} (h : GrI2 ctx a b t F (t.length + 1) X x y) (hF : F ≤ t.length) : Hu.bld ctx a b t = X := by
  have hFe : F = t.length := by
    rcases Nat.lt_or_ge F t.length with q | q
    · have := h.le q
      have := Hu.glen_le ctx (t.drop F)
      rw [List.length_drop] at this
      omega
    · omega
  rw [h.bld, hFe, List.drop_length]
  simp [Hu.bld, Hu.grp]
set_option maxHeartbeats 2500000 in
set_option maxRecDepth 100000 in
theorem rBuild_any {w : World} {v va vb : Value} {s : List Ch} {a b : List ByteArray} {ctx : Int} (hv : RdC w v s) (hwf : ∀ c ∈ s, WfC c) (hl : s.length ≤ 10000000000000) (ha : RdT w va a) (hb : RdT w vb b) (hla : a.length ≤ 140737488355328) (hlb : b.length ≤ 140737488355328) (hsa : ∀ x ∈ a, x.size ≤ maxLen) (hsb : ∀ x ∈ b, x.size ≤ maxLen) :
    Calls Tryz.prog 9 #[v, va, vb, .int .i64 ctx] w fun e w' => ∃ v', e = .returned (.tuple #[v', .int .i64 (bldN s a b ctx)]) ∧ OwnH w' w.heap.size v' (bldA s a b ctx) ∧ Below w.heap.size w w' := by
  have HLA := hid (fun w1 (h : Below w.heap.size w w1) => rLinesValid_any (ha.below h) hla hsa)
  have HLB := hid (fun w1 (h : Below w.heap.size w w1) => rLinesValid_any (hb.below h) hlb hsb)
  have HNO := hid (fun w1 (h : Below w.heap.size w w1) => refNormal_all (n := a.length) (m := b.length) (hv.below h) hwf hl)
  have HA := hid ha
  have HBb := hid hb
  have HSA := hid hsa
  have HSB := hid hsb
  obtain ⟨av, cv, rfl⟩ := hv.shape
  obtain ⟨aa, ca, rfl⟩ := ha.shape
  obtain ⟨ab, cb, rfl⟩ := hb.shape
  have HNN : Hid (bldN s a b ctx = if ctxOk ctx then (if Hu.valS a && Hu.valS b then (if Ed.validN s a.length b.length = 0 then (if Hu.endsP (Ed.normal s a.length b.length) a b then 0 else 61) else Ed.validN s a.length b.length) else 3) else 1) := hid rfl
  have HN0 : Hid (bldN s a b ctx ≠ 0 → bldA s a b ctx = []) := hid bldA_no
  have HN1 : Hid (bldN s a b ctx = 0 → bldA s a b ctx = Hu.bld ctx a b (Ed.normal s a.length b.length)) := hid (fun h => if_pos h)
  clear hv ha hb hsa hsb hwf hl
  have RET : Hid (∀ k : Nat, k ≠ 0 → bldN s a b ctx = k → ∀ w1, Below w.heap.size w w1 → ∃ v', Ending.returned (.tuple #[.slice none 0 0, .int .i64 (k : Int)]) = Ending.returned (.tuple #[v', .int .i64 (bldN s a b ctx)]) ∧ OwnH w1 w.heap.size v' (bldA s a b ctx) ∧ Below w.heap.size w w1) := hid (fun k hk he w1 hb => by
    refine ⟨_, by rw [he], ?_, hb⟩
    rw [HN0.out (by omega)]
    exact OwnH.nil _ _)
  by_cases hc : 0 ≤ ctx ∧ ctx ≤ 2147483647
  · obtain ⟨hc0, hc1⟩ := hc
    have hcc : ctxOk ctx = true := by unfold ctxOk; rw [decide_eq_true hc0, decide_eq_true hc1]; rfl
    cases hva : Hu.valS a with
    | false =>
      have HE : Hid (bldN s a b ctx = 3) := hid (by rw [HNN.out, hcc, hva]; rfl)
      rw [hva] at HLA
      clear hcc hva
      go_enter Tryz.func9, Tryz.ntmps9
      go_wp2_with fail
      refine (HLA.out _ (Below.refl _ _)).mono ?_
      rintro e w2 ⟨rfl, h2⟩
      rw [h2]
      clear h2
      go_wp2_with fail
      go_ret2
      exact RET.out 3 (by omega) HE.out _ (Below.refl _ _)
    | true =>
      rw [hva] at HLA
      cases hvb : Hu.valS b with
      | false =>
        have HE : Hid (bldN s a b ctx = 3) := hid (by rw [HNN.out, hcc, hva, hvb]; rfl)
        rw [hvb] at HLB
        clear hcc hva hvb
        go_enter Tryz.func9, Tryz.ntmps9
        go_wp2_with fail
        refine (HLA.out _ (Below.refl _ _)).mono ?_
        rintro e w2 ⟨rfl, h2⟩
        rw [h2]
        clear h2
        go_wp2_with fail
        refine (HLB.out _ (Below.refl _ _)).mono ?_
        rintro e w2 ⟨rfl, h2⟩
        rw [h2]
        clear h2
        go_wp2_with fail
        go_ret2
        exact RET.out 3 (by omega) HE.out _ (Below.refl _ _)
      | true =>
        rw [hvb] at HLB
        by_cases hk : Ed.validN s a.length b.length = 0
        · have hV0 := Ed.validN_zero.1 hk
          obtain ⟨hV, _⟩ := Ed.normal_Val hV0
          have hne : nrmA s a.length b.length = Ed.normal s a.length b.length := by unfold nrmA; rw [if_pos hk]
          rw [hk, hne] at HNO
          have HE0 : Hid (bldN s a b ctx = if Hu.endsP (Ed.normal s a.length b.length) a b then 0 else 61) := hid (by rw [HNN.out, hcc, hva, hvb, if_pos rfl, if_pos (show (true && true) = true from rfl), if_pos hk])
          have hn := Ed.cnt_iff.1 hV.1
          have hm := Ed.cnt_iff.1 hV.2.1
          have hla' : a.length ≤ 4194304 := by omega
          have hlb' : b.length ≤ 4194304 := by omega
          have htl := Val_len hV
          have HEA := hid (Hu.endsP_all ⟨s, hV0, rfl⟩ hva hvb)
          have HIN := hid (inC_of hV)
          have HAH := hid (Hu.Ahead.start (ctx := ctx) hV)
          have HWT : Hid (∀ c ∈ Ed.normal s a.length b.length, WfC c) := hid (fun c hc => by have := HIN.out c hc; unfold WfC I64; omega)
          have HPA := hid (fun w1 v1 (hr : RdC w1 v1 (Ed.normal s a.length b.length)) => refPairs_all (n := a.length) (m := b.length) hr HWT.out (by omega))
          have hvt : Ed.validN (Ed.normal s a.length b.length) a.length b.length = 0 := Ed.validN_zero.2 hV
          have hpe : prsA (Ed.normal s a.length b.length) a.length b.length = Ed.prs (Ed.normal s a.length b.length) a.length 0 0 := by unfold prsA; rw [if_pos hvt]
          rw [hpe, hvt] at HPA
          have HPI : Hid (∀ p ∈ Ed.prs (Ed.normal s a.length b.length) a.length 0 0, 0 ≤ p.1 ∧ p.1 < a.length ∧ 0 ≤ p.2 ∧ p.2 < b.length) := hid (fun p hp => by
            have := (Ed.rise_iff.1 hV.rise).2 p hp
            unfold Ed.inB at this
            omega)
          have hpl := rise_len hV.rise (by omega)
          generalize Ed.prs (Ed.normal s a.length b.length) a.length 0 0 = PS at HPA HEA HPI hpl
          generalize Ed.normal s a.length b.length = t at HNO HE0 HEA HIN HAH HN1 htl HPA HWT
          clear hV0 hV hne hn hm hla hlb hk HNN hcc hva hvb hvt hpe
          have i9 : IntKind.i64.wrap (2 * ctx) = 2 * ctx := wrapOk (by omega) (by omega)
          go_enter Tryz.func9, Tryz.ntmps9
          go_wp2_with fail
          refine (HLA.out _ (Below.refl _ _)).mono ?_
          rintro e w2 ⟨rfl, h2⟩
          rw [h2]
          clear h2
          go_wp2_with fail
          refine (HLB.out _ (Below.refl _ _)).mono ?_
          rintro e w2 ⟨rfl, h2⟩
          rw [h2]
          clear h2
          go_wp2_with fail
          refine (HNO.out _ (Below.refl _ _)).mono ?_
          rintro e w3 ⟨v3, rfl, hO3, hb3⟩
          obtain ⟨a3, c3, rfl⟩ := own_shape hO3
          have HT3 := hid (own_rd hO3)
          have HB3 := hid hb3
          clear hO3 hb3 HLA HLB HNO
          go_wp2_with fail
          refine (HPA.out _ _ HT3.out).mono ?_
          rintro e w4 ⟨v4, rfl, hO4, hb4⟩
          obtain ⟨a4, c4, rfl⟩ := own_shape hO4
          have HP4 := hid (own_rd hO4)
          have HB4 := hid (HB3.out.trans (hb4.mono HB3.out.size))
          have HT4 := hid (HT3.out.below hb4)
          clear hO4 hb4 HPA HB3 HT3
          obtain ⟨PN, hPN⟩ : ∃ PN, PN = PS.length := ⟨_, rfl⟩
          have HPN := hid hPN
          have HP5 := HP4
          rw [← hPN] at HP4 hpl ⊢
          clear hPN
          go_wp2_with fail
          go_loopw [14] (fun ii wr => ∃ (k : Nat), k ≤ PN ∧ ii = .int .i64 k ∧ Hid ((PS.take k).all (Hu.eqW a b) = true) ∧ Hid (Below w4.heap.size w4 wr)) (fun ii _ => PN - (intOf ii).toNat)
          case atStart => exact ⟨0, Nat.zero_le _, rfl, hid rfl, Below.refl _ _⟩
          case round =>
            obtain ⟨k, hk, rfl, HK, HB⟩ := hrel
            by_cases hlt : k < PN
            · obtain ⟨p, hp⟩ : ∃ p, PS[k]? = some p := ⟨_, List.getElem?_eq_getElem (by have := HPN.out; omega)⟩
              obtain ⟨p1, p2, p3, p4⟩ := HPI.out p (List.mem_of_getElem? hp)
              obtain ⟨b1, o1, e1, hb1, d0, d1⟩ := rdP_at HP5.out hp
              subst e1
              replace d0 := (HB.out.cell (p := ⟨b1, _, none⟩) hb1).trans d0
              replace d1 := (HB.out.cell (p := ⟨b1, _, none⟩) hb1).trans d1
              obtain ⟨pa, pb⟩ := p
              dsimp only at p1 p2 p3 p4 d0 d1
              obtain ⟨PA, rfl⟩ := Int.eq_ofNat_of_zero_le p1
              obtain ⟨PB, rfl⟩ := Int.eq_ofNat_of_zero_le p3
              obtain ⟨x, hx, gx, mx⟩ := getD_mem (l := a) (k := PA) (by omega)
              obtain ⟨y, hy, gy, my⟩ := getD_mem (l := b) (k := PB) (by omega)
              have HBW := hid (HB4.out.trans (HB.out.mono HB4.out.size))
              obtain ⟨ba, oa, ea, _, f0⟩ := rdT_at (HA.out.below HBW.out) hx
              obtain ⟨bb, ob, eb, _, f1⟩ := rdT_at (HBb.out.below HBW.out) hy
              subst ea eb
              have HQ : Hid (Hu.eqW a b ((PA : Int), (PB : Int)) = (Hu.whT x == Hu.whT y)) := hid (by
                show (Hu.whT (a.getD (Int.toNat PA) .empty) == Hu.whT (b.getD (Int.toNat PB) .empty)) = _
                rw [Int.toNat_natCast, Int.toNat_natCast, gx, gy])
              have HT1 := hid (all_take (f := Hu.eqW a b) hp)
              have HC1 := hid (fun w1 => rWhole_any2 x w1 (HSA.out x mx))
              have HC2 := hid (fun w1 => rWhole_any2 y w1 (HSB.out y my))
              have HPM := hid (List.mem_of_getElem? hp)
              have i1 : (0 : Int) ≤ (k : Int) := by omega
              have i2 : (k : Int) < (PN : Int) := by omega
              clear hx hy gx gy mx my hp hb1
              cases hwx : Hu.whT x <;> cases hwy : Hu.whT y <;> rw [hwx] at HC1 HQ <;> rw [hwy] at HC2 HQ <;> clear hwx hwy
              · go_wp2_with fail
                go_quiet ((go_at_call 20; first | with_reducible exact Calls.quiet_of_same (HC1.out _) | with_reducible exact Calls.quiet_of_same (HC2.out _)))
                go_wp2_with fail
                go_roundw
                case rel => exact ⟨k + 1, by omega, by go_num, hid (by rw [HT1.out, HK.out, HQ.out]; rfl), hid (below_drewN HB.out _)⟩
                case measure => simp [intOf]; omega
              · go_wp2_with fail
                go_quiet ((go_at_call 20; first | with_reducible exact Calls.quiet_of_same (HC1.out _) | with_reducible exact Calls.quiet_of_same (HC2.out _)))
                go_wp2_with fail
                have HEF : Hid (bldN s a b ctx = 61) := hid (by
                  have : PS.all (Hu.eqW a b) = false := by
                    cases hq : PS.all (Hu.eqW a b) with
                    | false => rfl
                    | true =>
                      have := List.all_eq_true.1 hq _ HPM.out
                      rw [HQ.out] at this
                      cases this
                  rw [HE0.out, HEA.out, this]
                  rfl)
                go_ret2
                exact RET.out 61 (by omega) HEF.out _ (below_drewN HBW.out _)
              · go_wp2_with fail
                go_quiet ((go_at_call 20; first | with_reducible exact Calls.quiet_of_same (HC1.out _) | with_reducible exact Calls.quiet_of_same (HC2.out _)))
                go_wp2_with fail
                have HEF : Hid (bldN s a b ctx = 61) := hid (by
                  have : PS.all (Hu.eqW a b) = false := by
                    cases hq : PS.all (Hu.eqW a b) with
                    | false => rfl
                    | true =>
                      have := List.all_eq_true.1 hq _ HPM.out
                      rw [HQ.out] at this
                      cases this
                  rw [HE0.out, HEA.out, this]
                  rfl)
                go_ret2
                exact RET.out 61 (by omega) HEF.out _ (below_drewN HBW.out _)
              · go_wp2_with fail
                go_quiet ((go_at_call 20; first | with_reducible exact Calls.quiet_of_same (HC1.out _) | with_reducible exact Calls.quiet_of_same (HC2.out _)))
                go_wp2_with fail
                go_roundw
                case rel => exact ⟨k + 1, by omega, by go_num, hid (by rw [HT1.out, HK.out, HQ.out]; rfl), hid (below_drewN HB.out _)⟩
                case measure => simp [intOf]; omega
            · obtain rfl : k = PN := by omega
              have HAll : Hid (PS.all (Hu.eqW a b) = true) := hid (by have := HK.out; rwa [List.take_of_length_le (by have := HPN.out; omega)] at this)
              have HE : Hid (bldN s a b ctx = 0) := hid (by rw [HE0.out, HEA.out, HAll.out]; rfl)
              have HBA := hid (HN1.out HE.out)
              have HB5 := hid (HB4.out.trans (HB.out.mono HB4.out.size))
              have HT5 := hid (HT4.out.below HB.out)
              have HU5 := hid HT5.out.under
              have HG0 : Hid (GrI2 ctx a b t 0 1 [] 0 0) := hid ⟨rfl, HAH.out, fun h => by
                have := Hu.glen_pos ctx (t.drop 0) (by intro e; rw [List.drop_zero] at e; rw [e] at h; simp at h)
                omega, by simp⟩
              clear RET HE0 HN0 HN1 HEA HK HAll HP4 HP5 HPI HT4 hpl HAH HB
              obtain ⟨w5, hw5⟩ : ∃ w5, w5 = wr := ⟨_, rfl⟩
              subst hw5
              obtain ⟨TL, hTL⟩ : ∃ TL, TL = t.length := ⟨_, rfl⟩
              have HTL := hid hTL
              have HT6 := HT5
              rw [← hTL] at HT5 htl ⊢
              clear hTL
              go_wp2_with fail
              go_loopw [15, 16, 17] (fun vo ff ii wr => ∃ (F I : Nat) (X : List Hk) (x y : Int), F < I ∧ I ≤ TL + 1 ∧ F ≤ TL ∧ ff = .int .i64 F ∧ ii = .int .i64 I ∧ Hid (GrI2 ctx a b t F I X x y) ∧ Hid (OwnH wr w5.heap.size vo X) ∧ Hid (Below w5.heap.size w5 wr)) (fun _ _ ii _ => TL + 1 - (intOf ii).toNat)
              case atStart => exact ⟨0, 1, [], 0, 0, by omega, by omega, by omega, rfl, rfl, HG0, OwnH.nil _ _, Below.refl _ _⟩
              case round =>
                obtain ⟨F, I, X, x, y, hFI, hI, hF, rfl, rfl, HG, HO, HB⟩ := hrel
                obtain ⟨ao, co, rfl⟩ := HO.out.shape
                by_cases hlt : I ≤ TL
                · have i2 : (I : Int) ≤ (TL : Int) := by omega
                  have hXl : X.length < 1954687338260 := by have := HG.out.xl; omega
                  rcases Nat.eq_or_lt_of_le hlt with hEq | hLt
                  · have QQ : I = t.length ∨ ∃ c d, t[I - 1]? = some c ∧ t[I]? = some d ∧ ¬ d.a - (c.a + c.n) ≤ 2 * ctx := .inl (by have := HTL.out; omega)
                    have HSL := hid (rdC_sliced (HT6.out.below HB.out) (x := F) (y := I) (by omega) (by have := HTL.out; omega))
                    rw [if_neg (show ¬ c3 = F by have := rd_cap HT5.out; omega)] at HSL
                    obtain ⟨A', hA'⟩ : ∃ A', Option.map (fun x : Addr => x.add (F * 4)) a3 = A' := ⟨_, rfl⟩
                    rw [hA'] at HSL
                    obtain ⟨g1, g2, g3, g4, x', y', g5⟩ := HG.out.fin hFI (by have := HTL.out; omega) hc0 QQ
                    have HBW := hid (HB5.out.trans (HB.out.mono HB5.out.size))
                    have HOG := hid (fun w6 (hb6 : Below wr.heap.size wr w6) => rOne_any (ctx := ctx) (HSL.out.below hb6) ((HA.out.below HBW.out).below hb6) ((HBb.out.below HBW.out).below hb6) g1 g2 g3 g4 hc0 hc1 hla' hlb' (by rw [List.length_take]; omega))
                    have HG2 := hid g5
                    generalize Hu.ofG ctx a b ((t.drop F).take (I - F)) = K at HOG HG2
                    have hcap := rd_cap HT5.out
                    have u1 : (0 : Int) ≤ (F : Int) := by omega
                    have u2 : (F : Int) ≤ (I : Int) := by omega
                    have u3 : (I : Int) ≤ (c3 : Int) := by omega
                    have u4 : (F : Int) ≤ (c3 : Int) := by omega
                    clear g1 g2 g3 g4 g5 HSL HG
                    have z1 : ((I : Int) == (TL : Int)) = true := by rw [hEq]; exact zeq rfl
                    clear hEq QQ
                    go_wp2_with fail
                    go_quiet (fail)
                    have HN7 := hid (below_drewN (Below.refl wr.heap.size wr) nq)
                    have HO7 := hid (HO.out.stays HN7.out)
                    have HB7 := hid (HB.out.trans (HN7.out.mono HB.out.size))
                    have HP7 := hid (HOG.out _ HN7.out)
                    generalize wr.drewN nq = w7 at HO7 HB7 HP7 ⊢
                    clear HN7 HOG HO HB
                    go_wp2_with fail
                    refine HP7.out.mono ?_
                    rintro e w6 ⟨v6, rfl, hO6, hb6⟩
                    obtain ⟨a6, c6, e6⟩ := own_shape hO6
                    subst e6
                    have HR6 := hid hO6
                    have HB6 := hid (HB7.out.trans (hb6.mono HB7.out.size))
                    have HO6 := hid (HO7.out.stays hb6)
                    have HS6 : Hid (w5.heap.size ≤ w7.heap.size) := hid HB7.out.size
                    clear hO6 hb6 HP7 HO7
                    obtain ⟨ka, kn, kb, km, kh, kr⟩ := K
                    unfold HkV
                    dsimp only at HR6 ⊢
                    have hbn := (Below.refl w6.heap.size w6).alloc (Nat.le_refl _) (.cells #[.int .i64 ka, .int .i64 kn, .int .i64 kb, .int .i64 km, .string kh, .slice a6 kr.length c6] 48)
                    have HO8 := hid (HO6.out.stays hbn)
                    have HR8 := hid (own_mono (own_stays HR6.out hbn) HS6.out)
                    have HB8 := hid (HB6.out.trans (hbn.mono HB6.out.size))
                    clear hbn
                    go_wp2_with (at_builtin; refine wpList_append_hk rfl _ _ rfl w5.heap.size _ X rfl HO8.out w6.heap.size ⟨ka, kn, kb, km, kh, kr⟩ (.slice a6 kr.length c6) rfl (heap_alloc_new w6 _) HR8.out hXl HB8.out.size ?_; intro v9 w9 hO9 hb9; have HO9 := hid hO9; have HB9 := hid (HB8.out.trans hb9); clear hO9 hb9)
                    go_roundw
                    case rel => exact ⟨I, I + 1, X ++ [⟨ka, kn, kb, km, kh, kr⟩], x', y', by omega, by omega, by omega, rfl, by go_num, HG2, HO9, HB9⟩
                    case measure => simp [intOf]; omega
                  · obtain ⟨c, hc⟩ : ∃ c, t[I - 1]? = some c := ⟨_, List.getElem?_eq_getElem (by have := HTL.out; omega)⟩
                    obtain ⟨d, hd⟩ : ∃ d, t[I]? = some d := ⟨_, List.getElem?_eq_getElem (by have := HTL.out; omega)⟩
                    obtain ⟨p1, p2, p3, _, _, _⟩ := HIN.out c (List.mem_of_getElem? hc)
                    obtain ⟨r1, r2, r3, _, _, _⟩ := HIN.out d (List.mem_of_getElem? hd)
                    obtain ⟨bq, oq, e9, _, c0', c1', _, _⟩ := rdC_at (HT6.out.below HB.out) hc
                    subst e9
                    obtain ⟨b2, o2, e, _, d0', _, _, _⟩ := rdC_at (HT6.out.below HB.out) hd
                    cases e
                    obtain ⟨J, hJ⟩ : ∃ J, J = I - 1 := ⟨_, rfl⟩
                    rw [← hJ] at c0' c1'
                    have i1 : IntKind.i64.wrap ((I : Int) - 1) = (J : Int) := (wrapOk (by omega) (by omega)).trans (by omega)
                    obtain ⟨CE, hCE⟩ : ∃ CE : Int, CE = c.a + c.n := ⟨_, rfl⟩
                    have i3 : IntKind.i64.wrap (c.a + c.n) = CE := (wrapOk (by omega) (by omega)).trans hCE.symm
                    obtain ⟨GA, hGA⟩ : ∃ GA : Int, GA = d.a - CE := ⟨_, rfl⟩
                    have i4 : IntKind.i64.wrap (d.a - CE) = GA := (wrapOk (by omega) (by omega)).trans hGA.symm
                    have j1 : (0 : Int) ≤ (I : Int) := by omega
                    have j2 : (I : Int) < (TL : Int) := by omega
                    have j3 : (0 : Int) ≤ (J : Int) := by omega
                    have j4 : (J : Int) < (TL : Int) := by omega
                    have z1 : ((I : Int) == (TL : Int)) = false := ine (by omega)
                    by_cases hg : GA ≤ 2 * ctx
                    · have HG2 := hid (HG.out.more hFI hc hd (by omega))
                      have hg' : ¬ (2 * ctx < GA) := by omega
                      clear hc hd hJ hCE hGA HG
                      go_wp2_with fail
                      go_quiet (fail)
                      go_wp2_with fail
                      go_roundw
                      case rel => exact ⟨F, I + 1, X, x, y, by omega, by omega, by omega, rfl, by go_num, HG2, hid (HO.out.stays (below_drewN (Below.refl _ _) _)), hid (below_drewN HB.out _)⟩
                      case measure => simp [intOf]; omega
                    · have hg' : 2 * ctx < GA := by omega
                      have QQ : I = t.length ∨ ∃ c d, t[I - 1]? = some c ∧ t[I]? = some d ∧ ¬ d.a - (c.a + c.n) ≤ 2 * ctx := .inr ⟨c, d, hc, hd, by omega⟩
                      have HSL := hid (rdC_sliced (HT6.out.below HB.out) (x := F) (y := I) (by omega) (by have := HTL.out; omega))
                      rw [if_neg (show ¬ c3 = F by have := rd_cap HT5.out; omega), Option.map_some, Go.WideShapes.add_plain] at HSL
                      obtain ⟨g1, g2, g3, g4, x', y', g5⟩ := HG.out.fin hFI (by have := HTL.out; omega) hc0 QQ
                      have HBW := hid (HB5.out.trans (HB.out.mono HB5.out.size))
                      have HOG := hid (fun w6 (hb6 : Below wr.heap.size wr w6) => rOne_any (ctx := ctx) (HSL.out.below hb6) ((HA.out.below HBW.out).below hb6) ((HBb.out.below HBW.out).below hb6) g1 g2 g3 g4 hc0 hc1 hla' hlb' (by rw [List.length_take]; omega))
                      have HG2 := hid g5
                      generalize Hu.ofG ctx a b ((t.drop F).take (I - F)) = K at HOG HG2
                      have hcap := rd_cap HT5.out
                      have u1 : (0 : Int) ≤ (F : Int) := by omega
                      have u2 : (F : Int) ≤ (I : Int) := by omega
                      have u3 : (I : Int) ≤ (c3 : Int) := by omega
                      have u4 : (F : Int) ≤ (c3 : Int) := by omega
                      clear g1 g2 g3 g4 g5 HSL HG
                      clear QQ hc hd hJ hCE hGA
                      go_wp2_with fail
                      go_quiet (fail)
                      have HN7 := hid (below_drewN (Below.refl wr.heap.size wr) nq)
                      have HO7 := hid (HO.out.stays HN7.out)
                      have HB7 := hid (HB.out.trans (HN7.out.mono HB.out.size))
                      have HP7 := hid (HOG.out _ HN7.out)
                      generalize wr.drewN nq = w7 at HO7 HB7 HP7 ⊢
                      clear HN7 HOG HO HB
                      go_wp2_with fail
                      refine HP7.out.mono ?_
                      rintro e w6 ⟨v6, rfl, hO6, hb6⟩
                      obtain ⟨a6, c6, e6⟩ := own_shape hO6
                      subst e6
                      have HR6 := hid hO6
                      have HB6 := hid (HB7.out.trans (hb6.mono HB7.out.size))
                      have HO6 := hid (HO7.out.stays hb6)
                      have HS6 : Hid (w5.heap.size ≤ w7.heap.size) := hid HB7.out.size
                      clear hO6 hb6 HP7 HO7
                      obtain ⟨ka, kn, kb, km, kh, kr⟩ := K
                      unfold HkV
                      dsimp only at HR6 ⊢
                      have hbn := (Below.refl w6.heap.size w6).alloc (Nat.le_refl _) (.cells #[.int .i64 ka, .int .i64 kn, .int .i64 kb, .int .i64 km, .string kh, .slice a6 kr.length c6] 48)
                      have HO8 := hid (HO6.out.stays hbn)
                      have HR8 := hid (own_mono (own_stays HR6.out hbn) HS6.out)
                      have HB8 := hid (HB6.out.trans (hbn.mono HB6.out.size))
                      clear hbn
                      go_wp2_with (at_builtin; refine wpList_append_hk rfl _ _ rfl w5.heap.size _ X rfl HO8.out w6.heap.size ⟨ka, kn, kb, km, kh, kr⟩ (.slice a6 kr.length c6) rfl (heap_alloc_new w6 _) HR8.out hXl HB8.out.size ?_; intro v9 w9 hO9 hb9; have HO9 := hid hO9; have HB9 := hid (HB8.out.trans hb9); clear hO9 hb9)
                      go_roundw
                      case rel => exact ⟨I, I + 1, X ++ [⟨ka, kn, kb, km, kh, kr⟩], x', y', by omega, by omega, by omega, rfl, by go_num, HG2, HO9, HB9⟩
                      case measure => simp [intOf]; omega
                · obtain rfl : I = TL + 1 := by omega
                  have i2 : ¬ ((TL : Int) + 1 ≤ (TL : Int)) := by omega
                  have HF : Hid (OwnH wr w.heap.size (.slice ao X.length co) (bldA s a b ctx)) := hid (by
                    rw [HBA.out, GrI2.done (HTL.out ▸ HG.out) (by have := HTL.out; omega)]
                    exact HO.out.mono HB5.out.size)
                  have HBF := hid (HB5.out.trans (HB.out.mono HB5.out.size))
                  clear HO HG
                  push_cast
                  go_wp2_with fail
                  go_ret2
                  exact ⟨_, by rw [HE.out]; rfl, HF.out, HBF.out⟩
        · have HE : Hid (bldN s a b ctx = Ed.validN s a.length b.length) := hid (by rw [HNN.out, hcc, hva, hvb, if_pos rfl, if_pos (show (true && true) = true from rfl), if_neg hk])
          have HKN : Hid (Ed.validN s a.length b.length ≠ 0) := hid hk
          generalize Ed.validN s a.length b.length = K at HNO HE HKN
          have hz : ((K : Int) == 0) = false := ine (by have := HKN.out; omega)
          clear hk HNN hcc hva hvb
          go_enter Tryz.func9, Tryz.ntmps9
          go_wp2_with fail
          refine (HLA.out _ (Below.refl _ _)).mono ?_
          rintro e w2 ⟨rfl, h2⟩
          rw [h2]
          clear h2
          go_wp2_with fail
          refine (HLB.out _ (Below.refl _ _)).mono ?_
          rintro e w2 ⟨rfl, h2⟩
          rw [h2]
          clear h2
          go_wp2_with fail
          refine (HNO.out _ (Below.refl _ _)).mono ?_
          rintro e w3 ⟨v3, rfl, hO3, hb3⟩
          have HB3 := hid hb3
          clear hO3 hb3
          go_wp2_with fail
          go_ret2
          exact RET.out K HKN.out HE.out _ HB3.out
  · have HE : Hid (bldN s a b ctx = 1) := hid (by
      rw [HNN.out]
      have : ctxOk ctx = false := by
        unfold ctxOk
        rcases Int.lt_or_le ctx 0 with h | h
        · rw [decide_eq_false (by omega)]; rfl
        · rw [decide_eq_false (p := ctx ≤ 2147483647) (by omega)]; simp
      rw [this]
      rfl)
    by_cases h0 : ctx < 0
    · clear hc HNN
      go_enter Tryz.func9, Tryz.ntmps9
      go_wp2_with fail
      go_ret2
      exact RET.out 1 (by omega) HE.out _ (Below.refl _ _)
    · have h1 : 2147483647 < ctx := by omega
      clear hc HNN
      go_enter Tryz.func9, Tryz.ntmps9
      go_wp2_with fail
      go_ret2
      exact RET.out 1 (by omega) HE.out _ (Below.refl _ _)
end Go.Proofs.YthnibchlgcgalaaGreatDoor
