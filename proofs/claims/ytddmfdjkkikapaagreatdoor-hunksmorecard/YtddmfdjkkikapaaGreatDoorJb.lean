/-
  The walk of ofGroup.
-/
import Derived.Test.YtddmfdjkkikapaaGreatDoorGrJ9
namespace Go.Proofs.YtddmfdjkkikapaaGreatDoor
open Go.RowKit
open Hu (Rw Hk)
open Ed (Ch)

/-- where ofGroup keeps its first and last change, and what it answers -/
def GrI (w wc : World) (R F L : Nat) (c d : Ch) : Prop := wc.heap[F]? = some (.cells #[.int .i64 c.a, .int .i64 c.n, .int .i64 c.b, .int .i64 c.m] 42) ∧ wc.heap[L]? = some (.cells #[.int .i64 d.a, .int .i64 d.n, .int .i64 d.b, .int .i64 d.m] 42) ∧ wc.heap[R]? = some (.cells #[.int .i64 0, .int .i64 0, .int .i64 0, .int .i64 0, .string ⟨#[]⟩, .slice none 0 0] 37) ∧ F ≠ R ∧ L ≠ R ∧ F ≠ L ∧ Below w.heap.size w wc
theorem gr_one {w w1 : World} {R : Nat} {c d : Ch} (hb : Below w.heap.size w w1) (hR : R = w.heap.size) (hk : w1.heap[R]? = some (.cells #[.int .i64 0, .int .i64 0, .int .i64 0, .int .i64 0, .string ⟨#[]⟩, .slice none 0 0] 37)) :
    GrI w ((w1.alloc (.cells #[.int .i64 c.a, .int .i64 c.n, .int .i64 c.b, .int .i64 c.m] 42)).alloc (.cells #[.int .i64 d.a, .int .i64 d.n, .int .i64 d.b, .int .i64 d.m] 42)).drew R w1.heap.size (w1.heap.size + 1) c d ∧
    GrI w ((w1.alloc (.cells #[.int .i64 d.a, .int .i64 d.n, .int .i64 d.b, .int .i64 d.m] 42)).alloc (.cells #[.int .i64 c.a, .int .i64 c.n, .int .i64 c.b, .int .i64 c.m] 42)).drew R (w1.heap.size + 1) w1.heap.size c d := by
  have hlt := lt_of_heap hk
  have two : ∀ X Y : Obj, ((w1.alloc X).alloc Y).drew.heap[w1.heap.size]? = some X ∧ ((w1.alloc X).alloc Y).drew.heap[w1.heap.size + 1]? = some Y ∧ ((w1.alloc X).alloc Y).drew.heap[R]? = w1.heap[R]? ∧ Below w.heap.size w ((w1.alloc X).alloc Y).drew := by
    intro X Y
    have h1 := (Below.refl w1.heap.size w1).alloc (Nat.le_refl _) X
    have h2 : Below (w1.alloc X).heap.size (w1.alloc X) ((w1.alloc X).alloc Y) := (Below.refl _ _).alloc (Nat.le_refl _) Y
    refine ⟨(h2.block w1.heap.size (by simp)).trans (heap_alloc_new w1 X), ?_, (h2.block R (by simp; omega)).trans (h1.block R hlt), ?_⟩
    · show ((w1.alloc X).alloc Y).heap[w1.heap.size + 1]? = some Y
      have := heap_alloc_new (w1.alloc X) Y
      simpa using this
    · have h3 := (hb.alloc hb.size X).alloc (by simp; have := hb.size; omega) Y
      exact ⟨h3.os, h3.tape, h3.output, h3.size, h3.block⟩
  obtain ⟨a1, a2, a3, a4⟩ := two (.cells #[.int .i64 c.a, .int .i64 c.n, .int .i64 c.b, .int .i64 c.m] 42) (.cells #[.int .i64 d.a, .int .i64 d.n, .int .i64 d.b, .int .i64 d.m] 42)
  obtain ⟨b1, b2, b3, b4⟩ := two (.cells #[.int .i64 d.a, .int .i64 d.n, .int .i64 d.b, .int .i64 d.m] 42) (.cells #[.int .i64 c.a, .int .i64 c.n, .int .i64 c.b, .int .i64 c.m] 42)
  exact ⟨⟨a1, a2, a3.trans hk, by omega, by omega, by omega, a4⟩, ⟨b2, b1, b3.trans hk, by omega, by omega, by omega, b4⟩⟩
theorem rowsG_cons {a b : List ByteArray} {p q : Int} {c : Ch} {r : List Ch} : Hu.rowsG a b p (c :: r) q = Hu.mk 1 (Hu.sl a p c.a) ++ (Hu.mk 2 (Hu.sl a c.a (c.a + c.n)) ++ (Hu.mk 3 (Hu.sl b c.b (c.b + c.m)) ++ Hu.rowsG a b (c.a + c.n) r q)) := rfl
theorem drop_atC {l : List Ch} {k : Nat} {x : Ch} (h : l[k]? = some x) : l.drop k = x :: l.drop (k + 1) := by
  obtain ⟨h1, h2⟩ := List.getElem?_eq_some_iff.1 h
  rw [List.drop_eq_getElem_cons h1, h2]
set_option maxHeartbeats 8000000 in
set_option maxRecDepth 100000 in
theorem ofGroup_any {w : World} {v va vb : Value} {g : List Ch} {a b : List ByteArray} {ctx : Int} (hv : RdC w v g) (ha : RdT w va a) (hb : RdT w vb b) (hne : g ≠ []) (hinc : Hu.inc g (Hu.fromG ctx g) (Hu.fromH ctx g) a.length b.length) (h0 : 0 ≤ Hu.fromG ctx g) (h1 : 0 ≤ Hu.fromH ctx g) (hc0 : 0 ≤ ctx) (hc1 : ctx ≤ 2147483647) (hla : a.length ≤ 4194304) (hlb : b.length ≤ 4194304) (hlg : g.length ≤ 8388608) :
    Calls Tryz.prog 30 #[v, va, vb, .int .i64 ctx] w fun e w' => ∃ v', e = .returned (HkV (Hu.ofG ctx a b g) v') ∧ OwnW w' w.heap.size v' (Hu.ofG ctx a b g).rows ∧ Below w.heap.size w w' := by
  obtain ⟨ag, cg, rfl⟩ := hv.shape
  obtain ⟨aa, ca, rfl⟩ := ha.shape
  obtain ⟨ab, cb, rfl⟩ := hb.shape
  have hg0 : 0 < g.length := List.length_pos_iff.2 hne
  obtain ⟨c, hc⟩ : ∃ c, g[0]? = some c := ⟨_, List.getElem?_eq_getElem hg0⟩
  obtain ⟨d, hd⟩ : ∃ d, g[g.length - 1]? = some d := ⟨_, List.getElem?_eq_getElem (by omega)⟩
  have HV := hid hv
  obtain ⟨bg, og, rfl, hbg, c0, c1, c2, c3⟩ := rdC_at hv hc
  obtain ⟨bg2, og2, e2, _, d0, d1, d2, d3⟩ := rdC_at hv hd
  cases e2
  obtain ⟨n, hn⟩ : ∃ n, n = g.length - 1 := ⟨_, rfl⟩
  have e1 : g.length = n + 1 := by omega
  rw [← hn] at d0 d1 d2 d3
  rw [e1]
  have i1 : IntKind.i64.wrap ((n : Int) + 1 - 1) = (n : Int) := (wrapOk (by omega) (by omega)).trans (by omega)
  have i2 : (n : Int) < (n : Int) + 1 := by omega
  have i3 : (0 : Int) ≤ (n : Int) := by omega
  have i4 : (0 : Int) < (n : Int) + 1 := by omega
  simp only [Nat.zero_mul, Nat.add_zero] at c0 c1 c2 c3
  have HC := hid hc
  have HD := hid hd
  have HN := hid hn
  have HE1 := hid e1
  have HA := hid ha
  have HBb := hid hb
  have HNE := hid hne
  have HINC := hid hinc
  have HF := hid (Hu.ofG_facts hne hinc h0 h1 hc0 hla hlb)
  have H01 := hid (And.intro h0 h1)
  have hn8 : n < 8388608 := by omega
  clear hc hd hn e1 hv ha hb hne hinc h0 h1 hg0 hlg
  have hbR := (Below.refl w.heap.size w).alloc (Nat.le_refl _) (.cells #[.int .i64 0, .int .i64 0, .int .i64 0, .int .i64 0, .string ⟨#[]⟩, .slice none 0 0] 37)
  have hkR := heap_alloc_new w (.cells #[.int .i64 0, .int .i64 0, .int .i64 0, .int .i64 0, .string ⟨#[]⟩, .slice none 0 0] 37)
  go_enter Tryz.func30, Tryz.ntmps30
  go_wp2_with fail
  generalize w.alloc (.cells #[.int .i64 0, .int .i64 0, .int .i64 0, .int .i64 0, .string ⟨#[]⟩, .slice none 0 0] 37) = w1 at hbR hkR ⊢
  replace c0 := (hbR.cell (p := ⟨bg, _, none⟩) hbg).trans c0
  replace c1 := (hbR.cell (p := ⟨bg, _, none⟩) hbg).trans c1
  replace c2 := (hbR.cell (p := ⟨bg, _, none⟩) hbg).trans c2
  replace c3 := (hbR.cell (p := ⟨bg, _, none⟩) hbg).trans c3
  replace d0 := (hbR.cell (p := ⟨bg, _, none⟩) hbg).trans d0
  replace d1 := (hbR.cell (p := ⟨bg, _, none⟩) hbg).trans d1
  replace d2 := (hbR.cell (p := ⟨bg, _, none⟩) hbg).trans d2
  replace d3 := (hbR.cell (p := ⟨bg, _, none⟩) hbg).trans d3
  obtain ⟨R, hR⟩ : ∃ R, R = w.heap.size := ⟨_, rfl⟩
  rw [← hR] at hkR ⊢
  have HR := hid hR
  clear hR
  have hbA := (Below.refl w1.heap.size w1).alloc (Nat.le_refl _) (.cells #[.int .i64 0, .int .i64 0, .int .i64 0, .int .i64 0] 42)
  have hbB := hbA.alloc hbA.size (.cells #[.int .i64 0, .int .i64 0, .int .i64 0, .int .i64 0] 42)
  have hbg1 : bg < w1.heap.size := Nat.lt_of_lt_of_le hbg hbR.size
  have c0A : (w1.alloc (.cells #[.int .i64 0, .int .i64 0, .int .i64 0, .int .i64 0] 42)).drew.cell? ⟨bg, og, none⟩ = some (.int .i64 c.a) := (hbA.cell (p := ⟨bg, _, none⟩) hbg1).trans c0
  have c0B : ((w1.alloc (.cells #[.int .i64 0, .int .i64 0, .int .i64 0, .int .i64 0] 42)).alloc (.cells #[.int .i64 0, .int .i64 0, .int .i64 0, .int .i64 0] 42)).drew.cell? ⟨bg, og, none⟩ = some (.int .i64 c.a) := (hbB.cell (p := ⟨bg, _, none⟩) hbg1).trans c0
  have c0C : w1.drew.cell? ⟨bg, og, none⟩ = some (.int .i64 c.a) := c0
  have c1A : (w1.alloc (.cells #[.int .i64 0, .int .i64 0, .int .i64 0, .int .i64 0] 42)).drew.cell? ⟨bg, og + 1, none⟩ = some (.int .i64 c.n) := (hbA.cell (p := ⟨bg, _, none⟩) hbg1).trans c1
  have c1B : ((w1.alloc (.cells #[.int .i64 0, .int .i64 0, .int .i64 0, .int .i64 0] 42)).alloc (.cells #[.int .i64 0, .int .i64 0, .int .i64 0, .int .i64 0] 42)).drew.cell? ⟨bg, og + 1, none⟩ = some (.int .i64 c.n) := (hbB.cell (p := ⟨bg, _, none⟩) hbg1).trans c1
  have c1C : w1.drew.cell? ⟨bg, og + 1, none⟩ = some (.int .i64 c.n) := c1
  have c2A : (w1.alloc (.cells #[.int .i64 0, .int .i64 0, .int .i64 0, .int .i64 0] 42)).drew.cell? ⟨bg, og + 2, none⟩ = some (.int .i64 c.b) := (hbA.cell (p := ⟨bg, _, none⟩) hbg1).trans c2
  have c2B : ((w1.alloc (.cells #[.int .i64 0, .int .i64 0, .int .i64 0, .int .i64 0] 42)).alloc (.cells #[.int .i64 0, .int .i64 0, .int .i64 0, .int .i64 0] 42)).drew.cell? ⟨bg, og + 2, none⟩ = some (.int .i64 c.b) := (hbB.cell (p := ⟨bg, _, none⟩) hbg1).trans c2
  have c2C : w1.drew.cell? ⟨bg, og + 2, none⟩ = some (.int .i64 c.b) := c2
  have c3A : (w1.alloc (.cells #[.int .i64 0, .int .i64 0, .int .i64 0, .int .i64 0] 42)).drew.cell? ⟨bg, og + 3, none⟩ = some (.int .i64 c.m) := (hbA.cell (p := ⟨bg, _, none⟩) hbg1).trans c3
  have c3B : ((w1.alloc (.cells #[.int .i64 0, .int .i64 0, .int .i64 0, .int .i64 0] 42)).alloc (.cells #[.int .i64 0, .int .i64 0, .int .i64 0, .int .i64 0] 42)).drew.cell? ⟨bg, og + 3, none⟩ = some (.int .i64 c.m) := (hbB.cell (p := ⟨bg, _, none⟩) hbg1).trans c3
  have c3C : w1.drew.cell? ⟨bg, og + 3, none⟩ = some (.int .i64 c.m) := c3
  have d0A : (w1.alloc (.cells #[.int .i64 0, .int .i64 0, .int .i64 0, .int .i64 0] 42)).drew.cell? ⟨bg, og + n * 4, none⟩ = some (.int .i64 d.a) := (hbA.cell (p := ⟨bg, _, none⟩) hbg1).trans d0
  have d0B : ((w1.alloc (.cells #[.int .i64 0, .int .i64 0, .int .i64 0, .int .i64 0] 42)).alloc (.cells #[.int .i64 0, .int .i64 0, .int .i64 0, .int .i64 0] 42)).drew.cell? ⟨bg, og + n * 4, none⟩ = some (.int .i64 d.a) := (hbB.cell (p := ⟨bg, _, none⟩) hbg1).trans d0
  have d0C : w1.drew.cell? ⟨bg, og + n * 4, none⟩ = some (.int .i64 d.a) := d0
  have d1A : (w1.alloc (.cells #[.int .i64 0, .int .i64 0, .int .i64 0, .int .i64 0] 42)).drew.cell? ⟨bg, og + n * 4 + 1, none⟩ = some (.int .i64 d.n) := (hbA.cell (p := ⟨bg, _, none⟩) hbg1).trans d1
  have d1B : ((w1.alloc (.cells #[.int .i64 0, .int .i64 0, .int .i64 0, .int .i64 0] 42)).alloc (.cells #[.int .i64 0, .int .i64 0, .int .i64 0, .int .i64 0] 42)).drew.cell? ⟨bg, og + n * 4 + 1, none⟩ = some (.int .i64 d.n) := (hbB.cell (p := ⟨bg, _, none⟩) hbg1).trans d1
  have d1C : w1.drew.cell? ⟨bg, og + n * 4 + 1, none⟩ = some (.int .i64 d.n) := d1
  have d2A : (w1.alloc (.cells #[.int .i64 0, .int .i64 0, .int .i64 0, .int .i64 0] 42)).drew.cell? ⟨bg, og + n * 4 + 2, none⟩ = some (.int .i64 d.b) := (hbA.cell (p := ⟨bg, _, none⟩) hbg1).trans d2
  have d2B : ((w1.alloc (.cells #[.int .i64 0, .int .i64 0, .int .i64 0, .int .i64 0] 42)).alloc (.cells #[.int .i64 0, .int .i64 0, .int .i64 0, .int .i64 0] 42)).drew.cell? ⟨bg, og + n * 4 + 2, none⟩ = some (.int .i64 d.b) := (hbB.cell (p := ⟨bg, _, none⟩) hbg1).trans d2
  have d2C : w1.drew.cell? ⟨bg, og + n * 4 + 2, none⟩ = some (.int .i64 d.b) := d2
  have d3A : (w1.alloc (.cells #[.int .i64 0, .int .i64 0, .int .i64 0, .int .i64 0] 42)).drew.cell? ⟨bg, og + n * 4 + 3, none⟩ = some (.int .i64 d.m) := (hbA.cell (p := ⟨bg, _, none⟩) hbg1).trans d3
  have d3B : ((w1.alloc (.cells #[.int .i64 0, .int .i64 0, .int .i64 0, .int .i64 0] 42)).alloc (.cells #[.int .i64 0, .int .i64 0, .int .i64 0, .int .i64 0] 42)).drew.cell? ⟨bg, og + n * 4 + 3, none⟩ = some (.int .i64 d.m) := (hbB.cell (p := ⟨bg, _, none⟩) hbg1).trans d3
  have d3C : w1.drew.cell? ⟨bg, og + n * 4 + 3, none⟩ = some (.int .i64 d.m) := d3
  have i5 : IntKind.i64.wrap (n : Int) = (n : Int) := wrapOk (by omega) (by omega)
  go_cut [9, 10] (fun x y wc => ∃ F L : Nat, x = .pointer (some ⟨F, 0, none⟩) ∧ y = .pointer (some ⟨L, 0, none⟩) ∧ Hid (GrI w wc R F L c d))
  case first =>
    have HGR := hid (gr_one (c := c) (d := d) hbR HR.out hkR)
    go_region
    all_goals go_wp2_with fail
    all_goals go_meet
    · exact ⟨_, _, rfl, rfl, hid HGR.out.1⟩
    · exact ⟨_, _, rfl, rfl, hid HGR.out.2⟩
  case rest =>
    obtain ⟨F, L, rfl, rfl, HG⟩ := hcut
    clear c0A c0B c0C c1A c1B c1C c2A c2B c2C c3A c3B c3C d0A d0B d0C d1A d1B d1C d2A d2B d2C d3A d3B d3C c0 c1 c2 c3 d0 d1 d2 d3 hbA hbB hbg1 hbR hkR
    obtain ⟨wc', hwc⟩ : ∃ z, z = wc := ⟨_, rfl⟩
    subst hwc
    have HBw := hid HG.out.2.2.2.2.2.2
    have f0 : wc'.cell? ⟨F, 0, none⟩ = some (.int .i64 c.a) := cell_of_blk HG.out.1 0
    have f2 : wc'.cell? ⟨F, 2, none⟩ = some (.int .i64 c.b) := cell_of_blk HG.out.1 2
    have l0 : wc'.cell? ⟨L, 0, none⟩ = some (.int .i64 d.a) := cell_of_blk HG.out.2.1 0
    have l1 : wc'.cell? ⟨L, 1, none⟩ = some (.int .i64 d.n) := cell_of_blk HG.out.2.1 1
    have hhead : g.headD Hu.zC = c := by
      have := HC.out
      cases g with
      | nil => simp at this
      | cons x r => simpa using this
    have hlast : g.getLastD Hu.zC = d := by
      have := HD.out
      rw [List.getLastD_eq_getLast?, List.getLast?_eq_getElem?, this]
      rfl
    have hFG : Hu.fromG ctx g = c.a - min ctx c.a := by unfold Hu.fromG; rw [hhead]
    have hFH : Hu.fromH ctx g = c.b - min ctx c.a := by unfold Hu.fromH; rw [hhead]
    have hTG : Hu.toG ctx a.length g = min (d.a + d.n + ctx) a.length := by unfold Hu.toG; rw [hlast]
    obtain ⟨q1, q2, q3, q4, q5, q6, q7⟩ := HF.out
    obtain ⟨h0, h1⟩ := H01.out
    have hci := Hu.inc_in HINC.out c (List.mem_of_getElem? HC.out)
    have hdi := Hu.inc_in HINC.out d (List.mem_of_getElem? HD.out)
    obtain ⟨MO, hM⟩ : ∃ MO : Int, min ctx c.a = MO := ⟨_, rfl⟩
    rw [hM] at hFG hFH
    obtain ⟨P0, hP0⟩ := Int.eq_ofNat_of_zero_le h0
    obtain ⟨TO, hTO⟩ := Int.eq_ofNat_of_zero_le (a := Hu.toG ctx a.length g) (by omega)
    obtain ⟨Q0, hQ0⟩ := Int.eq_ofNat_of_zero_le h1
    have i6 : IntKind.i64.wrap (c.a - MO) = (P0 : Int) := (wrapOk (by omega) (by omega)).trans (by omega)
    have i6b : IntKind.i64.wrap (c.b - MO) = (Q0 : Int) := (wrapOk (by omega) (by omega)).trans (by omega)
    obtain ⟨DE, hDE⟩ : ∃ DE : Int, DE = d.a + d.n := ⟨_, rfl⟩
    have i7 : IntKind.i64.wrap (d.a + d.n) = DE := (wrapOk (by omega) (by omega)).trans hDE.symm
    obtain ⟨DC, hDC⟩ : ∃ DC : Int, DC = DE + ctx := ⟨_, rfl⟩
    have i8 : IntKind.i64.wrap (DE + ctx) = DC := (wrapOk (by omega) (by omega)).trans hDC.symm
    have hT : min DC (a.length : Int) = (TO : Int) := by rw [← hTO, hTG, hDC, hDE]
    obtain ⟨CM, hCM⟩ : ∃ CM : Int, CM = Ed.comeS g := ⟨_, rfl⟩
    obtain ⟨TP, hTP⟩ : ∃ TP : Int, TP = (TO : Int) - (P0 : Int) := ⟨_, rfl⟩
    obtain ⟨N, hN⟩ : ∃ N : Nat, (N : Int) = TP + CM := ⟨(TP + CM).toNat, by omega⟩
    have i9 : IntKind.i64.wrap ((TO : Int) - (P0 : Int)) = TP := (wrapOk (by omega) (by omega)).trans hTP.symm
    have i10 : IntKind.i64.wrap (TP + CM) = (N : Int) := (wrapOk (by omega) (by omega)).trans hN.symm
    have hNl : N ≤ 8388608 := by omega
    have hTOl : TO ≤ a.length := by omega
    have hP0l : P0 ≤ TO := by omega
    have HFG : Hid (Hu.fromG ctx g = (P0 : Int)) := hid hP0
    have HFH : Hid (Hu.fromH ctx g = (Q0 : Int)) := hid hQ0
    have HTG : Hid (Hu.toG ctx a.length g = (TO : Int)) := hid hTO
    have HLN : Hid ((Hu.rowsG a b P0 g TO).length = N) := hid (by rw [hP0, hTO] at q5; omega)
    have HEND : Hid (Hu.endA P0 g ≤ TO) := hid (by rw [hP0, hTO] at q1; exact q1)
    have HIN0 : Hid (Hu.inc g P0 Q0 a.length b.length) := hid (by have := HINC.out; rw [hP0, hQ0] at this; exact this)
    have hP0b : (P0 : Int) ≤ 4194304 := by omega
    have hQ0b : (Q0 : Int) ≤ 4194304 := by omega
    have HWF : Hid (∀ z ∈ g, WfC z) := hid (fun z hz => by have := Hu.inc_in HIN0.out z hz; unfold WfC I64; omega)
    have HCO := hid (fun w2 (hb2 : Below w.heap.size w w2) => cost_any (HV.out.below hb2) HWF.out (by have := HE1.out; omega))
    rw [q4] at HCO
    dsimp only at HCO
    rw [← hCM, HE1.out] at HCO
    clear hhead hlast hFG hFH hTG q1 q2 q3 q4 q5 q6 q7 h0 h1 hci hdi hP0 hTO hQ0 hDE hDC hCM hTP hN
    go_wp2_with fail
    refine (HCO.out wc' HBw.out).mono ?_
    rintro e w3 ⟨rfl, hb3⟩
    have HB3 := hid (HBw.out.trans (hb3.mono HBw.out.size))
    have HF3 := hid ((hb3.block F (lt_of_heap HG.out.1)).trans HG.out.1)
    have HR3 := hid ((hb3.block R (lt_of_heap HG.out.2.2.1)).trans HG.out.2.2.1)
    obtain ⟨j0, hj, hz0, hz1, hz2⟩ := info_parts Tryz.infoRow
    clear hb3 f0 f2 l0 l1
    go_wp2_with (at_make; refine wpList_make_own _ rfl _ _ 35 rfl w3.heap.size 59 j0 (.agg #[.int .i64 0, .string .empty]) 2 Tryz.underlying35 hj hz0 hz1 .i64 .i64 _ N rfl rfl rfl (by rw [hz2]; omega) (by unfold maxLen; omega) (Nat.le_refl _) ?_; intro w4 hown4 hgrow4; have HO4 := hid hown4; have HB4 := hid ((Below.refl w3.heap.size w3).grown hgrow4 (Nat.le_refl _) (fun k hk => by cases hk)); clear hown4 hgrow4)
    go_loopw [16, 17, 61] (fun vo pp ii wr => ∃ (k P Q : Nat) (X : List Rw), k ≤ n + 1 ∧ ii = .int .i64 k ∧ pp = .int .i64 P ∧ P ≤ TO ∧ Hid (OwnW wr w3.heap.size vo X) ∧ Hid (Below w3.heap.size w3 wr) ∧ Hid (Hu.rowsG a b P0 g TO = X ++ Hu.rowsG a b P (g.drop k) TO) ∧ Hid (Hu.inc (g.drop k) P Q a.length b.length) ∧ Hid (Hu.endA P (g.drop k) ≤ TO)) (fun _ _ ii _ => n + 1 - (intOf ii).toNat)
    case atStart => exact ⟨0, P0, Q0, [], Nat.zero_le _, rfl, rfl, hP0l, HO4, HB4, hid rfl, HIN0, HEND⟩
    case round =>
      obtain ⟨k, P, Q, X, hk, rfl, rfl, hPT, HW, HB, HX, HI, HEN⟩ := hrel
      obtain ⟨ax, cx, rfl⟩ := own_shape HW.out
      have hcapA := rd_cap HA.out
      have hcapB := rd_cap HBb.out
      have HAU : Hid (Under w3.heap.size (.slice aa a.length ca)) := hid (HA.out.under.mono HB3.out.size)
      have HBU : Hid (Under w3.heap.size (.slice ab b.length cb)) := hid (HBb.out.under.mono HB3.out.size)
      have hXl : X.length ≤ N := by
        have := HX.out
        have h2 := congrArg List.length this
        rw [HLN.out, List.length_append] at h2
        omega
      by_cases hlt : k < n + 1
      · obtain ⟨z, hz⟩ : ∃ z, g[k]? = some z := ⟨_, List.getElem?_eq_getElem (by have := HE1.out; omega)⟩
        have HD2 := hid (drop_atC hz)
        rw [HD2.out] at HX HI HEN
        have hzi := Hu.inc_in HI.out z (List.mem_cons_self)
        have HI2 := hid HI.out.2
        have hend := Hu.endA_ge HI2.out
        have HEN2 : Hid (Hu.endA (z.a + z.n) (g.drop (k + 1)) ≤ TO) := hid HEN.out
        obtain ⟨bz, oz, ez, hbz, z0, z1, z2, z3⟩ := rdC_at HV.out hz
        cases ez
        have HBW := hid (HB3.out.trans (HB.out.mono HB3.out.size))
        replace z0 := (HBW.out.cell (p := ⟨bg, _, none⟩) hbz).trans z0
        replace z1 := (HBW.out.cell (p := ⟨bg, _, none⟩) hbz).trans z1
        replace z2 := (HBW.out.cell (p := ⟨bg, _, none⟩) hbz).trans z2
        replace z3 := (HBW.out.cell (p := ⟨bg, _, none⟩) hbz).trans z3
        obtain ⟨za, zn, zb, zm⟩ := z
        dsimp only at z0 z1 z2 z3 hzi hend HEN2 HI2
        obtain ⟨CA, hCA⟩ := Int.eq_ofNat_of_zero_le (a := za) (by omega)
        obtain ⟨CN, hCN⟩ := Int.eq_ofNat_of_zero_le (a := zn) (by omega)
        obtain ⟨CB, hCB⟩ := Int.eq_ofNat_of_zero_le (a := zb) (by omega)
        obtain ⟨CM2, hCM2⟩ := Int.eq_ofNat_of_zero_le (a := zm) (by omega)
        subst hCA hCN hCB hCM2
        have hE := HEN2.out
        have hca1 : P ≤ CA := by omega
        have hca2 : CA + CN ≤ a.length := by omega
        have hca3 : CB + CM2 ≤ b.length := by omega
        have hca4 : CA + CN ≤ TO := by omega
        obtain ⟨CE, hCE⟩ : ∃ CE, CE = CA + CN := ⟨_, rfl⟩
        obtain ⟨CF, hCF⟩ : ∃ CF, CF = CB + CM2 := ⟨_, rfl⟩
        have s1 : IntKind.i64.wrap ((CA : Int) + (CN : Int)) = (CE : Int) := (wrapOk (by omega) (by omega)).trans (by omega)
        have s2 : IntKind.i64.wrap ((CB : Int) + (CM2 : Int)) = (CF : Int) := (wrapOk (by omega) (by omega)).trans (by omega)
        have j1 : (0 : Int) ≤ (P : Int) := by omega
        have j2 : (P : Int) ≤ (CA : Int) := by omega
        have j3 : (CA : Int) ≤ (ca : Int) := by omega
        have j4 : (CA : Int) ≤ (CE : Int) := by omega
        have j5 : (CE : Int) ≤ (ca : Int) := by omega
        have j6 : (CB : Int) ≤ (CF : Int) := by omega
        have j7 : (CF : Int) ≤ (cb : Int) := by omega
        have j8 : (0 : Int) ≤ (CA : Int) := by omega
        have j9 : (0 : Int) ≤ (CB : Int) := by omega
        have k1 : (0 : Int) ≤ (k : Int) := by omega
        have k2 : (k : Int) < (n : Int) + 1 := by omega
        have k3 : IntKind.i64.wrap ((k : Int) + 1) = (k : Int) + 1 := wrapOk (by omega) (by omega)
        have k4 : (k : Int) + 1 ≤ (n : Int) + 1 := by omega
        obtain ⟨A1, hA1⟩ : ∃ A1, (if ca = P then aa else aa.map (·.add P)) = A1 := ⟨_, rfl⟩
        obtain ⟨A2, hA2⟩ : ∃ A2, (if ca = CA then aa else aa.map (·.add CA)) = A2 := ⟨_, rfl⟩
        obtain ⟨A3, hA3⟩ : ∃ A3, (if cb = CB then ab else ab.map (·.add CB)) = A3 := ⟨_, rfl⟩
        have HX2 : Hid (Hu.rowsG a b P0 g TO = (((X ++ Hu.mk 1 (Hu.sl a P CA)) ++ Hu.mk 2 (Hu.sl a CA CE)) ++ Hu.mk 3 (Hu.sl b CB CF)) ++ Hu.rowsG a b CE (g.drop (k + 1)) TO) := hid (by
          rw [HX.out, rowsG_cons, show ((CA : Int) + (CN : Int)) = (CE : Int) by omega, show ((CB : Int) + (CM2 : Int)) = (CF : Int) by omega]
          simp only [List.append_assoc])
        have HI3 : Hid (Hu.inc (g.drop (k + 1)) CE CF a.length b.length) := hid (by have h := HI2.out; rw [show ((CA : Int) + (CN : Int)) = (CE : Int) by omega, show ((CB : Int) + (CM2 : Int)) = (CF : Int) by omega] at h; exact h)
        have HEN3 : Hid (Hu.endA CE (g.drop (k + 1)) ≤ TO) := hid (by have h := HEN2.out; rw [show ((CA : Int) + (CN : Int)) = (CE : Int) by omega] at h; exact h)
        have hla1 : ((a.drop P).take (CA - P)).length ≤ 4194304 := by rw [List.length_take]; omega
        have hla2 : ((a.drop CA).take (CE - CA)).length ≤ 4194304 := by rw [List.length_take]; omega
        have hla3 : ((b.drop CB).take (CF - CB)).length ≤ 4194304 := by rw [List.length_take]; omega
        have HC1 := hid (fun (w5 : World) (v5 : Value) (Y : List Rw) (ho : OwnW w5 w3.heap.size v5 Y) (hb5 : Below w3.heap.size w3 w5) (hY : Y.length ≤ 20000000) => appendRows_any (kd := 1) ho hb5.size (rdT_sliced ((HA.out.below HB3.out).keep HAU.out hb5) (x := P) (y := CA) hca1 (by omega)) (under_sliced HA.out HAU.out (by omega)) (by omega))
        have HC2 := hid (fun (w5 : World) (v5 : Value) (Y : List Rw) (ho : OwnW w5 w3.heap.size v5 Y) (hb5 : Below w3.heap.size w3 w5) (hY : Y.length ≤ 20000000) => appendRows_any (kd := 2) ho hb5.size (rdT_sliced ((HA.out.below HB3.out).keep HAU.out hb5) (x := CA) (y := CE) (by omega) (by omega)) (under_sliced HA.out HAU.out (by omega)) (by omega))
        have HC3 := hid (fun (w5 : World) (v5 : Value) (Y : List Rw) (ho : OwnW w5 w3.heap.size v5 Y) (hb5 : Below w3.heap.size w3 w5) (hY : Y.length ≤ 20000000) => appendRows_any (kd := 3) ho hb5.size (rdT_sliced ((HBb.out.below HB3.out).keep HBU.out hb5) (x := CB) (y := CF) (by omega) (by omega)) (under_sliced HBb.out HBU.out (by omega)) (by omega))
        rw [hA1] at HC1
        rw [hA2] at HC2
        rw [hA3] at HC3
        simp only [← Hu.sl_nat] at HC1 HC2 HC3
        have hN1 : (X ++ Hu.mk 1 (Hu.sl a P CA)).length ≤ N := by
          have h2 := congrArg List.length HX2.out
          rw [HLN.out] at h2
          simp only [List.length_append] at h2 ⊢
          omega
        have hN2 : ((X ++ Hu.mk 1 (Hu.sl a P CA)) ++ Hu.mk 2 (Hu.sl a CA CE)).length ≤ N := by
          have h2 := congrArg List.length HX2.out
          rw [HLN.out] at h2
          simp only [List.length_append] at h2 ⊢
          omega
        have HW5 := hid (own_stays HW.out ((Below.refl wr.heap.size wr).alloc (Nat.le_refl _) (.cells #[.int .i64 CA, .int .i64 CN, .int .i64 CB, .int .i64 CM2] 42)))
        have HB5 := hid (HB.out.alloc HB.out.size (.cells #[.int .i64 CA, .int .i64 CN, .int .i64 CB, .int .i64 CM2] 42))
        have HZ5 := hid (heap_alloc_new wr (.cells #[.int .i64 CA, .int .i64 CN, .int .i64 CB, .int .i64 CM2] 42))
        have zc0 : (wr.alloc (.cells #[.int .i64 CA, .int .i64 CN, .int .i64 CB, .int .i64 CM2] 42)).cell? ⟨wr.heap.size, 0, none⟩ = some (.int .i64 CA) := cell_of_blk HZ5.out 0
        obtain ⟨X1, hX1⟩ : ∃ X1, X1 = X ++ Hu.mk 1 (Hu.sl a P CA) := ⟨_, rfl⟩
        obtain ⟨X2, hX2⟩ : ∃ X2, X2 = X1 ++ Hu.mk 2 (Hu.sl a CA CE) := ⟨_, rfl⟩
        obtain ⟨X3, hX3⟩ : ∃ X3, X3 = X2 ++ Hu.mk 3 (Hu.sl b CB CF) := ⟨_, rfl⟩
        rw [← hX1, ← hX2, ← hX3] at HX2
        rw [← hX1, ← hX2] at hN2
        rw [← hX1] at hN1
        have HP1 := hid (HC1.out _ _ X HW5.out HB5.out (by omega))
        rw [← hX1] at HP1
        have HP2 := hid (fun w5 v5 ho hb5 => HC2.out w5 v5 X1 ho hb5 (by omega))
        rw [← hX2] at HP2
        have HP3 := hid (fun w5 v5 ho hb5 => HC3.out w5 v5 X2 ho hb5 (by omega))
        rw [← hX3] at HP3
        obtain ⟨Z, hZ⟩ : ∃ Z, Z = wr.heap.size := ⟨_, rfl⟩
        have HZL : Hid (∀ q, (Value.slice ax X.length cx).ownBlock = some q → q ≠ Z) := hid (fun q h => by have := own_lt HW.out q h; omega)
        have HZW : Hid (Z < (wr.alloc (.cells #[.int .i64 CA, .int .i64 CN, .int .i64 CB, .int .i64 CM2] 42)).heap.size) := hid (by rw [hZ]; exact lt_of_heap HZ5.out)
        rw [← hZ] at HZ5
        have HCE := hid hCE
        clear hCE hCF hX1 hX2 hX3 HC1 HC2 HC3 hN1 hN2 HW HB HX hz hbz hE hend hzi HEN HEN2 HI HI2 HW5
        go_wp2_with fail
        rw [← hZ]
        clear hZ
        refine HP1.out.mono ?_
        rintro e w6 ⟨v6, rfl, hO6, hb6, hoo6⟩
        obtain ⟨a6, c6, rfl⟩ := own_shape hO6
        have HO6 := hid hO6
        have HB6 := hid (HB5.out.trans hb6)
        have HZ6 := hid ((hoo6.1 Z HZW.out (fun e => HZL.out Z e rfl)).trans HZ5.out)
        have HZL6 : Hid (∀ q, (Value.slice a6 X1.length c6).ownBlock = some q → q ≠ Z) := hid (fun q h => by
          rcases hoo6.2 q h with h | h
          · exact HZL.out q h
          · have := HZW.out; omega)
        have y0 : w6.cell? ⟨Z, 0, none⟩ = some (.int .i64 CA) := cell_of_blk HZ6.out 0
        have y1 : w6.cell? ⟨Z, 1, none⟩ = some (.int .i64 CN) := cell_of_blk HZ6.out 1
        clear hO6 hb6 hoo6 HP1 HB5 HZ5 HZL zc0 z0 z1 z2 z3
        go_wp2_with fail
        refine (HP2.out w6 _ HO6.out HB6.out).mono ?_
        rintro e w7 ⟨v7, rfl, hO7, hb7, hoo7⟩
        obtain ⟨a7, c7, rfl⟩ := own_shape hO7
        have HO7 := hid hO7
        have HB7 := hid (HB6.out.trans hb7)
        have HZ7 := hid ((hoo7.1 Z (lt_of_heap HZ6.out) (fun e => HZL6.out Z e rfl)).trans HZ6.out)
        have x2 : w7.cell? ⟨Z, 2, none⟩ = some (.int .i64 CB) := cell_of_blk HZ7.out 2
        have x3 : w7.cell? ⟨Z, 3, none⟩ = some (.int .i64 CM2) := cell_of_blk HZ7.out 3
        clear hO7 hb7 hoo7 HP2 HO6 HB6 HZ6 HZL6 y0 y1
        go_wp2_with fail
        refine (HP3.out w7 _ HO7.out HB7.out).mono ?_
        rintro e w8 ⟨v8, rfl, hO8, hb8, hoo8⟩
        have HO8 := hid hO8
        have HB8 := hid (HB7.out.trans hb8)
        clear hO8 hb8 hoo8 HP3 HO7 HB7 HZ7 x2 x3
        go_wp2_with fail
        go_roundw
        case rel => exact ⟨k + 1, CE, CF, X3, by omega, by go_num, rfl, by have := HCE.out; omega, HO8, HB8, HX2, HI3, HEN3⟩
        case measure => simp [intOf]; omega
      · obtain rfl : k = n + 1 := by omega
        have hdr : g.drop (n + 1) = [] := List.drop_eq_nil_of_le (by have := HE1.out; omega)
        have HX2 : Hid (X ++ Hu.mk 1 (Hu.sl a P TO) = Hu.rowsG a b P0 g TO) := hid (by rw [HX.out, hdr]; rfl)
        have k2 : ¬ ((n : Int) + 1 < (n : Int) + 1) := by omega
        have j1 : (0 : Int) ≤ (P : Int) := by omega
        have j2 : (P : Int) ≤ (TO : Int) := by omega
        have j3 : (TO : Int) ≤ (ca : Int) := by omega
        obtain ⟨A1, hA1⟩ : ∃ A1, (if ca = P then aa else aa.map (·.add P)) = A1 := ⟨_, rfl⟩
        have hla1 : ((a.drop P).take (TO - P)).length ≤ 4194304 := by rw [List.length_take]; omega
        have HP1 := hid (appendRows_any (kd := 1) HW.out HB.out.size (rdT_sliced ((HA.out.below HB3.out).keep HAU.out HB.out) (x := P) (y := TO) hPT (by omega)) (under_sliced HA.out HAU.out (by omega)) (by omega))
        rw [hA1] at HP1
        simp only [← Hu.sl_nat] at HP1
        rw [HX2.out] at HP1
        obtain ⟨RW, hRW⟩ : ∃ RW, RW = Hu.rowsG a b P0 g TO := ⟨_, rfl⟩
        have hkd : Kd RW := by rw [hRW]; exact Kd_rowsG a b g _ _
        have hrl : RW.length < 5864062014800 := by have := HLN.out; rw [← hRW] at this; omega
        rw [← hRW] at HP1
        have HHK := hid (fun (w9 : World) (v9 : Value) (hr : RdW w9 v9 RW) => hunk_any (x := P0) (y := Q0) hr hrl hkd (by omega) (by omega) (by omega) (by omega))
        have HOF : Hid (Hu.ofG ctx a b g = Hu.hunkAt P0 Q0 RW) := hid (by unfold Hu.ofG; rw [HFG.out, HFH.out, HTG.out, ← hRW])
        have HFL : Hid (F < w3.heap.size ∧ R < w3.heap.size) := hid ⟨lt_of_heap HF3.out, lt_of_heap HR3.out⟩
        clear hdr HX HI HEN hXl hla1 hkd hRW
        go_wp2_with fail
        refine HP1.out.mono ?_
        rintro e w6 ⟨v6, rfl, hO6, hb6, _⟩
        obtain ⟨a6, c6, rfl⟩ := own_shape hO6
        have HO6 := hid hO6
        have HB6 := hid (HB.out.trans hb6)
        have HF6 := hid ((HB6.out.block F HFL.out.1).trans HF3.out)
        have HR6 := hid ((HB6.out.block R HFL.out.2).trans HR3.out)
        have y2 : w6.cell? ⟨F, 2, none⟩ = some (.int .i64 c.b) := cell_of_blk HF6.out 2
        have HK6 := hid (HHK.out w6 _ (own_rd HO6.out))
        unfold SpV HkV Hu.hunkAt at HK6
        dsimp only at HK6
        obtain ⟨TX, hTX⟩ : ∃ TX, TX = Hu.told P0 (Hu.olds RW).length := ⟨_, rfl⟩
        obtain ⟨TY, hTY⟩ : ∃ TY, TY = Hu.told Q0 (Hu.fres RW).length := ⟨_, rfl⟩
        obtain ⟨ON, hON⟩ : ∃ ON : Nat, ON = (Hu.olds RW).length := ⟨_, rfl⟩
        obtain ⟨FN, hFN⟩ : ∃ FN : Nat, FN = (Hu.fres RW).length := ⟨_, rfl⟩
        rw [← hTX, ← hTY, ← hON, ← hFN, show ByteArray.empty = ⟨#[]⟩ from rfl] at HK6
        have HHV : Hid (∀ u, HkV (Hu.ofG ctx a b g) u = .agg #[.int .i64 TX, .int .i64 (ON : Int), .int .i64 TY, .int .i64 (FN : Int), .string ⟨#[]⟩, u]) := hid (fun u => by rw [HOF.out, hTX, hTY, hON, hFN]; rfl)
        have HRW : Hid ((Hu.ofG ctx a b g).rows = RW) := hid (by rw [HOF.out]; rfl)
        clear hO6 hb6 HP1 HW hTX hTY hON hFN
        go_wp2_with fail
        refine HK6.out.mono ?_
        rintro e w7 ⟨rfl, hb7⟩
        have HO7 := hid (own_stays HO6.out hb7)
        have HB7 := hid (HB6.out.trans (hb7.mono HB6.out.size))
        have HR7 := hid ((hb7.block R (lt_of_heap HR6.out)).trans HR6.out)
        have z0 : w7.cell? ⟨R, 0, none⟩ = some (.int .i64 0) := cell_of_blk HR7.out 0
        have z1 : w7.cell? ⟨R, 1, none⟩ = some (.int .i64 0) := cell_of_blk HR7.out 1
        have z2 : w7.cell? ⟨R, 2, none⟩ = some (.int .i64 0) := cell_of_blk HR7.out 2
        have z3 : w7.cell? ⟨R, 3, none⟩ = some (.int .i64 0) := cell_of_blk HR7.out 3
        have z4 : w7.cell? ⟨R, 4, none⟩ = some (.string ⟨#[]⟩) := cell_of_blk HR7.out 4
        have z5 : w7.cell? ⟨R, 5, none⟩ = some (.slice none 0 0) := cell_of_blk HR7.out 5
        have zf : ∀ j, w7.frozen? ⟨R, j, none⟩ = false := fun j => frozen_of_blk HR7.out j
        have HWR : Hid (w.heap.size ≤ R) := hid (by rw [HR.out]; exact Nat.le_refl _)
        have HBW7 := hid (HB3.out.trans (HB7.out.mono HB3.out.size))
        have hk6 := set_heap _ R 5 _ _ (.slice a6 RW.length c6) (set_heap _ R 4 _ _ (.string ⟨#[]⟩) (set_heap _ R 3 _ _ (.int .i64 (FN : Int)) (set_heap _ R 2 _ _ (.int .i64 TY) (set_heap _ R 1 _ _ (.int .i64 (ON : Int)) (set_heap _ R 0 _ _ (.int .i64 TX) HR7.out)))))
        have HB8 := hid (below_set (k := 5) (u := .slice a6 RW.length c6) (below_set (k := 4) (u := .string ⟨#[]⟩) (below_set (k := 3) (u := .int .i64 (FN : Int)) (below_set (k := 2) (u := .int .i64 TY) (below_set (k := 1) (u := .int .i64 (ON : Int)) (below_set (k := 0) (u := .int .i64 TX) HBW7.out HWR.out) HWR.out) HWR.out) HWR.out) HWR.out) HWR.out)
        have HO8 : Hid (OwnW ((((((w7.setCell ⟨R, 0, none⟩ (.int .i64 TX)).setCell ⟨R, 1, none⟩ (.int .i64 (ON : Int))).setCell ⟨R, 2, none⟩ (.int .i64 TY)).setCell ⟨R, 3, none⟩ (.int .i64 (FN : Int))).setCell ⟨R, 4, none⟩ (.string ⟨#[]⟩)).setCell ⟨R, 5, none⟩ (.slice a6 RW.length c6)) w3.heap.size (.slice a6 RW.length c6) RW) := hid (own_far HO7.out (fun q hq => by
          have hne : q ≠ R := by have := own_ge HO7.out q hq; have := HFL.out.2; omega
          exact (set_other _ hne).trans ((set_other _ hne).trans ((set_other _ hne).trans ((set_other _ hne).trans ((set_other _ hne).trans (set_other _ hne)))))))
        clear hb7 HK6 HO6 HB6 HF6 HR6 y2 HO7
        go_wp2_with fail
        generalize ((((((w7.setCell ⟨R, 0, none⟩ (.int .i64 TX)).setCell ⟨R, 1, none⟩ (.int .i64 (ON : Int))).setCell ⟨R, 2, none⟩ (.int .i64 TY)).setCell ⟨R, 3, none⟩ (.int .i64 (FN : Int))).setCell ⟨R, 4, none⟩ (.string ⟨#[]⟩)).setCell ⟨R, 5, none⟩ (.slice a6 RW.length c6)) = w8 at hk6 HB8 HO8 ⊢
        have y0 : w8.cell? ⟨R, 0, none⟩ = some (.int .i64 TX) := cell_of_blk hk6 0
        have y1 : w8.cell? ⟨R, 1, none⟩ = some (.int .i64 (ON : Int)) := cell_of_blk hk6 1
        have y2 : w8.cell? ⟨R, 2, none⟩ = some (.int .i64 TY) := cell_of_blk hk6 2
        have y3 : w8.cell? ⟨R, 3, none⟩ = some (.int .i64 (FN : Int)) := cell_of_blk hk6 3
        have y4 : w8.cell? ⟨R, 4, none⟩ = some (.string ⟨#[]⟩) := cell_of_blk hk6 4
        have y5 : w8.cell? ⟨R, 5, none⟩ = some (.slice a6 RW.length c6) := cell_of_blk hk6 5
        exact bodyPost_ret (v := .agg #[.int .i64 TX, .int .i64 (ON : Int), .int .i64 TY, .int .i64 (FN : Int), .string ⟨#[]⟩, .slice a6 RW.length c6]) (by simp [results, Tryz.results30, go_sem, y0, y1, y2, y3, y4, y5]) rfl ⟨_, by rw [HHV.out], by rw [HRW.out]; exact own_mono HO8.out HB3.out.size, HB8.out⟩
end Go.Proofs.YtddmfdjkkikapaaGreatDoor
