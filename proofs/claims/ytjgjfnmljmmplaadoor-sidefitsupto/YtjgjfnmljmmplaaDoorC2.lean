/-
  The walk of eachRun: whatever the function does with each run, by what it keeps.
-/
import Derived.Test.YtjgjfnmljmmplaaDoorC1
namespace Go.Proofs.YtjgjfnmljmmplaaDoor
open Go.RowKit
open Ed (Ch Run Pr)

def rV (r : Run) : Value := .agg #[.int .i64 r.1, .int .i64 r.2.1, .int .i64 r.2.2]
/-- a run within two texts -/
def RunB (n m : Int) (r : Run) : Prop := 0 ≤ r.1 ∧ 0 ≤ r.2.1 ∧ 0 < r.2.2 ∧ r.1 + r.2.2 ≤ n ∧ r.2.1 + r.2.2 ≤ m
/-- of what was there only these blocks may have changed -/
structure Kept (X : Nat → Prop) (w w' : World) : Prop where
  os : w'.os = w.os
  tape : w'.tape = w.tape
  output : w'.output = w.output
  size : w.heap.size ≤ w'.heap.size
  block : ∀ g, g < w.heap.size → ¬ X g → w'.heap[g]? = w.heap[g]?
theorem Kept.below {X : Nat → Prop} {w w' : World} {B : Nat} (h : Kept X w w') (hX : ∀ g, X g → B ≤ g) (hB : B ≤ w.heap.size) : Below B w w' :=
  ⟨h.os, h.tape, h.output, h.size, fun i hi => h.block i (by omega) (fun hx => by have := hX i hx; omega)⟩
theorem cell_of_blk {w : World} {g : Nat} {cs : Array Value} {t : TypeId} (h : w.heap[g]? = some (.cells cs t)) (o : Nat) : w.cell? ⟨g, o, none⟩ = cs[o]? := by
  simp [World.cell?, h]
theorem Kept.cell {X : Nat → Prop} {w w' : World} (h : Kept X w w') {g o : Nat} (hg : g < w.heap.size) (hx : ¬ X g) : w'.cell? ⟨g, o, none⟩ = w.cell? ⟨g, o, none⟩ := by
  unfold World.cell?
  rw [show (⟨g, o, none⟩ : Addr).block = g from rfl, h.block g hg hx]

set_option maxHeartbeats 2000000 in
set_option maxRecDepth 100000 in
theorem eachRun_any {v : Value} {s : List Ch} {n m : Int} {w : World} {B : Nat} (F : FuncId) (hent : ∀ (args : Array Value) (w : World), (callFunc F args).run Tryd.prog w = .ok (.enter F args) w) (caps : Array Value) (I : List Run → (Nat → Prop) → World → Prop) (hr : RdC w v s) (hu : Under B v) (hB : B ≤ w.heap.size) (hV : Ed.Val s n m) (hl : s.length ≤ 10000000000000)
    (hst : ∀ d X w1 w2, I d X w1 → Below w1.heap.size w1 w2 → I d X w2) (hX : ∀ d X w1, I d X w1 → ∀ g, X g → B ≤ g ∧ g < w1.heap.size) {X0 : Nat → Prop} (h0 : I [] X0 w)
    (hf : ∀ d X r w1, I d X w1 → RunB n m r → Below B w w1 → (∃ rest, Ed.runs s n 0 0 = d ++ r :: rest) → Calls Tryd.prog F (#[rV r] ++ caps) w1 fun e w2 => e = .returned (.tuple #[]) ∧ Kept X w1 w2 ∧ ∃ X', I (d ++ [r]) X' w2) :
    Calls Tryd.prog 38 #[v, .int .i64 n, .func (.func F) #[] caps] w fun e w' => e = .returned (.tuple #[]) ∧ Below B w w' ∧ ∃ X, I (Ed.runs s n 0 0) X w' := by
  obtain ⟨a, c, rfl⟩ := hr.shape
  have HR := hid hr
  have HU := hid hu
  have HST := hid hst
  have HX := hid hX
  have HF := hid hf
  have HENT := hid hent
  have HI0 := hid h0
  obtain ⟨hn, hm, hval⟩ := hV
  obtain ⟨hn0, hn1⟩ := Ed.cnt_iff.1 hn
  obtain ⟨hm0, hm1⟩ := Ed.cnt_iff.1 hm
  have HVAL := hid hval
  clear hr hu hst hf h0 hn hm hval hent hX
  go_enter Tryd.func38, Tryd.ntmps38
  go_wp2
  go_loopw [6, 7, 12] (fun x y i wr => ∃ (k : Nat) (ca cb : Int) (d : List Run) (X : Nat → Prop), k ≤ s.length ∧ i = .int .i64 k ∧ x = .int .i64 ca ∧ y = .int .i64 cb ∧ 0 ≤ ca ∧ ca ≤ n ∧ 0 ≤ cb ∧ cb ≤ m ∧ Hid (Ed.val (s.drop k) ca cb n m = true) ∧ Hid (Ed.runs s n 0 0 = d ++ Ed.runs (s.drop k) n ca cb) ∧ Hid (I d X wr) ∧ Below B w wr) (fun _ _ i _ => s.length - (intOf i).toNat)
  case atStart => exact ⟨0, 0, 0, [], X0, Nat.zero_le _, rfl, rfl, rfl, by omega, by omega, by omega, by omega, HVAL.out, rfl, HI0.out, Below.refl _ _⟩
  case round =>
    obtain ⟨k, ca, cb, d, X, hk, rfl, rfl, rfl, hca0, hca1, hcb0, hcb1, HV, HRU, HI, hb⟩ := hrel
    by_cases hlt : k < s.length
    · obtain ⟨x, hx⟩ : ∃ x, s[k]? = some x := ⟨_, List.getElem?_eq_getElem hlt⟩
      have HD := hid (drop_at hx)
      obtain ⟨b, o, rfl, hblt, c0, c1, c2, c3⟩ := rdC_at (HR.out.keep HU.out hb) hx
      rw [HD.out] at HV HRU
      obtain ⟨hok, hv2⟩ := Ed.val_cons.1 HV.out
      have HV2 := hid hv2
      obtain ⟨⟨p1, p2, p3⟩, ⟨p4, p5, p6⟩, _, p8⟩ := hok
      have hbb := Nat.le_trans hB hb.size
      have hB1 := hb.alloc hbb (.cells #[.int .i64 x.a, .int .i64 x.n, .int .i64 x.b, .int .i64 x.m] 45)
      have HI1 := hid (HST.out d X wr (wr.alloc (.cells #[.int .i64 x.a, .int .i64 x.n, .int .i64 x.b, .int .i64 x.m] 45)) HI.out ((Below.refl _ _).alloc (Nat.le_refl _) _))
      have HXX := hid (HX.out d X wr HI.out)
      have HB1 := hid hB1
      have HBLK := hid (heap_alloc_new wr (.cells #[.int .i64 x.a, .int .i64 x.n, .int .i64 x.b, .int .i64 x.m] 45))
      clear hB1 HV HD hx hb HI hv2
      by_cases hgt : ca < x.a
      · have HRU2 : Hid (Ed.runs s n 0 0 = (d ++ [(ca, cb, x.a - ca)]) ++ Ed.runs (s.drop (k + 1)) n (x.a + x.n) (x.b + x.m)) := hid (by rw [HRU.out, Ed.runs, Ed.run1, if_pos (by omega)]; simp)
        have hrb : RunB n m (ca, cb, x.a - ca) := ⟨hca0, hcb0, by simp only; omega, by simp only; omega, by simp only; omega⟩
        have HC := hid (HF.out d X (ca, cb, x.a - ca) _ HI1.out hrb HB1.out ⟨_, by rw [HRU2.out, List.append_assoc]; rfl⟩)
        clear HRU hrb p8
        go_wp2_with fail
        rw [HENT.out, Oper.upon_enter]
        refine HC.out.mono ?_
        rintro e w2 ⟨rfl, hK, X', hI2⟩
        have hnx : ¬ X wr.heap.size := fun h => by have := (HXX.out _ h).2; omega
        have hblk := (hK.block wr.heap.size (by simp) hnx).trans HBLK.out
        have HB2 := hid (HB1.out.trans (hK.below (fun g hg => (HXX.out g hg).1) (by simp; omega)))
        have d0 : w2.cell? ⟨wr.heap.size, 0, none⟩ = some (.int .i64 x.a) := cell_of_blk hblk 0
        have d1 : w2.cell? ⟨wr.heap.size, 1, none⟩ = some (.int .i64 x.n) := cell_of_blk hblk 1
        have d2 : w2.cell? ⟨wr.heap.size, 2, none⟩ = some (.int .i64 x.b) := cell_of_blk hblk 2
        have d3 : w2.cell? ⟨wr.heap.size, 3, none⟩ = some (.int .i64 x.m) := cell_of_blk hblk 3
        have HI2 := hid hI2
        clear hK hI2 hblk c0 c1 c2 c3 HC HBLK HI1 HB1
        go_wp2
        go_quiet (fail)
        go_wp2
        go_roundw
        case rel => exact ⟨k + 1, x.a + x.n, x.b + x.m, _, X', by omega, by go_num, by go_num, by go_num, by omega, by omega, by omega, by omega, HV2, HRU2, HST.out _ _ _ _ HI2.out (below_drewN (Below.refl _ _) _), below_drewN HB2.out _⟩
        case measure => simp [intOf]; omega
      · have HRU2 : Hid (Ed.runs s n 0 0 = d ++ Ed.runs (s.drop (k + 1)) n (x.a + x.n) (x.b + x.m)) := hid (by rw [HRU.out, Ed.runs, Ed.run1, if_neg (by omega)]; simp)
        clear HRU p8
        go_wp2
        go_quiet (fail)
        go_wp2
        go_roundw
        case rel => exact ⟨k + 1, x.a + x.n, x.b + x.m, _, X, by omega, by go_num, by go_num, by go_num, by omega, by omega, by omega, by omega, HV2, HRU2, HST.out _ _ _ _ HI1.out (below_drewN (Below.refl _ _) _), below_drewN HB1.out _⟩
        case measure => simp [intOf]; omega
    · have hkk : s.drop k = [] := List.drop_eq_nil_of_le (by omega)
      rw [hkk] at HRU HV
      have hq : n - ca = m - cb := by have := HV.out; simpa [Ed.val] using this
      have HXX := hid (HX.out d X wr HI.out)
      have hbb := Nat.le_trans hB hb.size
      have HB := hid hb
      clear hkk HV hb
      by_cases hgt : ca < n
      · have HRU2 : Hid (Ed.runs s n 0 0 = d ++ [(ca, cb, n - ca)]) := hid (by rw [HRU.out, Ed.runs, Ed.run1, if_pos (by omega)])
        have hrb : RunB n m (ca, cb, n - ca) := ⟨hca0, hcb0, by simp only; omega, by simp only; omega, by simp only; omega⟩
        have HC := hid (HF.out d X (ca, cb, n - ca) _ HI.out hrb HB.out ⟨[], HRU2.out⟩)
        clear HRU hrb hq
        go_wp2_with fail
        rw [HENT.out, Oper.upon_enter]
        refine HC.out.mono ?_
        rintro e w2 ⟨rfl, hK, X', hI2⟩
        have HB2 := hid (HB.out.trans (hK.below (fun g hg => (HXX.out g hg).1) hbb))
        have HI2 := hid hI2
        clear hK hI2 HC
        go_wp2
        refine bodyPost_end (v := .tuple #[]) (by simp [results, Tryd.results38]) rfl ⟨rfl, HB2.out, X', by rw [HRU2.out]; exact HI2.out⟩
      · have HRU2 : Hid (Ed.runs s n 0 0 = d) := hid (by rw [HRU.out, Ed.runs, Ed.run1, if_neg (by omega)]; simp)
        clear HRU hq
        go_wp2
        refine bodyPost_end (v := .tuple #[]) (by simp [results, Tryd.results38]) rfl ⟨rfl, HB.out, X, by rw [HRU2.out]; exact HI.out⟩
end Go.Proofs.YtjgjfnmljmmplaaDoor
