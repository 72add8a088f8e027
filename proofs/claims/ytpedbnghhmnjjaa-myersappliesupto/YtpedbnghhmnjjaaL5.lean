/-
  The walk of settle.
-/
import Derived.Test.YtpedbnghhmnjjaaL4c
namespace Go.Proofs.Ytpedbnghhmnjjaa
open Go.RowKit
open Ed (Ch)

set_option maxHeartbeats 16000000 in
set_option maxRecDepth 100000 in
theorem settle_any {w : World} {g1 gn1 gp1 gc1 cap1 g2 gn2 gp2 gc2 cap2 : Nat} {r1 r2 : List Int} {p1 p2 : Int → Bool} (hS1 : Side w g1 gn1 gp1 gc1 cap1 r1 p1 (fun _ => false)) (hS2 : Side w g2 gn2 gp2 gc2 cap2 r2 p2 (fun _ => false)) (hl1 : r1.length ≤ 2000000) (hl2 : r2.length ≤ 2000000)
    (hd : gc1 ≠ gc2 ∧ g1 ≠ gc1 ∧ gn1 ≠ gc1 ∧ gp1 ≠ gc1 ∧ g1 ≠ gc2 ∧ gn1 ≠ gc2 ∧ gp1 ≠ gc2 ∧ g2 ≠ gc1 ∧ gn2 ≠ gc1 ∧ gp2 ≠ gc1 ∧ g2 ≠ gc2 ∧ gn2 ≠ gc2 ∧ gp2 ≠ gc2) (hlt : gn1 < w.heap.size ∧ gp1 < w.heap.size ∧ gn2 < w.heap.size ∧ gp2 < w.heap.size) (hc1 : (r1.filter p1).length ≤ cap1) (hc2 : (r2.filter p2).length ≤ cap2) :
    Calls Try.prog 23 #[.pointer (some ⟨g1, 0, none⟩), .pointer (some ⟨g2, 0, none⟩)] w fun e w' => e = .returned (.tuple #[]) ∧ Kept (fun j => j = gc1 ∨ j = gc2) w w' ∧
      BlR w' gc1 (My.spread p1 r1 (My.mkF (r1.filter p1) (r2.filter p2)).1) ∧ BlR w' gc2 (My.spread p2 r2 (My.mkF (r1.filter p1) (r2.filter p2)).2) := by
  have hf1 := List.length_filter_le p1 r1
  have hf2 := List.length_filter_le p2 r2
  have HS1 := hid hS1
  have HS2 := hid hS2
  have HRO := hid (fun w' (h1 : RdI w' (.slice (some ⟨gn1, 0, none⟩) (r1.filter p1).length cap1) (r1.filter p1)) (h2 : RdI w' (.slice (some ⟨gn2, 0, none⟩) (r2.filter p2).length cap2) (r2.filter p2)) => roomOf_any h1 h2 (by omega) (by omega))
  have HSP1 : Hid (My.spread p1 r1 (My.mkF (r1.filter p1) (r2.filter p2)).1 = My.spread p1 r1 (My.tb (r1.filter p1).length (My.goA (r1.filter p1) (r2.filter p2) [⟨0, 0, (r1.filter p1).length, (r2.filter p2).length⟩] (fun _ => false)))) := hid (by rw [(whole_box (r1.filter p1) (r2.filter p2)).1])
  have HSP2 : Hid (My.spread p2 r2 (My.mkF (r1.filter p1) (r2.filter p2)).2 = My.spread p2 r2 (My.tb (r2.filter p2).length (My.goB (r1.filter p1) (r2.filter p2) [⟨0, 0, (r1.filter p1).length, (r2.filter p2).length⟩] (fun _ => false)))) := hid (by rw [(whole_box (r1.filter p1) (r2.filter p2)).2])
  rw [HSP1.out, HSP2.out]
  have s1 : w.cell? ⟨g1, 0, none⟩ = some (.slice (some ⟨gn1, 0, none⟩) (r1.filter p1).length cap1) := cell_of_blk hS1.blk 0
  have s2 : w.cell? ⟨g2, 0, none⟩ = some (.slice (some ⟨gn2, 0, none⟩) (r2.filter p2).length cap2) := cell_of_blk hS2.blk 0
  have hg1 := lt_of_heap hS1.blk
  have hg2 := lt_of_heap hS2.blk
  have hgc1 := hS1.marks.lt
  have hgc2 := hS2.marks.lt
  have hr1 := hS1.nums
  have hr2 := hS2.nums
  obtain ⟨N, hN⟩ : ∃ N, N = r1.filter p1 := ⟨_, rfl⟩
  obtain ⟨M, hM⟩ : ∃ M, M = r2.filter p2 := ⟨_, rfl⟩
  rw [← hN] at s1 hr1 hf1 HRO hc1 HSP1 HSP2 ⊢
  rw [← hM] at s2 hr2 hf2 HRO hc2 HSP1 HSP2 ⊢
  obtain ⟨nN, hnN⟩ : ∃ nN, nN = N.length := ⟨_, rfl⟩
  obtain ⟨nM, hnM⟩ : ∃ nM, nM = M.length := ⟨_, rfl⟩
  rw [← hnN] at s1 HRO hf1 hc1 ⊢
  rw [← hnM] at s2 HRO hf2 hc2 ⊢
  obtain ⟨R, hR⟩ : ∃ R, R = nN + nM + 3 := ⟨_, rfl⟩
  have HRR := hid hR
  have hRl : R ≤ 4000003 := by omega
  rw [← hR] at HRO
  obtain ⟨GA, hGA⟩ : ∃ GA, My.goA N M [⟨0, 0, nN, nM⟩] (fun _ => false) = GA := ⟨_, rfl⟩
  obtain ⟨GB, hGB⟩ : ∃ GB, My.goB N M [⟨0, 0, nN, nM⟩] (fun _ => false) = GB := ⟨_, rfl⟩
  rw [hGA, hGB]
  have HGA := hid hGA
  have HGB := hid hGB
  clear hGA hGB HSP1 HSP2
  have hmR := mkR R (by omega)
  obtain ⟨RC, hRC⟩ : ∃ RC, RC = madeCells (Value.agg #[.int .i64 0, .int .i64 0]).cells (R * 2) := ⟨_, rfl⟩
  rw [← hRC] at hmR
  have HRC := hid hRC
  have HR1 := hid hr1
  have HR2 := hid hr2
  have HNN := hid hN
  have HMM := hid hM
  have HnN := hid hnN
  have HnM := hid hnM
  clear hRC hR hN hM hnN hnM hS1 hS2 hr1 hr2
  rw [← HnN.out] at HR1
  rw [← HnM.out] at HR2
  go_enter Try.func23, Try.ntmps23
  go_wp2_with fail
  go_region_held3 (fun w' => w'.cell? ⟨g1, 0, none⟩ = some (.slice (some ⟨gn1, 0, none⟩) nN cap1) ∧ w'.cell? ⟨g2, 0, none⟩ = some (.slice (some ⟨gn2, 0, none⟩) nM cap2))
    (first | go_keep)
    (first
      | (go_at_call 28; refine (HRO.out _ ?_ ?_).mono ?_; exact HR1.out; exact HR2.out; rintro e w2 ⟨rfl, hw2⟩; subst w2))
  go_upto_region 1 with fail
  have hb0 : Below w.heap.size w (w.alloc (.cells RC 62)).drew := ((Below.refl w.heap.size w).alloc (Nat.le_refl _) _).drew
  have HRM : Hid (Room (w.alloc (.cells RC 62)).drew w.heap.size R) := hid ⟨RC, heap_alloc_new w _, by rw [HRC.out]; exact size_madeCells _ _⟩
  have hsz : (w.alloc (.cells RC 62)).drew.heap.size = w.heap.size + 1 := by show (w.alloc (.cells RC 62)).heap.size = _; simp
  have HKW : Hid (Kept (fun j => j = gc1 ∨ j = gc2) w (w.alloc (.cells RC 62)).drew) := hid (Kept.of_below hb0)
  have t1 : (w.alloc (.cells RC 62)).drew.cell? ⟨g1, 0, none⟩ = some (.slice (some ⟨gn1, 0, none⟩) nN cap1) := (hb0.cell (p := ⟨g1, 0, none⟩) hg1).trans s1
  have t2 : (w.alloc (.cells RC 62)).drew.cell? ⟨g2, 0, none⟩ = some (.slice (some ⟨gn2, 0, none⟩) nM cap2) := (hb0.cell (p := ⟨g2, 0, none⟩) hg2).trans s2
  have k0 : Kept (fun _ => False) w (w.alloc (.cells RC 62)).drew := Kept.of_below hb0
  have HT1 := hid (HS1.out.kept k0 (fun h => h) (fun h => h) (fun h => h) (fun h => h))
  have HT2 := hid (HS2.out.kept k0 (fun h => h) (fun h => h) (fun h => h) (fun h => h))
  obtain ⟨gr, hgr⟩ : ∃ gr, gr = w.heap.size := ⟨_, rfl⟩
  rw [← hgr] at HRM hsz hg1 hg2 hgc1 hgc2 hlt ⊢
  have HGR := hid hgr
  generalize (w.alloc (.cells RC 62)).drew = w2 at HRM hsz HKW t1 t2 HT1 HT2 ⊢
  clear hb0 k0 s1 s2 HS1 HS2 HRO hmR HRC HR1 HR2 hgr
  go_region
  have hb1 : Below w2.heap.size w2 (w2.alloc (.cells #[.int .i64 0, .int .i64 0, .int .i64 nN, .int .i64 nM] 54)).drew := ((Below.refl w2.heap.size w2).alloc (Nat.le_refl _) _).drew
  have HX0 : Hid (OwnX (w2.alloc (.cells #[.int .i64 0, .int .i64 0, .int .i64 nN, .int .i64 nM] 54)).drew w2.heap.size (.slice (some ⟨w2.heap.size, 0, none⟩) 1 1) [⟨0, 0, nN, nM⟩]) := hid ⟨rfl, .inr ⟨w2.heap.size, 1, #[.int .i64 0, .int .i64 0, .int .i64 nN, .int .i64 nM], rfl, Nat.le_refl _, heap_alloc_new w2 _, Nat.le_refl _, by unfold maxLen; omega, rfl, rfl⟩⟩
  have HB1 := hid hb1
  obtain ⟨B, hB⟩ : ∃ B, B = gr + 1 := ⟨_, rfl⟩
  rw [hsz, ← hB] at HX0 HB1
  rw [← hB] at hsz ⊢
  have HBE := hid hB
  generalize (w2.alloc (.cells #[.int .i64 0, .int .i64 0, .int .i64 nN, .int .i64 nM] 54)).drew = w3 at HX0 HB1 ⊢
  have k1 : Kept (fun _ => False) w2 w3 := Kept.of_below (by rw [hsz]; exact HB1.out)
  have HK3 : Hid (Kept (fun j => j = gc1 ∨ j = gc2 ∨ j = gr) w2 w3) := hid (Kept.of_below (by rw [hsz]; exact HB1.out))
  have HU1 := hid (HT1.out.kept k1 (fun h => h) (fun h => h) (fun h => h) (fun h => h))
  have HU2 := hid (HT2.out.kept k1 (fun h => h) (fun h => h) (fun h => h) (fun h => h))
  have HRM3 : Hid (Room w3 gr R) := hid (HRM.out.far (k1.block gr (by omega) (fun h => h)))
  obtain ⟨a1, ha1⟩ : ∃ a1 : Option Addr, a1 = some ⟨gn1, 0, none⟩ := ⟨_, rfl⟩
  obtain ⟨a2, ha2⟩ : ∃ a2 : Option Addr, a2 = some ⟨gn2, 0, none⟩ := ⟨_, rfl⟩
  have HA1 := hid ha1
  have HA2 := hid ha2
  have hgB : gr < B := by omega
  have hg1B : g1 < B := by omega
  have hg2B : g2 < B := by omega
  obtain ⟨W0, hW0⟩ : ∃ W0, W0 = wtS [⟨0, 0, nN, nM⟩] := ⟨_, rfl⟩
  have hW0l : W0 ≤ 16000000 := by
    rw [hW0]
    unfold wtS wtB
    simp
    split <;> omega
  have HW0 := hid hW0
  clear hb1 t1 t2 hB k1 HT1 HT2 HRM HB1 ha1 ha2 hW0
  go_wp2_with fail
  go_loopg [5] W0 (fun k b wr => ∃ (st : List Ch) (m1 m2 : Nat → Bool), k = wtS st ∧ k ≤ 16000000 ∧ Hid (∀ c ∈ st, BoxIn nN nM c) ∧ Hid (OwnX wr B b st) ∧ Hid (Kept (fun j => j = gc1 ∨ j = gc2 ∨ j = gr) w2 wr) ∧ Hid (Room wr gr R) ∧ Hid (Side wr g1 gn1 gp1 gc1 cap1 r1 p1 m1) ∧ Hid (Side wr g2 gn2 gp2 gc2 cap2 r2 p2 m2) ∧ Hid (My.goA N M st m1 = GA) ∧ Hid (My.goB N M st m2 = GB))
  case atStart => exact ⟨[⟨0, 0, nN, nM⟩], _, _, HW0.out, hW0l, hid (fun c hc => by rw [List.mem_singleton.1 hc]; exact ⟨by simp, by simp, by simp, by simp, by simp, by simp⟩), HX0, HK3, HRM3, HU1, HU2, HGA, HGB⟩
  case round =>
    clear HX0 HK3 HRM3 HU1 HU2 HGA HGB
    obtain ⟨st, m1, m2, hgk, hgl, HIN, HX, HK, HRM, HS1, HS2, HGA, HGB⟩ := hrel
    rcases List.eq_nil_or_concat st with rfl | ⟨s, c, rfl⟩
    · obtain ⟨ab, cb, eb⟩ := own_shape HX.out
      subst eb
      have HM1 : Hid (m1 = GA) := HGA
      have HM2 : Hid (m2 = GB) := HGB
      clear HGA HGB
      go_wp2
      refine bodyPost_end (v := .tuple #[]) (by simp [results, Try.results23]) rfl ⟨rfl, ?_, ?_, ?_⟩
      · have h := HKW.out
        have hg := HGR.out
        exact ⟨HK.out.os.trans h.os, HK.out.tape.trans h.tape, HK.out.output.trans h.output, Nat.le_trans h.size HK.out.size, fun g hg0 hx => (HK.out.block g (Nat.lt_of_lt_of_le hg0 h.size) (fun e => by rcases e with e | e | e; exact hx (.inl e); exact hx (.inr e); omega)).trans (h.block g hg0 hx)⟩
      · have h := HS1.out.marks
        rw [← HNN.out, ← HnN.out, HM1.out] at h
        exact h
      · have h := HS2.out.marks
        rw [← HMM.out, ← HnM.out, HM2.out] at h
        exact h
    · rw [List.concat_eq_append] at hgk HIN HX HGA HGB
      obtain ⟨ab, cb, eb⟩ := own_shape HX.out
      subst eb
      have hcb : s.length + 1 ≤ cb := by have h := rd_cap (own_rd HX.out); simpa using h
      obtain ⟨h1, h2, h3, h4, h5, h6⟩ := HIN.out c (by simp)
      obtain ⟨b1, o1, rfl, hb1l, d0, d1, d2, d3⟩ := rdC_at (k := s.length) (x := c) (own_rd HX.out) (by simp)
      rcases c with ⟨cx, cy, cX, cY⟩
      simp only at h1 h2 h3 h4 h5 h6 d0 d1 d2 d3
      obtain ⟨x, rfl⟩ : ∃ x : Nat, cx = (x : Int) := ⟨cx.toNat, by omega⟩
      obtain ⟨y, rfl⟩ : ∃ y : Nat, cy = (y : Int) := ⟨cy.toNat, by omega⟩
      obtain ⟨X, rfl⟩ : ∃ X : Nat, cX = (X : Int) := ⟨cX.toNat, by omega⟩
      obtain ⟨Y, rfl⟩ : ∃ Y : Nat, cY = (Y : Int) := ⟨cY.toNat, by omega⟩
      have hsl : s.length + 1 ≤ 16000001 := by
        have : ∀ l : List Ch, l.length ≤ wtS l := by
          intro l
          induction l with
          | nil => exact Nat.zero_le _
          | cons c l ih =>
            have := wtB_pos c
            unfold wtS at ih ⊢
            simp only [List.map_cons, List.sum_cons, List.length_cons]
            omega
        have h := this s
        have h' := wtS_app s [⟨x, y, X, Y⟩]
        omega
      have hle : (s ++ [(⟨x, y, X, Y⟩ : Ch)]).length = s.length + 1 := by simp
      rw [hle] at HX ⊢
      obtain ⟨L, hL⟩ : ∃ L, L = s.length := ⟨_, rfl⟩
      rw [← hL] at d0 d1 d2 d3 hsl hcb ⊢
      have HL := hid hL
      have i1 : IntKind.i64.wrap (((L + 1 : Nat) : Int) - 1) = (L : Int) := (wrapOk (by omega) (by omega)).trans (by omega)
      have i2 : (0 : Int) ≤ (L : Int) := by omega
      have i3 : (L : Int) < ((L + 1 : Nat) : Int) := by omega
      have i5 : (L : Int) ≤ (cb : Int) := by omega
      have i4 : (0 : Int) < ((L + 1 : Nat) : Int) := by omega
      have hle1 : x ≤ X := by omega
      have hle2 : X ≤ nN := by omega
      have hle3 : y ≤ Y := by omega
      have hle4 : Y ≤ nM := by omega
      clear hle hL h1 h2 h3 h4 h5 h6
      go_upto_region 6 with fail
      obtain ⟨XB, hXB⟩ : ∃ XB, XB = Obj.cells #[.int .i64 x, .int .i64 y, .int .i64 X, .int .i64 Y] 54 (0, 0) := ⟨_, rfl⟩
      have hbA : Below wr.heap.size wr (wr.alloc XB) := (Below.refl _ _).alloc (Nat.le_refl _) _
      have kA : Kept (fun _ => False) wr (wr.alloc XB) := Kept.of_below hbA
      have HSA1 := hid (HS1.out.kept kA (fun h => h) (fun h => h) (fun h => h) (fun h => h))
      have HSA2 := hid (HS2.out.kept kA (fun h => h) (fun h => h) (fun h => h) (fun h => h))
      have HRA : Hid (Room (wr.alloc XB) gr R) := hid (HRM.out.far (hbA.block gr HRM.out.lt))
      have HKA : Hid (Kept (fun j => j = gc1 ∨ j = gc2 ∨ j = gr) w2 (wr.alloc XB)) := hid (HK.out.step kA (fun _ h => h.elim))
      have HXA : Hid (OwnX (wr.alloc XB) B (.slice (some ⟨b1, o1, none⟩) L cb) s) := hid (by
        rw [HL.out]
        exact ownX_pop (own_stays HX.out hbA))
      have HBX : Hid ((wr.alloc XB).heap[wr.heap.size]? = some (.cells #[.int .i64 x, .int .i64 y, .int .i64 X, .int .i64 Y] 54)) := hid (by
        have h := heap_alloc_new wr XB
        rw [hXB] at h ⊢
        exact h)
      rw [← hXB]
      obtain ⟨ga, hgaE⟩ : ∃ ga, ga = wr.heap.size := ⟨_, rfl⟩
      rw [← hgaE] at HBX ⊢
      have hgaA : ga < (wr.alloc XB).heap.size := by rw [hgaE]; simp
      have hBga : B ≤ ga := by rw [hgaE, ← hsz]; exact HK.out.size
      generalize wr.alloc XB = wA at HSA1 HSA2 HRA HKA HXA hgaA HBX ⊢
      clear HX HS1 HS2 HRM HK kA hbA hXB d0 d1 d2 d3 i1 i2 i3 i4 i5 hgaE hb1l
      have y0 : wA.cell? ⟨ga, 0, none⟩ = some (.int .i64 x) := cell_of_blk HBX.out 0
      have y1 : wA.cell? ⟨ga, 1, none⟩ = some (.int .i64 y) := cell_of_blk HBX.out 1
      have y2 : wA.cell? ⟨ga, 2, none⟩ = some (.int .i64 X) := cell_of_blk HBX.out 2
      have y3 : wA.cell? ⟨ga, 3, none⟩ = some (.int .i64 Y) := cell_of_blk HBX.out 3
      have t1 : wA.cell? ⟨g1, 0, none⟩ = some (.slice a1 nN cap1) := by have h := cell_of_blk HSA1.out.blk 0; rw [← HNN.out, ← HnN.out, ← HA1.out] at h; exact h
      have t2 : wA.cell? ⟨g2, 0, none⟩ = some (.slice a2 nM cap2) := by have h := cell_of_blk HSA2.out.blk 0; rw [← HMM.out, ← HnM.out, ← HA2.out] at h; exact h
      obtain ⟨A1, hA1⟩ : ∃ A1, (if cap1 = x then a1 else a1.map (·.add x)) = A1 := ⟨_, rfl⟩
      obtain ⟨A2, hA2⟩ : ∃ A2, (if cap2 = y then a2 else a2.map (·.add y)) = A2 := ⟨_, rfl⟩
      have hsub1 : SubOf gn1 A1 := by rw [← hA1]; exact SubOf.part ⟨0, HA1.out⟩ _ _
      have hsub2 : SubOf gn2 A2 := by rw [← hA2]; exact SubOf.part ⟨0, HA2.out⟩ _ _
      have hn1 := HSA1.out.nums
      have hn2 := HSA2.out.nums
      rw [← HNN.out, ← HnN.out, ← HA1.out] at hn1
      rw [← HMM.out, ← HnM.out, ← HA2.out] at hn2
      have hra := rdI_part hn1 HnN.out hle1 (by rw [← HnN.out]; exact hle2)
      have hrb := rdI_part hn2 HnM.out hle3 (by rw [← HnM.out]; exact hle4)
      rw [hA1] at hra
      rw [hA2] at hrb
      obtain ⟨a, ha⟩ : ∃ a, a = My.cut N x X := ⟨_, rfl⟩
      obtain ⟨b, hb⟩ : ∃ b, b = My.cut M y Y := ⟨_, rfl⟩
      have hal : a.length = X - x := by rw [ha]; unfold My.cut; rw [List.length_take, List.length_drop, ← HnN.out]; omega
      have hbl : b.length = Y - y := by rw [hb]; unfold My.cut; rw [List.length_take, List.length_drop, ← HnM.out]; omega
      have HRa : Hid (RdI wA (.slice A1 (X - x) (cap1 - x)) a) := hid (by rw [ha]; exact hra)
      have HRb : Hid (RdI wA (.slice A2 (Y - y) (cap2 - y)) b) := hid (by rw [hb]; exact hrb)
      have HAC := hid ha
      have HBC := hid hb
      have HSU1 := hid hsub1
      have HSU2 := hid hsub2
      have j1 : (0 : Int) ≤ (x : Int) := by omega
      have j2 : (x : Int) ≤ (X : Int) := by omega
      have j3 : (X : Int) ≤ (cap1 : Int) := by omega
      have j4 : (0 : Int) ≤ (y : Int) := by omega
      have j5 : (y : Int) ≤ (Y : Int) := by omega
      have j6 : (Y : Int) ≤ (cap2 : Int) := by omega
      have HALL := hid hal
      have HBLL := hid hbl
      clear hn1 hn2 hra hrb ha hb hal hbl hsub1 hsub2
      go_quiet (fail)
      clear j1 j2 j3 j4 j5 j6 hA1 hA2 t1 t2
      go_upto_region 7 with fail
      have kB : Kept (fun _ => False) wA (wA.drewN nq) := (Kept.refl _ _).drewN nq
      have HRaB : Hid (RdI (wA.drewN nq) (.slice A1 (X - x) (cap1 - x)) a) := hid (by
        have h := HRa.out
        unfold RdI at h ⊢
        rw [HALL.out] at h ⊢
        exact h.kept kB (fun _ _ _ h => h))
      have HRbB : Hid (RdI (wA.drewN nq) (.slice A2 (Y - y) (cap2 - y)) b) := hid (by
        have h := HRb.out
        unfold RdI at h ⊢
        rw [HBLL.out] at h ⊢
        exact h.kept kB (fun _ _ _ h => h))
      have HKB := hid kB
      clear kB y0 y1 y2 y3
      have HHL := hid (My.hd_le a b)
      have HTL := hid (My.tl_le a b (My.hd a b))
      have HCL := hid (My.cm_len a b)
      have HSE := hid (sameEnds_any HRaB.out HRbB.out (by rw [HALL.out]; omega) (by rw [HBLL.out]; omega))
      obtain ⟨H, hH⟩ : ∃ H, H = My.hd a b := ⟨_, rfl⟩
      obtain ⟨T, hT⟩ : ∃ T, T = My.tl a b H := ⟨_, rfl⟩
      rw [← hH] at HSE HHL HTL HCL
      rw [← hT] at HSE HTL HCL
      have HHH := hid hH
      have HTT := hid hT
      clear hH hT
      go_upto_region 8 with (go_at_call 21; refine HSE.out.mono ?_; rintro e wC ⟨rfl, hbC⟩; have HKC := hid (HKB.out.step (Kept.of_below (X := fun _ => False) hbC) (fun _ h => .inl h)); clear hbC)
      clear HRaB HRbB HKB HSE
      obtain ⟨hh1, hh2⟩ := HHL.out
      obtain ⟨ht1, ht2⟩ := HTL.out
      have hal := HALL.out
      have hbl := HBLL.out
      rw [hal] at hh1 ht1
      rw [hbl] at hh2 ht2
      have HSC1 := hid (HSA1.out.kept HKC.out (fun h => h) (fun h => h) (fun h => h) (fun h => h))
      have HSC2 := hid (HSA2.out.kept HKC.out (fun h => h) (fun h => h) (fun h => h) (fun h => h))
      have HRC2 : Hid (Room wC gr R) := hid (HRA.out.far (HKC.out.block gr HRA.out.lt (fun h => h)))
      have HKC2 : Hid (Kept (fun j => j = gc1 ∨ j = gc2 ∨ j = gr) w2 wC) := hid (HKA.out.step HKC.out (fun _ h => h.elim))
      have HXC : Hid (OwnX wC B (.slice (some ⟨b1, o1, none⟩) L cb) s) := hid (own_far HXA.out (fun g hg => HKC.out.block g (own_lt HXA.out g hg) (fun h => h)))
      have HBXC : Hid (wC.heap[ga]? = some (.cells #[.int .i64 x, .int .i64 y, .int .i64 X, .int .i64 Y] 54)) := hid ((HKC.out.block ga hgaA (fun h => h)).trans HBX.out)
      have hgaC : ga < wC.heap.size := Nat.lt_of_lt_of_le hgaA HKC.out.size
      have hrac : RdX wC (.slice A1 (X - x) (cap1 - x)) (X - x) (isC a) := by
        have h := HRa.out
        unfold RdI at h
        rw [hal] at h
        exact h.kept HKC.out (fun _ _ _ h => h)
      have hrbc : RdX wC (.slice A2 (Y - y) (cap2 - y)) (Y - y) (isC b) := by
        have h := HRb.out
        unfold RdI at h
        rw [hbl] at h
        exact h.kept HKC.out (fun _ _ _ h => h)
      obtain ⟨E1, hE1⟩ : ∃ E1, E1 = X - x - T := ⟨_, rfl⟩
      obtain ⟨E2, hE2⟩ : ∃ E2, E2 = Y - y - T := ⟨_, rfl⟩
      obtain ⟨D1, hD1⟩ : ∃ D1, (if cap1 - x = H then A1 else A1.map (·.add H)) = D1 := ⟨_, rfl⟩
      obtain ⟨D2, hD2⟩ : ∃ D2, (if cap2 - y = H then A2 else A2.map (·.add H)) = D2 := ⟨_, rfl⟩
      have HSD1 : Hid (SubOf gn1 D1) := hid (by rw [← hD1]; exact HSU1.out.part _ _)
      have HSD2 : Hid (SubOf gn2 D2) := hid (by rw [← hD2]; exact HSU2.out.part _ _)
      have hpa := rdI_part (l := a) (n := X - x) (by rw [← hal] at hrac ⊢; exact hrac) hal.symm (x := H) (y := E1) (by omega) (by omega)
      have hpb := rdI_part (l := b) (n := Y - y) (by rw [← hbl] at hrbc ⊢; exact hrbc) hbl.symm (x := H) (y := E2) (by omega) (by omega)
      rw [hD1] at hpa
      rw [hD2] at hpb
      obtain ⟨ca, hca⟩ : ∃ ca, ca = My.cm a b a := ⟨_, rfl⟩
      obtain ⟨cc, hcc⟩ : ∃ cc, cc = My.cm a b b := ⟨_, rfl⟩
      have hcal : ca.length = E1 - H := by rw [hca, HCL.out.1, hal]; omega
      have hccl : cc.length = E2 - H := by rw [hcc, HCL.out.2, hbl]; omega
      have HPA : Hid (RdI wC (.slice D1 (E1 - H) (cap1 - x - H)) ca) := hid (by
        rw [hca]
        unfold My.cm
        rw [← HHH.out, ← HTT.out, hal, show X - x - H - T = E1 - H by omega]
        exact hpa)
      have HPB : Hid (RdI wC (.slice D2 (E2 - H) (cap2 - y - H)) cc) := hid (by
        rw [hcc]
        unfold My.cm
        rw [← HHH.out, ← HTT.out, hbl, show Y - y - H - T = E2 - H by omega]
        exact hpb)
      have HCA := hid hca
      have HCC := hid hcc
      have HCAL := hid hcal
      have HCCL := hid hccl
      have hTx : T ≤ X - x := by omega
      have hTy : T ≤ Y - y := by omega
      have i1 : IntKind.i64.wrap (((X - x : Nat) : Int) - (T : Int)) = (E1 : Int) := (wrapOk (by omega) (by omega)).trans (by omega)
      have i2 : IntKind.i64.wrap (((Y - y : Nat) : Int) - (T : Int)) = (E2 : Int) := (wrapOk (by omega) (by omega)).trans (by omega)
      have i3 : (0 : Int) ≤ (H : Int) := by omega
      have i4 : (H : Int) ≤ (E1 : Int) := by omega
      have i5 : (E1 : Int) ≤ ((cap1 - x : Nat) : Int) := by omega
      have i6 : (H : Int) ≤ (E2 : Int) := by omega
      have i7 : (E2 : Int) ≤ ((cap2 - y : Nat) : Int) := by omega
      have hHE1 : H ≤ E1 := by omega
      have hHE2 : H ≤ E2 := by omega
      have hEX1 : x + E1 ≤ nN := by omega
      have hEX2 : y + E2 ≤ nM := by omega
      have HE1 := hid hE1
      have HE2 := hid hE2
      clear hca hcc hcal hccl hpa hpb hrac hrbc hal hbl hh1 hh2 ht1 ht2 HRa HRb HSA1 HSA2 HRA HKA HXA HBX hgaA HKC hE1 hE2
      go_quiet (fail)
      clear i1 i2 i3 i4 i5 i6 i7 hD1 hD2
      obtain ⟨n8, hn8⟩ : ∃ n8, n8 = nq := ⟨_, rfl⟩
      rw [← hn8]
      clear hn8
      obtain ⟨la, hla⟩ : ∃ la, E1 - H = la := ⟨_, rfl⟩
      obtain ⟨lb, hlb⟩ : ∃ lb, E2 - H = lb := ⟨_, rfl⟩
      obtain ⟨q1, hq1⟩ : ∃ q1, cap1 - x - H = q1 := ⟨_, rfl⟩
      obtain ⟨q2, hq2⟩ : ∃ q2, cap2 - y - H = q2 := ⟨_, rfl⟩
      rw [hla, hq1] at HPA
      rw [hlb, hq2] at HPB
      rw [hla] at HCAL
      rw [hlb] at HCCL
      rw [hla, hlb, hq1, hq2]
      have hm1 : la + H = E1 := by omega
      have hm2 : lb + H = E2 := by omega
      clear hla hlb hq1 hq2
      obtain ⟨x1, hx1⟩ : ∃ x1, x1 = x + H := ⟨_, rfl⟩
      obtain ⟨y1, hy1⟩ : ∃ y1, y1 = y + H := ⟨_, rfl⟩
      have y0 : wC.cell? ⟨ga, 0, none⟩ = some (.int .i64 x) := cell_of_blk HBXC.out 0
      have y1c : wC.cell? ⟨ga, 1, none⟩ = some (.int .i64 y) := cell_of_blk HBXC.out 1
      have i1 : IntKind.i64.wrap ((x : Int) + (H : Int)) = (x1 : Int) := (wrapOk (by omega) (by omega)).trans (by omega)
      have i2 : IntKind.i64.wrap ((y : Int) + (H : Int)) = (y1 : Int) := (wrapOk (by omega) (by omega)).trans (by omega)
      have hb1' : x1 + la ≤ nN := by omega
      have hb2' : y1 + lb ≤ nM := by omega
      have hb3' : x ≤ x1 ∧ x1 + la ≤ X := by have := HE1.out; omega
      have hb4' : y ≤ y1 ∧ y1 + lb ≤ Y := by have := HE2.out; omega
      have HX1 := hid hx1
      have HY1 := hid hy1
      have HM1 := hid hm1
      have HM2 := hid hm2
      clear hx1 hy1 hm1 hm2
      go_upto_region 9 with fail
      go_quiet (fail)
      clear i1 i2 y0 y1c
      go_upto_region 10 with fail
      have kD : Kept (fun _ => False) wC ((wC.drewN n8).drewN nq) := ((Kept.refl _ _).drewN _).drewN _
      have HKD := hid kD
      clear kD
      generalize (wC.drewN n8).drewN nq = wD at HKD ⊢
      have HW1 := hid (HSC1.out.kept HKD.out (fun h => h) (fun h => h) (fun h => h) (fun h => h))
      have HW2 := hid (HSC2.out.kept HKD.out (fun h => h) (fun h => h) (fun h => h) (fun h => h))
      have HWR : Hid (Room wD gr R) := hid (HRC2.out.far (HKD.out.block gr HRC2.out.lt (fun h => h)))
      have HWK : Hid (Kept (fun j => j = gc1 ∨ j = gc2 ∨ j = gr) w2 wD) := hid (HKC2.out.step HKD.out (fun _ h => h.elim))
      have HWX : Hid (OwnX wD B (.slice (some ⟨b1, o1, none⟩) L cb) s) := hid (own_far HXC.out (fun g hg => HKD.out.block g (own_lt HXC.out g hg) (fun h => h)))
      have HWA : Hid (RdX wD (.slice D1 la q1) la (isC ca)) := hid (by
        have h := HPA.out
        unfold RdI at h
        rw [HCAL.out] at h
        exact h.kept HKD.out (fun _ _ _ h => h))
      have HWB : Hid (RdX wD (.slice D2 lb q2) lb (isC cc)) := hid (by
        have h := HPB.out
        unfold RdI at h
        rw [HCCL.out] at h
        exact h.kept HKD.out (fun _ _ _ h => h))
      have HGB1 : Hid (∀ g, B ≤ g → ¬ (g = gc1 ∨ g = gc2 ∨ g = gr)) := hid (fun g hg => by omega)
      have HOG : Hid (∀ w' (X : Nat → Prop), (∀ g, X g → g = gc1 ∨ g = gc2 ∨ g = gr) → Kept X wD w' → OwnX w' B (.slice (some ⟨b1, o1, none⟩) L cb) s) := hid (fun w' X hX hk => own_far HWX.out (fun g hg => hk.block g (own_lt HWX.out g hg) (fun hx => HGB1.out g (own_ge HWX.out g hg) (hX g hx))))
      obtain ⟨d1, d2, d3, d4, d5, d6, d7, d8, d9, d10, d11, d12, d13⟩ := hd
      have HBM : Hid (My.bxm N M ⟨x, y, X, Y⟩ = My.mkF a b) := hid (by unfold My.bxm; rw [HAC.out, HBC.out]; rfl)
      have HG1 : Hid (My.orAt (My.goA N M s m1) x (My.mkF a b).1 = GA) := hid (by have h := HGA.out; rw [My.goA_snoc, HBM.out] at h; exact h)
      have HG2 : Hid (My.orAt (My.goB N M s m2) y (My.mkF a b).2 = GB) := hid (by have h := HGB.out; rw [My.goB_snoc, HBM.out] at h; exact h)
      have HGK := hid hgk
      have HFN : Hid ((r1.filter p1).length = nN) := hid (by rw [← HNN.out, ← HnN.out])
      have HFM : Hid ((r2.filter p2).length = nM) := hid (by rw [← HMM.out, ← HnM.out])
      clear HSC1 HSC2 HRC2 HKC2 HXC HBXC HPA HPB HKD HGA HGB hgk
      by_cases hz : la = 0 ∨ lb = 0
      · have HZ : Hid ((My.cm a b a).length = 0 ∨ (My.cm a b b).length = 0) := hid (by rw [← HCA.out, ← HCC.out, HCAL.out, HCCL.out]; exact hz)
        have HC1 := hid (change_side (x := x1) (n := la) HW1.out (by rw [HFN.out]; exact hb1') hl1 d2 d3 d4)
        have HN1 : Hid (My.goA N M s (My.orAt m1 x1 (My.rep la true)) = GA) := hid (by
          rw [My.goA_or, ← HG1.out, (My.mkF_end HZ.out _ _).1, ← HCA.out, HCAL.out, ← HHH.out, ← HX1.out])
        have HN2 : Hid (My.goB N M s (My.orAt m2 y1 (My.rep lb true)) = GB) := hid (by
          rw [My.goB_or, ← HG2.out, (My.mkF_end HZ.out _ _).2, ← HCC.out, HCCL.out, ← HHH.out, ← HY1.out])
        have HIN2 : Hid (∀ c ∈ s, BoxIn nN nM c) := hid (fun c hc => HIN.out c (by simp [hc]))
        have HWT : Hid (wtS s < gk ∧ wtS s ≤ 16000000) := hid (by
          have h := HGK.out
          have h2 := wtB_pos ⟨x, y, X, Y⟩
          rw [wtS_app] at h
          have e : wtS [(⟨x, y, X, Y⟩ : Ch)] = wtB ⟨x, y, X, Y⟩ := by simp [wtS]
          omega)
        go_cut [104] (fun c wx => c = .bool true ∧ wx = wD)
        case first =>
          by_cases hla : la = 0
          · have q0 : ((la : Int) == 0) = true := ieq (by omega)
            clear hla hz
            go_wp2
            go_meet
            exact ⟨rfl, rfl⟩
          · have q0 : ((la : Int) == 0) = false := ine (by omega)
            have q3 : ((lb : Int) == 0) = true := ieq (by omega)
            clear hla hz
            go_wp2
            go_meet
            exact ⟨rfl, rfl⟩
        case rest =>
          obtain ⟨rfl, rfl⟩ := hcut
          clear hz
          go_upto_region 12 with (go_at_call 29; refine HC1.out.mono ?_; rintro e w5 ⟨rfl, k5, s5⟩; have HK5 := hid k5; have HS5 := hid s5; clear k5 s5)
          have HW25 := hid (HW2.out.kept HK5.out d8 d9 d10 (Ne.symm d1))
          have HC2 := hid (change_side (x := y1) (n := lb) HW25.out (by rw [HFM.out]; exact hb2') hl2 d11 d12 d13)
          go_wp2_with (go_at_call 29; refine HC2.out.mono ?_; rintro e w6 ⟨rfl, k6, s6⟩; have HK6 := hid k6; have HS6 := hid s6; clear k6 s6)
          have HS16 := hid (HS5.out.kept HK6.out d5 d6 d7 d1)
          have HK56 := hid ((Kept.step (X := fun j => j = gc1 ∨ j = gc2 ∨ j = gr) ((Kept.refl _ _).step HK5.out (fun _ h => .inl (.inl h))) HK6.out (fun _ h => .inl (.inr (.inl h)))))
          have HKE := hid (HWK.out.step HK56.out (fun _ h => .inl h))
          have HRE := hid ((HWR.out.far (HK5.out.block gr HWR.out.lt (by omega))).far (HK6.out.block gr (HWR.out.far (HK5.out.block gr HWR.out.lt (by omega))).lt (by omega)))
          have HXE := hid (HOG.out _ _ (fun _ h => h) HK56.out)
          go_roundg (wtS s)
          case measure => exact HWT.out.1
          case rel => exact ⟨s, _, _, rfl, HWT.out.2, HIN2, HXE, HKE, HRE, HS16, HS6, HN1, HN2⟩
      · obtain ⟨u, v, hu1, hv1, hu, hv, hp1, hp2, hN1, hN2⟩ := split_box HAC.out HBC.out HALL.out HBLL.out HHH.out HTT.out HE1.out HE2.out HM1.out HM2.out HX1.out HY1.out HCA.out HCC.out HCAL.out HCCL.out hz HG1.out HG2.out
        have hgn1 : gn1 ≠ gr := by omega
        have hgn2 : gn2 ≠ gr := by omega
        have HMP := hid (middle_any (w := wD) (gr := gr) (nR := R) (cap := R) (va := .slice D1 la q1) (vb := .slice D2 lb q2) (a := ca) (b := cc) (by show RdX _ _ ca.length _; rw [HCAL.out]; exact HWA.out) (by show RdX _ _ cc.length _; rw [HCCL.out]; exact HWB.out) HWR.out
          (fun g o n c e => by injection e with e1 _ _; rw [HSD1.out.block e1]; exact hgn1) (fun g o n c e => by injection e with e1 _ _; rw [HSD2.out.block e1]; exact hgn2) (by rw [HCAL.out, HCCL.out, HRR.out]; omega) (Nat.le_refl _) (by rw [HCAL.out]; omega) (by rw [HCCL.out]; omega))
        rw [hu1, hv1] at HMP
        obtain ⟨xm, hxm⟩ : ∃ xm, xm = x1 + u := ⟨_, rfl⟩
        obtain ⟨ym, hym⟩ : ∃ ym, ym = y1 + v := ⟨_, rfl⟩
        obtain ⟨xe, hxe⟩ : ∃ xe, xe = x1 + la := ⟨_, rfl⟩
        obtain ⟨ye, hye⟩ : ∃ ye, ye = y1 + lb := ⟨_, rfl⟩
        rw [← hxm, ← hym, ← hxe, ← hye] at hN1 hN2
        have HN1 := hid hN1
        have HN2 := hid hN2
        clear hN1 hN2 hu1 hv1
        have HWT : Hid (wtS (s ++ [⟨x1, y1, xm, ym⟩, ⟨xm, ym, xe, ye⟩]) < gk ∧ wtS (s ++ [⟨x1, y1, xm, ym⟩, ⟨xm, ym, xe, ye⟩]) ≤ 16000000) := hid (by
          have h := wtS_two (s := s) (x := x) (y := y) (X := X) (Y := Y) (x1 := x1) (y1 := y1) (xm := xm) (ym := ym) (xe := xe) (ye := ye) (by omega) (by omega) (by omega) (by omega) (by omega) (by omega) (by omega) (by omega) (by omega) (by omega)
          rw [← HGK.out] at h
          omega)
        have HIN2 : Hid (∀ c ∈ s ++ [(⟨x1, y1, xm, ym⟩ : Ch), ⟨xm, ym, xe, ye⟩], BoxIn nN nM c) := hid (fun c hc => by
          rcases List.mem_append.1 hc with h | h
          · exact HIN.out c (by simp [h])
          · rcases List.mem_cons.1 h with rfl | h
            · exact ⟨by simp, by simp; omega, by simp; omega, by simp, by simp; omega, by simp; omega⟩
            · rw [List.mem_singleton.1 h]
              exact ⟨by simp, by simp; omega, by simp; omega, by simp, by simp; omega, by simp; omega⟩)
        have i1 : IntKind.i64.wrap ((x1 : Int) + (u : Int)) = (xm : Int) := (wrapOk (by omega) (by omega)).trans (by omega)
        have i2 : IntKind.i64.wrap ((y1 : Int) + (v : Int)) = (ym : Int) := (wrapOk (by omega) (by omega)).trans (by omega)
        have i3 : IntKind.i64.wrap ((x1 : Int) + (la : Int)) = (xe : Int) := (wrapOk (by omega) (by omega)).trans (by omega)
        have i4 : IntKind.i64.wrap ((y1 : Int) + (lb : Int)) = (ye : Int) := (wrapOk (by omega) (by omega)).trans (by omega)
        clear hxm hym hxe hye hu hv hp1 hp2
        go_cut [104] (fun c wx => c = .bool false ∧ wx = wD)
        case first =>
          have q0 : ((la : Int) == 0) = false := ine (by omega)
          have q3 : ((lb : Int) == 0) = false := ine (by omega)
          clear hz
          go_wp2
          go_meet
          exact ⟨rfl, rfl⟩
        case rest =>
          obtain ⟨rfl, rfl⟩ := hcut
          clear hz
          go_upto_region 14 with (go_at_call 30; refine HMP.out.mono ?_; rintro e w5 ⟨rfl, k5, r5⟩; have HK5 := hid k5; have HR5 := hid r5; clear k5 r5)
          have HWX5 : Hid (OwnX w5 B (.slice (some ⟨b1, o1, none⟩) L cb) s) := hid (HOG.out _ _ (fun _ h => .inr (.inr h)) HK5.out)
          have hB5 : B ≤ w5.heap.size := Nat.le_trans (by rw [← hsz]; exact HWK.out.size) HK5.out.size
          have HS15 := hid (HW1.out.kept HK5.out (by omega) (by omega) (by omega) (by omega))
          have HS25 := hid (HW2.out.kept HK5.out (by omega) (by omega) (by omega) (by omega))
          have HK5W := hid (HWK.out.step HK5.out (fun _ h => .inl (.inr (.inr h))))
          obtain ⟨X8, hX8⟩ : ∃ X8, X8 = Obj.cells #[.int .i64 (x1 : Int), .int .i64 (y1 : Int), .int .i64 (xm : Int), .int .i64 (ym : Int), .int .i64 (xm : Int), .int .i64 (ym : Int), .int .i64 (xe : Int), .int .i64 (ye : Int)] 54 (0, 0) := ⟨_, rfl⟩
          have hb8 : Below w5.heap.size w5 (w5.alloc X8) := (Below.refl _ _).alloc (Nat.le_refl _) _
          have HX8 := hid (own_stays HWX5.out hb8)
          have HC8 : Hid ((w5.alloc X8).heap[w5.heap.size]? = some X8) := hid (heap_alloc_new w5 X8)
          have HB8 := hid hb8
          have HSL : Hid (s.length ≤ 1000000000) := hid (by rw [← HL.out]; omega)
          clear hb8
          rw [hX8] at HX8 HC8 HB8
          clear hX8
          go_wp2_with (at_builtin; refine wpList_append_bx rfl _ _ rfl B (.slice (some ⟨b1, o1, none⟩) L cb) s rfl HX8.out w5.heap.size ⟨(x1 : Int), (y1 : Int), (xm : Int), (ym : Int)⟩ ⟨(xm : Int), (ym : Int), (xe : Int), (ye : Int)⟩ rfl HC8.out HSL.out (Nat.le_trans hB5 HB8.out.size) ?_; intro v9 w9 hO9 hb9; have HO9 := hid hO9; have HB9 := hid hb9; clear hO9 hb9)
          have k9 : Kept (fun j => B ≤ j) w5 w9 := ⟨HB9.out.os.trans HB8.out.os, HB9.out.tape.trans HB8.out.tape, HB9.out.output.trans HB8.out.output, Nat.le_trans HB8.out.size HB9.out.size, fun g hg hx => (HB9.out.block g (Nat.lt_of_not_le hx)).trans (HB8.out.block g hg)⟩
          have HS19 := hid (HS15.out.kept k9 (by omega) (by omega) (by omega) (by omega))
          have HS29 := hid (HS25.out.kept k9 (by omega) (by omega) (by omega) (by omega))
          have HR9 : Hid (Room w9 gr R) := hid (HR5.out.far (k9.block gr HR5.out.lt (by omega)))
          have HK9 : Hid (Kept (fun j => j = gc1 ∨ j = gc2 ∨ j = gr) w2 w9) := hid (HK5W.out.step k9 (fun j hj => .inr (by omega)))
          clear k9
          go_roundg (wtS (s ++ [⟨x1, y1, xm, ym⟩, ⟨xm, ym, xe, ye⟩]))
          case measure => exact HWT.out.1
          case rel => exact ⟨s ++ [⟨x1, y1, xm, ym⟩, ⟨xm, ym, xe, ye⟩], m1, m2, rfl, HWT.out.2, HIN2, HO9, HK9, HR9, HS19, HS29, HN1, HN2⟩
end Go.Proofs.Ytpedbnghhmnjjaa
