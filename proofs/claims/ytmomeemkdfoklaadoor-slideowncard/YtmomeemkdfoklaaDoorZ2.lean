/-
  The walks of newTrack and slid.
-/
import Derived.Test.YtmomeemkdfoklaaDoorZ1
namespace Go.Proofs.YtmomeemkdfoklaaDoor
open Go.RowKit
open Ed (Ch Run Pr)
open Go.Maps (Keyed Tidy)

theorem Kept.more {X Y : Nat → Prop} {w w' : World} (h : Kept X w w') (hXY : ∀ j, X j → Y j) : Kept Y w w' := ⟨h.os, h.tape, h.output, h.size, fun j hj hy => h.block j hj (fun hx => hy (hXY j hx))⟩
theorem mkMap0 (w : World) : (Instr.makeMap 73 none).run Tryd.prog w = .ok (.map (some w.heap.size)) (w.alloc (.map #[] 0)) := by first | rfl | kernel_rfl
set_option maxHeartbeats 1000000 in
theorem newTrack_any (w : World) (av : Option Addr) (nv cv : Nat) : Calls Tryd.prog 18 #[.slice av nv cv] w fun e w' => e = .returned (.pointer (some ⟨w.heap.size + 1, 0, none⟩)) ∧ TrkAt w' (w.heap.size + 1) w.heap.size 0 (.slice av nv cv) (fun _ => 0) ∧ w'.heap.size = w.heap.size + 2 ∧ Below w.heap.size w w' := by
  have hmm := mkMap0 w
  go_enter Tryd.func18, Tryd.ntmps18
  go_wp2
  go_ret
  refine ⟨rfl, ⟨?_, ?_⟩, by simp, ((Below.refl _ _).alloc (Nat.le_refl _) _).alloc (by simp) _⟩
  · have := heap_alloc_new (w.alloc (.map #[] 0)) (trkC (.slice av nv cv) w.heap.size)
    simpa using this
  · have h : BgAt (w.alloc (.map #[] 0)) w.heap.size 0 (fun _ => 0) := ⟨.map [], World.ownsMap_made _ _ _ _, bgn_nil⟩
    exact h.far (((Below.refl _ _).alloc (Nat.le_refl _) _).block w.heap.size (by simp))
theorem Kept.set {X : Nat → Prop} {w w' : World} (h : Kept X w w') {g k : Nat} (hx : X g) (u : Value) : Kept X w (w'.setCell ⟨g, k, none⟩ u) :=
  ⟨h.os, h.tape, h.output, by rw [set_size]; exact h.size, fun j hj hn => (set_other w' (fun e => hn (by rw [e]; exact hx))).trans (h.block j hj hn)⟩

abbrev chC (c : Ch) : Obj := .cells #[.int .i64 c.a, .int .i64 c.n, .int .i64 c.b, .int .i64 c.m] 42
abbrev chV (c : Ch) : Value := .agg #[.int .i64 c.a, .int .i64 c.n, .int .i64 c.b, .int .i64 c.m]
structure Two (w : World) (go Mo gc Mc : Nat) (va vb : Value) (a b : List Int) (nA nB n : Nat) : Prop where
  ex : ∃ bo bc no nc, no ≤ n ∧ nc ≤ n ∧ TrkAt w go Mo no va bo ∧ TrkAt w gc Mc nc vb bc ∧ Ed.Kn a nA bo ∧ Ed.Kn b nB bc
theorem Two.far {w w' : World} {go Mo gc Mc : Nat} {va vb : Value} {a b : List Int} {nA nB n : Nat} (h : Two w go Mo gc Mc va vb a b nA nB n) (h1 : w'.heap[go]? = w.heap[go]?) (h2 : w'.heap[Mo]? = w.heap[Mo]?) (h3 : w'.heap[gc]? = w.heap[gc]?) (h4 : w'.heap[Mc]? = w.heap[Mc]?) : Two w' go Mo gc Mc va vb a b nA nB n := by
  obtain ⟨bo, bc, no, nc, e1, e2, t1, t2, k1, k2⟩ := h.ex
  exact ⟨bo, bc, no, nc, e1, e2, t1.far h1 h2, t2.far h3 h4, k1, k2⟩

set_option maxHeartbeats 8000000 in
set_option maxRecDepth 100000 in
theorem slid_any {w0 w : World} {go Mo gc Mc n : Nat} {va vb : Value} {a b : List Int} (hv : RdI w0 va a) (hu : RdI w0 vb b) (hla : a.length ≤ 4194304) (hlb : b.length ≤ 4194304) (hB : Below w0.heap.size w0 w) (hMo : w0.heap.size ≤ Mo) (hMc : w0.heap.size ≤ Mc)
    (d1 : go ≠ Mo) (d2 : go ≠ Mc) (d3 : gc ≠ Mo) (d4 : gc ≠ Mc) (d5 : Mo ≠ Mc) {cA cN cB cM nA nB : Nat} {nN nM : Int} (hT : Two w go Mo gc Mc va vb a b nA nB n) (hn : n ≤ 100000000) (h1 : cA + cN ≤ nA) (h2 : nA ≤ a.length) (h3 : cB + cM ≤ nB) (h4 : nB ≤ b.length) (hgap : nA + cB + cM = nB + cA + cN) (hpos : 0 < cN + cM) :
    Calls Tryd.prog 20 #[chV ⟨cA, cN, cB, cM⟩, chV ⟨nA, nN, nB, nM⟩, .pointer (some ⟨go, 0, none⟩), .pointer (some ⟨gc, 0, none⟩)] w fun e w' =>
      ∃ K : Nat, Ed.slid a b nA nB ⟨cA, cN, cB, cM⟩ = Ed.mv ⟨cA, cN, cB, cM⟩ K ∧ cA + cN + K ≤ nA ∧ cB + cM + K ≤ nB ∧ e = .returned (chV (Ed.mv ⟨cA, cN, cB, cM⟩ K)) ∧ Two w' go Mo gc Mc va vb a b (cA + K) (cB + K) (n + 1) ∧ Kept (fun j => j = Mo ∨ j = Mc) w w' := by
  obtain ⟨bo, bc, no, nc, e1, e2, t1, t2, k1, k2⟩ := hT.ex
  have hl1 := lt_of_heap t1.blk
  have hl2 := lt_of_heap t2.blk
  have hl3 := t1.map.lt
  have hl4 := t2.map.lt
  obtain ⟨av, cv, rfl⟩ := hv.shape
  obtain ⟨au, cu, rfl⟩ := hu.shape
  obtain ⟨w2, hw2⟩ : ∃ w2, w2 = ((w.alloc (chC ⟨cA, cN, cB, cM⟩)).alloc (chC ⟨nA, nN, nB, nM⟩)).alloc (.cells #[.int .i64 0, .int .i64 0, .int .i64 0, .int .i64 0] 42) := ⟨_, rfl⟩
  obtain ⟨W, hW⟩ : ∃ W, W = w.heap.size := ⟨_, rfl⟩
  have hb2 : Below w.heap.size w w2 := by rw [hw2]; exact (((Below.refl _ _).alloc (Nat.le_refl _) _).alloc (by simp) _).alloc (by simp; omega) _
  have hs2 : w2.heap.size = W + 3 := by rw [hw2, hW]; simp
  have f0 : w2.heap[W]? = some (chC ⟨cA, cN, cB, cM⟩) := by
    rw [hw2, hW]
    exact ((((Below.refl _ _).alloc (Nat.le_refl _) _).alloc (by simp) _).block w.heap.size (by simp)).trans (heap_alloc_new w _)
  have f1 : w2.heap[W + 1]? = some (chC ⟨nA, nN, nB, nM⟩) := by
    rw [hw2, hW]
    refine ((((Below.refl _ _).alloc (Nat.le_refl _) _)).block (w.heap.size + 1) (by simp)).trans ?_
    have := heap_alloc_new (w.alloc (chC ⟨cA, cN, cB, cM⟩)) (chC ⟨nA, nN, nB, nM⟩)
    simpa using this
  have f2 : w2.heap[W + 1 + 1]? = some (.cells #[.int .i64 0, .int .i64 0, .int .i64 0, .int .i64 0] 42) := by
    rw [hw2, hW]
    have := heap_alloc_new ((w.alloc (chC ⟨cA, cN, cB, cM⟩)).alloc (chC ⟨nA, nN, nB, nM⟩)) (.cells #[.int .i64 0, .int .i64 0, .int .i64 0, .int .i64 0] 42)
    simpa using this
  have HB0 : Hid (Below w0.heap.size w0 w2) := hid (hB.trans (hb2.mono hB.size))
  have T1 : TrkAt w2 go Mo no (.slice av a.length cv) bo := t1.far (hb2.block _ hl1) (hb2.block _ hl3)
  have T2 : TrkAt w2 gc Mc nc (.slice au b.length cu) bc := t2.far (hb2.block _ hl2) (hb2.block _ hl4)
  have HW2 := hid hw2
  have HWW := hid hW
  have HB2 := hid hb2
  rw [← hW] at hl1 hl2 hl3 hl4
  have g0 : w2.cell? ⟨W, 0, none⟩ = some (.int .i64 cA) := cell_of_blk f0 0
  have g1 : w2.cell? ⟨W, 1, none⟩ = some (.int .i64 cN) := cell_of_blk f0 1
  have g2 : w2.cell? ⟨W, 2, none⟩ = some (.int .i64 cB) := cell_of_blk f0 2
  have g3 : w2.cell? ⟨W, 3, none⟩ = some (.int .i64 cM) := cell_of_blk f0 3
  have g4 : w2.cell? ⟨W + 1, 0, none⟩ = some (.int .i64 nA) := cell_of_blk f1 0
  have g5 : w2.cell? ⟨W + 1, 2, none⟩ = some (.int .i64 nB) := cell_of_blk f1 2
  have HF0 := hid f0
  have HF2 := hid f2
  -- what is done behind the calls
  by_cases hm : cM = 0
  · have HKK := hid (Ed.farI_far a cA cN nA)
    obtain ⟨K, hK⟩ : ∃ K, K = Ed.farI a cA cN nA := ⟨_, rfl⟩
    rw [← hK] at HKK
    have HC := hid (far_any hv hla HB0.out hMo d1 T1 (by omega) h2 h1 (by omega) k1 K hK)
    have hKl : cA + cN + K ≤ nA := by
      rcases Nat.eq_zero_or_pos K with e | e
      · omega
      · have := (HKK.out.1 (K - 1) (by omega)).1; omega
    have HSL : Hid (Ed.slid a b nA nB ⟨cA, cN, cB, cM⟩ = Ed.mv ⟨cA, cN, cB, cM⟩ K) := hid (by unfold Ed.slid; rw [if_pos (by simp; omega), hK])
    have HKN1 := hid (k1.add (by omega) HKK.out (by omega))
    have HKN2 : Hid (Ed.Kn b ((cB : Int) + (K : Int)) bc) := hid (k2.less (by omega))
    have z1 : ((cM : Int) == 0) = true := by rw [hm]; rfl
    have HT2 := hid T2
    clear hv hu hB hT t1 t2 T1 T2 f0 f1 f2 hw2 hW hb2 hK hm k1 k2
    go_enter Tryd.func20, Tryd.ntmps20
    go_wp2_with fail
    rw [← HW2.out, ← HWW.out]
    refine HC.out.mono ?_
    rintro e w3 ⟨rfl, ⟨n', hn', hT3⟩, hK3⟩
    have hWl : W < w2.heap.size := by omega
    have x0 : w3.heap[W]? = _ := (hK3.block W hWl (by omega)).trans HF0.out
    have x2 : w3.heap[W + 1 + 1]? = _ := (hK3.block (W + 1 + 1) (by omega) (by omega)).trans HF2.out
    have HT3 := hid hT3
    have HK3 := hid hK3
    clear hT3 hK3 HC
    have g0 : w3.cell? ⟨W, 0, none⟩ = some (.int .i64 cA) := cell_of_blk x0 0
    have g1 : w3.cell? ⟨W, 1, none⟩ = some (.int .i64 cN) := cell_of_blk x0 1
    have g2 : w3.cell? ⟨W, 2, none⟩ = some (.int .i64 cB) := cell_of_blk x0 2
    have g3 : w3.cell? ⟨W, 3, none⟩ = some (.int .i64 cM) := cell_of_blk x0 3
    have gf := fun o => frozen_of_blk x0 o
    have y0 : w3.cell? ⟨W + 1 + 1, 0, none⟩ = some (.int .i64 0) := cell_of_blk x2 0
    have y1 : w3.cell? ⟨W + 1 + 1, 1, none⟩ = some (.int .i64 0) := cell_of_blk x2 1
    have y2 : w3.cell? ⟨W + 1 + 1, 2, none⟩ = some (.int .i64 0) := cell_of_blk x2 2
    have y3 : w3.cell? ⟨W + 1 + 1, 3, none⟩ = some (.int .i64 0) := cell_of_blk x2 3
    have yf := fun o => frozen_of_blk x2 o
    have i1 : IntKind.i64.wrap ((cA : Int) + (K : Int)) = (cA : Int) + (K : Int) := wrapOk (by omega) (by omega)
    have i2 : IntKind.i64.wrap ((cB : Int) + (K : Int)) = (cB : Int) + (K : Int) := wrapOk (by omega) (by omega)
    clear x0 x2
    go_wp2
    have q0 := Kept.refl (fun j => j = W ∨ j = W + 1 + 1) w3
    have q1 := q0.set (k := 0) (.inl rfl) (.int .i64 ((cA : Int) + (K : Int)))
    have q2 := q1.set (k := 2) (.inl rfl) (.int .i64 ((cB : Int) + (K : Int)))
    have q3 := q2.set (k := 0) (.inr rfl) (.int .i64 ((cA : Int) + (K : Int)))
    have q4 := q3.set (k := 1) (.inr rfl) (.int .i64 (cN : Int))
    have q5 := q4.set (k := 2) (.inr rfl) (.int .i64 ((cB : Int) + (K : Int)))
    have q6 := q5.set (k := 3) (.inr rfl) (.int .i64 (cM : Int))
    have HKF := hid q6
    refine bodyPost_ret (v := chV (Ed.mv ⟨cA, cN, cB, cM⟩ K)) (by simp [results, Tryd.results20, go_sem, y0, y1, y2, y3, Ed.mv]) rfl ⟨K, HSL.out, hKl, by omega, rfl, ?_, ?_⟩
    · have sz := HK3.out.size
      refine ⟨_, bc, n', nc, by omega, by omega, HT3.out.far (HKF.out.block go (by omega) (by omega)) (HKF.out.block Mo (by omega) (by omega)), (HT2.out.far (HK3.out.block gc (by omega) d3) (HK3.out.block Mc (by omega) (fun e => d5 e.symm))).far (HKF.out.block gc (by omega) (by omega)) (HKF.out.block Mc (by omega) (by omega)), ?_, ?_⟩
      · have h := HKN1.out; rw [Int.natCast_add]; exact h
      · have h := HKN2.out; rw [Int.natCast_add]; exact h
    · have hw := HWW.out
      exact ((Kept.of_below HB2.out).step (HK3.out.more (fun j e => .inl e)) (fun j e => .inl e)).step HKF.out (fun j e => by rcases e with e | e <;> exact .inr (by omega))
  · by_cases hcn : cN = 0
    · have HKK := hid (Ed.farI_far b cB cM nB)
      obtain ⟨K, hK⟩ : ∃ K, K = Ed.farI b cB cM nB := ⟨_, rfl⟩
      rw [← hK] at HKK
      have HC := hid (far_any hu hlb HB0.out hMc d4 T2 (by omega) h4 h3 (by omega) k2 K hK)
      have hKl : cB + cM + K ≤ nB := by
        rcases Nat.eq_zero_or_pos K with e | e
        · omega
        · have := (HKK.out.1 (K - 1) (by omega)).1; omega
      have HSL : Hid (Ed.slid a b nA nB ⟨cA, cN, cB, cM⟩ = Ed.mv ⟨cA, cN, cB, cM⟩ K) := hid (by unfold Ed.slid; rw [if_neg (by simp; omega), if_pos (by simp; omega), hK])
      have HKN2 := hid (k2.add (by omega) HKK.out (by omega))
      have HKN1 : Hid (Ed.Kn a ((cA : Int) + (K : Int)) bo) := hid (k1.less (by omega))
      have z1 : ((cM : Int) == 0) = false := by rw [beq_eq_false_iff_ne]; omega
      have z2 : ((cN : Int) == 0) = true := by rw [hcn]; rfl
      have HT1 := hid T1
      clear hv hu hB hT t1 t2 T1 T2 f0 f1 f2 hw2 hW hb2 hK hm hcn k1 k2
      go_enter Tryd.func20, Tryd.ntmps20
      go_wp2_with fail
      rw [← HW2.out, ← HWW.out]
      refine HC.out.mono ?_
      rintro e w3 ⟨rfl, ⟨n', hn', hT3⟩, hK3⟩
      have hWl : W < w2.heap.size := by omega
      have x0 : w3.heap[W]? = _ := (hK3.block W hWl (by omega)).trans HF0.out
      have x2 : w3.heap[W + 1 + 1]? = _ := (hK3.block (W + 1 + 1) (by omega) (by omega)).trans HF2.out
      have HT3 := hid hT3
      have HK3 := hid hK3
      clear hT3 hK3 HC
      have g0 : w3.cell? ⟨W, 0, none⟩ = some (.int .i64 cA) := cell_of_blk x0 0
      have g1 : w3.cell? ⟨W, 1, none⟩ = some (.int .i64 cN) := cell_of_blk x0 1
      have g2 : w3.cell? ⟨W, 2, none⟩ = some (.int .i64 cB) := cell_of_blk x0 2
      have g3 : w3.cell? ⟨W, 3, none⟩ = some (.int .i64 cM) := cell_of_blk x0 3
      have gf := fun o => frozen_of_blk x0 o
      have y0 : w3.cell? ⟨W + 1 + 1, 0, none⟩ = some (.int .i64 0) := cell_of_blk x2 0
      have y1 : w3.cell? ⟨W + 1 + 1, 1, none⟩ = some (.int .i64 0) := cell_of_blk x2 1
      have y2 : w3.cell? ⟨W + 1 + 1, 2, none⟩ = some (.int .i64 0) := cell_of_blk x2 2
      have y3 : w3.cell? ⟨W + 1 + 1, 3, none⟩ = some (.int .i64 0) := cell_of_blk x2 3
      have yf := fun o => frozen_of_blk x2 o
      have i1 : IntKind.i64.wrap ((cA : Int) + (K : Int)) = (cA : Int) + (K : Int) := wrapOk (by omega) (by omega)
      have i2 : IntKind.i64.wrap ((cB : Int) + (K : Int)) = (cB : Int) + (K : Int) := wrapOk (by omega) (by omega)
      clear x0 x2
      go_wp2
      have q0 := Kept.refl (fun j => j = W ∨ j = W + 1 + 1) w3
      have q1 := q0.set (k := 0) (.inl rfl) (.int .i64 ((cA : Int) + (K : Int)))
      have q2 := q1.set (k := 2) (.inl rfl) (.int .i64 ((cB : Int) + (K : Int)))
      have q3 := q2.set (k := 0) (.inr rfl) (.int .i64 ((cA : Int) + (K : Int)))
      have q4 := q3.set (k := 1) (.inr rfl) (.int .i64 (cN : Int))
      have q5 := q4.set (k := 2) (.inr rfl) (.int .i64 ((cB : Int) + (K : Int)))
      have q6 := q5.set (k := 3) (.inr rfl) (.int .i64 (cM : Int))
      have HKF := hid q6
      refine bodyPost_ret (v := chV (Ed.mv ⟨cA, cN, cB, cM⟩ K)) (by simp [results, Tryd.results20, go_sem, y0, y1, y2, y3, Ed.mv]) rfl ⟨K, HSL.out, by omega, hKl, rfl, ?_, ?_⟩
      · have sz := HK3.out.size
        refine ⟨bo, _, no, n', by omega, by omega, (HT1.out.far (HK3.out.block go (by omega) d2) (HK3.out.block Mo (by omega) d5)).far (HKF.out.block go (by omega) (by omega)) (HKF.out.block Mo (by omega) (by omega)), HT3.out.far (HKF.out.block gc (by omega) (by omega)) (HKF.out.block Mc (by omega) (by omega)), ?_, ?_⟩
        · have h := HKN1.out; rw [Int.natCast_add]; exact h
        · have h := HKN2.out; rw [Int.natCast_add]; exact h
      · have hw := HWW.out
        exact ((Kept.of_below HB2.out).step (HK3.out.more (fun j e => .inr e)) (fun j e => .inl e)).step HKF.out (fun j e => by rcases e with e | e <;> exact .inr (by omega))
    · have HSL : Hid (Ed.slid a b nA nB ⟨cA, cN, cB, cM⟩ = Ed.mv ⟨cA, cN, cB, cM⟩ 0) := hid (by unfold Ed.slid; rw [if_neg (by simp; omega), if_neg (by simp; omega)]; simp [Ed.mv])
      have HKN2 : Hid (Ed.Kn b (cB : Int) bc) := hid (k2.less (by omega))
      have HKN1 : Hid (Ed.Kn a (cA : Int) bo) := hid (k1.less (by omega))
      have z1 : ((cM : Int) == 0) = false := by rw [beq_eq_false_iff_ne]; omega
      have z2 : ((cN : Int) == 0) = false := by rw [beq_eq_false_iff_ne]; omega
      have HT1 := hid T1
      have HT2 := hid T2
      have gf := fun o => frozen_of_blk f0 o
      have y0 : w2.cell? ⟨W + 1 + 1, 0, none⟩ = some (.int .i64 0) := cell_of_blk f2 0
      have y1 : w2.cell? ⟨W + 1 + 1, 1, none⟩ = some (.int .i64 0) := cell_of_blk f2 1
      have y2 : w2.cell? ⟨W + 1 + 1, 2, none⟩ = some (.int .i64 0) := cell_of_blk f2 2
      have y3 : w2.cell? ⟨W + 1 + 1, 3, none⟩ = some (.int .i64 0) := cell_of_blk f2 3
      have yf := fun o => frozen_of_blk f2 o
      have i1 : IntKind.i64.wrap (cA : Int) = (cA : Int) := wrapOk (by omega) (by omega)
      have i2 : IntKind.i64.wrap (cB : Int) = (cB : Int) := wrapOk (by omega) (by omega)
      clear hv hu hB hT t1 t2 T1 T2 f0 f1 f2 hw2 hW hb2 hm hcn k1 k2
      go_enter Tryd.func20, Tryd.ntmps20
      go_upto_region 6 with fail
      rw [← HW2.out, ← HWW.out]
      go_wp2
      have q0 := Kept.refl (fun j => j = W ∨ j = W + 1 + 1) w2
      have q1 := q0.set (k := 0) (.inl rfl) (.int .i64 (cA : Int))
      have q2 := q1.set (k := 2) (.inl rfl) (.int .i64 (cB : Int))
      have q3 := q2.set (k := 0) (.inr rfl) (.int .i64 (cA : Int))
      have q4 := q3.set (k := 1) (.inr rfl) (.int .i64 (cN : Int))
      have q5 := q4.set (k := 2) (.inr rfl) (.int .i64 (cB : Int))
      have q6 := q5.set (k := 3) (.inr rfl) (.int .i64 (cM : Int))
      have HKF := hid q6
      refine bodyPost_ret (v := chV (Ed.mv ⟨cA, cN, cB, cM⟩ 0)) (by simp [results, Tryd.results20, go_sem, y0, y1, y2, y3, Ed.mv]) rfl ⟨0, HSL.out, by omega, by omega, rfl, ?_, ?_⟩
      · refine ⟨bo, bc, no, nc, by omega, by omega, HT1.out.far (HKF.out.block go (by omega) (by omega)) (HKF.out.block Mo (by omega) (by omega)), HT2.out.far (HKF.out.block gc (by omega) (by omega)) (HKF.out.block Mc (by omega) (by omega)), ?_, ?_⟩
        · exact HKN1.out
        · exact HKN2.out
      · have hw := HWW.out
        exact (Kept.of_below HB2.out).step HKF.out (fun j e => by rcases e with e | e <;> exact .inr (by omega))
end Go.Proofs.YtmomeemkdfoklaaDoor
