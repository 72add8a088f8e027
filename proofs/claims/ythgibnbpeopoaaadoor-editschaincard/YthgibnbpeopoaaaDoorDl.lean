/-
  Structs of scripts, lists and numbers as arguments: opened, sized.
-/
import Derived.Test.YthgibnbpeopoaaaDoorDf
import Derived.Test.YthgibnbpeopoaaaDoorD4
import Derived.Test.YthgibnbpeopoaaaDoorD3
namespace Go.Proofs.YthgibnbpeopoaaaDoor
open Go.RowKit Go.Deep
open Ed (Ch Run Pr)

theorem one_slice {H : Type} {enc : TypeId × Value → H} {W : World} {n : Nat} {t e : TypeId} {v : Value} {y : DataW H × List MemPlace} (hu : Tryd.prog.underlying t = some (.slice e)) (h : DataW.trod enc Tryd.prog W 0 (fun _ => true) true n t [v] = some y) :
    (∃ a len cap, v = .slice a len cap) ∧ DataW.Trod enc Tryd.prog W 0 (fun _ => true) true t v y.1 y.2 := by
  have hs : ∃ a len cap, v = .slice a len cap := by
    rcases open_slice hu h with ⟨hcs, _⟩ | ⟨a, len, cap, m, n', D, Pl, hcs, _⟩
    · simp at hcs; exact ⟨_, _, _, hcs⟩
    · simp at hcs; exact ⟨_, _, _, hcs⟩
  refine ⟨hs, n, ?_⟩
  obtain ⟨a, len, cap, rfl⟩ := hs
  exact h
theorem agg_of {v : Value} {k : Nat} (hk : 1 < k) (hl : v.cells.toList.length = k) : ∃ l : List Value, v = .agg l.toArray ∧ v.cells.toList = l := by
  cases v with
  | agg cs => exact ⟨cs.toList, by simp, rfl⟩
  | _ => simp [Value.cells] at hl; omega

set_option maxRecDepth 100000 in
theorem open_two {H : Type} {enc : TypeId × Value → H} {W : World} {v : Value} {d : DataW H} {p : List MemPlace} (h : DataW.Trod enc Tryd.prog W 0 (fun _ => true) true 37 v d p) :
    ∃ (v0 : Value) (x0 : List Ch) (v1 : Value) (x1 : List Ch) (x2 : Int) (x3 : Int) (x4 : Int), v = .agg #[v0, v1, .int .i64 x2, .int .i64 x3, .int .i64 x4] ∧ RdC W v0 x0 ∧ (∀ c ∈ x0, WfC c) ∧ ArgS v0 ∧ RdC W v1 x1 ∧ (∀ c ∈ x1, WfC c) ∧ ArgS v1 ∧
      ((DataW.weightsEach Tryd.prog [37] [d]).all (· ≤ reachBytes) = true → x0.length ≤ 4398046510976 ∧ x1.length ≤ 4398046510976) := by
  obtain ⟨fuel, hf⟩ := h
  have hC : Tryd.prog.cellsOf 37 = 5 := by kernel_rfl
  have hc_c : Tryd.prog.cellsOf 22 = 1 := by kernel_rfl
  have hc_i : Tryd.prog.cellsOf 3 = 1 := by kernel_rfl
  obtain ⟨xs, n, _, hx, hl, hlen, hfs⟩ := DataW.trod_struct Tryd.underlying37 hf
  rw [hC] at hl
  obtain ⟨l, hv, hcl⟩ := agg_of (by omega) hl
  rw [hcl] at hl hfs
  match l, hl with
  | [w0, w1, w2, w3, w4], _ =>
    match xs, hlen with
    | [y0, y1, y2, y3, y4], _ =>
      have g0 : DataW.trod enc Tryd.prog W 0 (fun _ => true) true n 22 (([w0, w1, w2, w3, w4].drop 0).take (Tryd.prog.cellsOf 22)) = some y0 := hfs 0 _ rfl
      rw [hc_c] at g0
      have g1 : DataW.trod enc Tryd.prog W 0 (fun _ => true) true n 22 (([w0, w1, w2, w3, w4].drop 1).take (Tryd.prog.cellsOf 22)) = some y1 := hfs 1 _ rfl
      rw [hc_c] at g1
      have g2 : DataW.trod enc Tryd.prog W 0 (fun _ => true) true n 3 (([w0, w1, w2, w3, w4].drop 2).take (Tryd.prog.cellsOf 3)) = some y2 := hfs 2 _ rfl
      rw [hc_i] at g2
      have g3 : DataW.trod enc Tryd.prog W 0 (fun _ => true) true n 3 (([w0, w1, w2, w3, w4].drop 3).take (Tryd.prog.cellsOf 3)) = some y3 := hfs 3 _ rfl
      rw [hc_i] at g3
      have g4 : DataW.trod enc Tryd.prog W 0 (fun _ => true) true n 3 (([w0, w1, w2, w3, w4].drop 4).take (Tryd.prog.cellsOf 3)) = some y4 := hfs 4 _ rfl
      rw [hc_i] at g4
      obtain ⟨q0, t0⟩ := one_slice Tryd.underlying22 (show DataW.trod enc Tryd.prog W 0 (fun _ => true) true n 22 [w0] = some y0 from g0)
      obtain ⟨x0, hr0, hw0, hd0, hs0⟩ := open_chs q0 t0
      obtain ⟨q1, t1⟩ := one_slice Tryd.underlying22 (show DataW.trod enc Tryd.prog W 0 (fun _ => true) true n 22 [w1] = some y1 from g1)
      obtain ⟨x1, hr1, hw1, hd1, hs1⟩ := open_chs q1 t1
      obtain ⟨x2, e2, _⟩ := DataW.trod_int Tryd.underlying3 (show DataW.trod enc Tryd.prog W 0 (fun _ => true) true n 3 [w2] = some y2 from g2)
      cases e2
      obtain ⟨x3, e3, _⟩ := DataW.trod_int Tryd.underlying3 (show DataW.trod enc Tryd.prog W 0 (fun _ => true) true n 3 [w3] = some y3 from g3)
      cases e3
      obtain ⟨x4, e4, _⟩ := DataW.trod_int Tryd.underlying3 (show DataW.trod enc Tryd.prog W 0 (fun _ => true) true n 3 [w4] = some y4 from g4)
      cases e4
      refine ⟨w0, x0, w1, x1, x2, x3, x4, hv, hr0, hw0, hs0, hr1, hw1, hs1, fun hsz => ?_⟩
      have hdd := (Prod.mk.inj hx).1
      subst hdd
      simp only [DataW.weightsEach, DataW.weights, Tryd.underlying37, List.append_nil, List.map_cons, List.map_nil] at hsz
      have hsz' : (DataW.weightsEach Tryd.prog [22, 22, 3, 3, 3] [y0.1, y1.1, y2.1, y3.1, y4.1]).all (· ≤ reachBytes) = true := by
        simp only [DataW.weightsEach, List.append_nil]
        exact hsz
      exact ⟨chs_sized (j := 0) hsz' rfl rfl hd0, chs_sized (j := 1) hsz' rfl rfl hd1⟩
set_option maxRecDepth 100000 in
theorem open_three {H : Type} {enc : TypeId × Value → H} {W : World} {v : Value} {d : DataW H} {p : List MemPlace} (h : DataW.Trod enc Tryd.prog W 0 (fun _ => true) true 46 v d p) :
    ∃ (v0 : Value) (x0 : List Ch) (v1 : Value) (x1 : List Ch) (v2 : Value) (x2 : List Ch) (x3 : Int) (x4 : Int) (x5 : Int) (x6 : Int), v = .agg #[v0, v1, v2, .int .i64 x3, .int .i64 x4, .int .i64 x5, .int .i64 x6] ∧ RdC W v0 x0 ∧ (∀ c ∈ x0, WfC c) ∧ ArgS v0 ∧ RdC W v1 x1 ∧ (∀ c ∈ x1, WfC c) ∧ ArgS v1 ∧ RdC W v2 x2 ∧ (∀ c ∈ x2, WfC c) ∧ ArgS v2 ∧
      ((DataW.weightsEach Tryd.prog [46] [d]).all (· ≤ reachBytes) = true → x0.length ≤ 4398046510976 ∧ x1.length ≤ 4398046510976 ∧ x2.length ≤ 4398046510976) := by
  obtain ⟨fuel, hf⟩ := h
  have hC : Tryd.prog.cellsOf 46 = 7 := by kernel_rfl
  have hc_c : Tryd.prog.cellsOf 22 = 1 := by kernel_rfl
  have hc_i : Tryd.prog.cellsOf 3 = 1 := by kernel_rfl
  obtain ⟨xs, n, _, hx, hl, hlen, hfs⟩ := DataW.trod_struct Tryd.underlying46 hf
  rw [hC] at hl
  obtain ⟨l, hv, hcl⟩ := agg_of (by omega) hl
  rw [hcl] at hl hfs
  match l, hl with
  | [w0, w1, w2, w3, w4, w5, w6], _ =>
    match xs, hlen with
    | [y0, y1, y2, y3, y4, y5, y6], _ =>
      have g0 : DataW.trod enc Tryd.prog W 0 (fun _ => true) true n 22 (([w0, w1, w2, w3, w4, w5, w6].drop 0).take (Tryd.prog.cellsOf 22)) = some y0 := hfs 0 _ rfl
      rw [hc_c] at g0
      have g1 : DataW.trod enc Tryd.prog W 0 (fun _ => true) true n 22 (([w0, w1, w2, w3, w4, w5, w6].drop 1).take (Tryd.prog.cellsOf 22)) = some y1 := hfs 1 _ rfl
      rw [hc_c] at g1
      have g2 : DataW.trod enc Tryd.prog W 0 (fun _ => true) true n 22 (([w0, w1, w2, w3, w4, w5, w6].drop 2).take (Tryd.prog.cellsOf 22)) = some y2 := hfs 2 _ rfl
      rw [hc_c] at g2
      have g3 : DataW.trod enc Tryd.prog W 0 (fun _ => true) true n 3 (([w0, w1, w2, w3, w4, w5, w6].drop 3).take (Tryd.prog.cellsOf 3)) = some y3 := hfs 3 _ rfl
      rw [hc_i] at g3
      have g4 : DataW.trod enc Tryd.prog W 0 (fun _ => true) true n 3 (([w0, w1, w2, w3, w4, w5, w6].drop 4).take (Tryd.prog.cellsOf 3)) = some y4 := hfs 4 _ rfl
      rw [hc_i] at g4
      have g5 : DataW.trod enc Tryd.prog W 0 (fun _ => true) true n 3 (([w0, w1, w2, w3, w4, w5, w6].drop 5).take (Tryd.prog.cellsOf 3)) = some y5 := hfs 5 _ rfl
      rw [hc_i] at g5
      have g6 : DataW.trod enc Tryd.prog W 0 (fun _ => true) true n 3 (([w0, w1, w2, w3, w4, w5, w6].drop 6).take (Tryd.prog.cellsOf 3)) = some y6 := hfs 6 _ rfl
      rw [hc_i] at g6
      obtain ⟨q0, t0⟩ := one_slice Tryd.underlying22 (show DataW.trod enc Tryd.prog W 0 (fun _ => true) true n 22 [w0] = some y0 from g0)
      obtain ⟨x0, hr0, hw0, hd0, hs0⟩ := open_chs q0 t0
      obtain ⟨q1, t1⟩ := one_slice Tryd.underlying22 (show DataW.trod enc Tryd.prog W 0 (fun _ => true) true n 22 [w1] = some y1 from g1)
      obtain ⟨x1, hr1, hw1, hd1, hs1⟩ := open_chs q1 t1
      obtain ⟨q2, t2⟩ := one_slice Tryd.underlying22 (show DataW.trod enc Tryd.prog W 0 (fun _ => true) true n 22 [w2] = some y2 from g2)
      obtain ⟨x2, hr2, hw2, hd2, hs2⟩ := open_chs q2 t2
      obtain ⟨x3, e3, _⟩ := DataW.trod_int Tryd.underlying3 (show DataW.trod enc Tryd.prog W 0 (fun _ => true) true n 3 [w3] = some y3 from g3)
      cases e3
      obtain ⟨x4, e4, _⟩ := DataW.trod_int Tryd.underlying3 (show DataW.trod enc Tryd.prog W 0 (fun _ => true) true n 3 [w4] = some y4 from g4)
      cases e4
      obtain ⟨x5, e5, _⟩ := DataW.trod_int Tryd.underlying3 (show DataW.trod enc Tryd.prog W 0 (fun _ => true) true n 3 [w5] = some y5 from g5)
      cases e5
      obtain ⟨x6, e6, _⟩ := DataW.trod_int Tryd.underlying3 (show DataW.trod enc Tryd.prog W 0 (fun _ => true) true n 3 [w6] = some y6 from g6)
      cases e6
      refine ⟨w0, x0, w1, x1, w2, x2, x3, x4, x5, x6, hv, hr0, hw0, hs0, hr1, hw1, hs1, hr2, hw2, hs2, fun hsz => ?_⟩
      have hdd := (Prod.mk.inj hx).1
      subst hdd
      simp only [DataW.weightsEach, DataW.weights, Tryd.underlying46, List.append_nil, List.map_cons, List.map_nil] at hsz
      have hsz' : (DataW.weightsEach Tryd.prog [22, 22, 22, 3, 3, 3, 3] [y0.1, y1.1, y2.1, y3.1, y4.1, y5.1, y6.1]).all (· ≤ reachBytes) = true := by
        simp only [DataW.weightsEach, List.append_nil]
        exact hsz
      exact ⟨chs_sized (j := 0) hsz' rfl rfl hd0, chs_sized (j := 1) hsz' rfl rfl hd1, chs_sized (j := 2) hsz' rfl rfl hd2⟩
set_option maxRecDepth 100000 in
theorem open_lists {H : Type} {enc : TypeId × Value → H} {W : World} {v : Value} {d : DataW H} {p : List MemPlace} (h : DataW.Trod enc Tryd.prog W 0 (fun _ => true) true 51 v d p) :
    ∃ (v0 : Value) (x0 : List Int) (v1 : Value) (x1 : List Int) (v2 : Value) (x2 : List Int) (v3 : Value) (x3 : List Pr) (v4 : Value) (x4 : List Pr), v = .agg #[v0, v1, v2, v3, v4] ∧ RdI W v0 x0 ∧ (∀ c ∈ x0, I64 c) ∧ ArgS v0 ∧ RdI W v1 x1 ∧ (∀ c ∈ x1, I64 c) ∧ ArgS v1 ∧ RdI W v2 x2 ∧ (∀ c ∈ x2, I64 c) ∧ ArgS v2 ∧ RdP W v3 x3 ∧ (∀ c ∈ x3, WfP c) ∧ ArgS v3 ∧ RdP W v4 x4 ∧ (∀ c ∈ x4, WfP c) ∧ ArgS v4 ∧
      ((DataW.weightsEach Tryd.prog [51] [d]).all (· ≤ reachBytes) = true → x0.length ≤ 17592186043904 ∧ x1.length ≤ 17592186043904 ∧ x2.length ≤ 17592186043904 ∧ x3.length ≤ 8796093021952 ∧ x4.length ≤ 8796093021952) := by
  obtain ⟨fuel, hf⟩ := h
  have hC : Tryd.prog.cellsOf 51 = 5 := by kernel_rfl
  have hc_n : Tryd.prog.cellsOf 23 = 1 := by kernel_rfl
  have hc_p : Tryd.prog.cellsOf 49 = 1 := by kernel_rfl
  obtain ⟨xs, n, _, hx, hl, hlen, hfs⟩ := DataW.trod_struct Tryd.underlying51 hf
  rw [hC] at hl
  obtain ⟨l, hv, hcl⟩ := agg_of (by omega) hl
  rw [hcl] at hl hfs
  match l, hl with
  | [w0, w1, w2, w3, w4], _ =>
    match xs, hlen with
    | [y0, y1, y2, y3, y4], _ =>
      have g0 : DataW.trod enc Tryd.prog W 0 (fun _ => true) true n 23 (([w0, w1, w2, w3, w4].drop 0).take (Tryd.prog.cellsOf 23)) = some y0 := hfs 0 _ rfl
      rw [hc_n] at g0
      have g1 : DataW.trod enc Tryd.prog W 0 (fun _ => true) true n 23 (([w0, w1, w2, w3, w4].drop 1).take (Tryd.prog.cellsOf 23)) = some y1 := hfs 1 _ rfl
      rw [hc_n] at g1
      have g2 : DataW.trod enc Tryd.prog W 0 (fun _ => true) true n 23 (([w0, w1, w2, w3, w4].drop 2).take (Tryd.prog.cellsOf 23)) = some y2 := hfs 2 _ rfl
      rw [hc_n] at g2
      have g3 : DataW.trod enc Tryd.prog W 0 (fun _ => true) true n 49 (([w0, w1, w2, w3, w4].drop 3).take (Tryd.prog.cellsOf 49)) = some y3 := hfs 3 _ rfl
      rw [hc_p] at g3
      have g4 : DataW.trod enc Tryd.prog W 0 (fun _ => true) true n 49 (([w0, w1, w2, w3, w4].drop 4).take (Tryd.prog.cellsOf 49)) = some y4 := hfs 4 _ rfl
      rw [hc_p] at g4
      obtain ⟨q0, t0⟩ := one_slice Tryd.underlying23 (show DataW.trod enc Tryd.prog W 0 (fun _ => true) true n 23 [w0] = some y0 from g0)
      obtain ⟨x0, hr0, hw0, hd0, hs0⟩ := open_ints q0 t0
      obtain ⟨q1, t1⟩ := one_slice Tryd.underlying23 (show DataW.trod enc Tryd.prog W 0 (fun _ => true) true n 23 [w1] = some y1 from g1)
      obtain ⟨x1, hr1, hw1, hd1, hs1⟩ := open_ints q1 t1
      obtain ⟨q2, t2⟩ := one_slice Tryd.underlying23 (show DataW.trod enc Tryd.prog W 0 (fun _ => true) true n 23 [w2] = some y2 from g2)
      obtain ⟨x2, hr2, hw2, hd2, hs2⟩ := open_ints q2 t2
      obtain ⟨q3, t3⟩ := one_slice Tryd.underlying49 (show DataW.trod enc Tryd.prog W 0 (fun _ => true) true n 49 [w3] = some y3 from g3)
      obtain ⟨x3, hr3, hw3, hd3, hs3⟩ := open_prs q3 t3
      obtain ⟨q4, t4⟩ := one_slice Tryd.underlying49 (show DataW.trod enc Tryd.prog W 0 (fun _ => true) true n 49 [w4] = some y4 from g4)
      obtain ⟨x4, hr4, hw4, hd4, hs4⟩ := open_prs q4 t4
      refine ⟨w0, x0, w1, x1, w2, x2, w3, x3, w4, x4, hv, hr0, hw0, hs0, hr1, hw1, hs1, hr2, hw2, hs2, hr3, hw3, hs3, hr4, hw4, hs4, fun hsz => ?_⟩
      have hdd := (Prod.mk.inj hx).1
      subst hdd
      simp only [DataW.weightsEach, DataW.weights, Tryd.underlying51, List.append_nil, List.map_cons, List.map_nil] at hsz
      have hsz' : (DataW.weightsEach Tryd.prog [23, 23, 23, 49, 49] [y0.1, y1.1, y2.1, y3.1, y4.1]).all (· ≤ reachBytes) = true := by
        simp only [DataW.weightsEach, List.append_nil]
        exact hsz
      exact ⟨ints_sized (j := 0) hsz' rfl rfl hd0, ints_sized (j := 1) hsz' rfl rfl hd1, ints_sized (j := 2) hsz' rfl rfl hd2, prs_sized (j := 3) hsz' rfl rfl hd3, prs_sized (j := 4) hsz' rfl rfl hd4⟩
end Go.Proofs.YthgibnbpeopoaaaDoor
