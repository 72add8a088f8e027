/-
  The struct Job of layer 16 as an argument.
-/
import Derived.Test.YthnibchlgcgalaaGreatDoorGrKf
namespace Go.Proofs.YthnibchlgcgalaaGreatDoor
open Go.RowKit Go.Deep Go.ChangeShapes Go.WideShapes Go.ChangeAt
open Ed (Ch Run Pr)

set_option maxRecDepth 100000 in
theorem open_job16 {H : Type} {enc : TypeId × Value → H} {W : World} {v : Value} {d : DataW H} {p : List MemPlace} (h : DataW.Trod enc Tryz.prog W 0 (fun _ => true) true 38 v d p) :
    ∃ (v0 : Value) (x0 : List Ch) (v1 : Value) (x1 : List ByteArray) (v2 : Value) (x2 : List ByteArray) (x3 : Int), v = .agg #[v0, v1, v2, .int .i64 x3] ∧ RdC W v0 x0 ∧ (∀ c ∈ x0, WfC c) ∧ ArgS v0 ∧ RdT W v1 x1 ∧ (∀ c ∈ x1, SzS c) ∧ ArgS v1 ∧ RdT W v2 x2 ∧ (∀ c ∈ x2, SzS c) ∧ ArgS v2 ∧
      ((DataW.weightsEach Tryz.prog [38] [d]).all (· ≤ reachBytes) = true → x0.length ≤ 4398046510976 ∧ x1.length ≤ 8796093021952 ∧ x2.length ≤ 8796093021952) := by
  obtain ⟨fuel, hf⟩ := h
  have hC : Tryz.prog.cellsOf 38 = 4 := by kernel_rfl
  have hc_c : Tryz.prog.cellsOf 35 = 1 := by kernel_rfl
  have hc_t : Tryz.prog.cellsOf 36 = 1 := by kernel_rfl
  have hc_i : Tryz.prog.cellsOf 3 = 1 := by kernel_rfl
  obtain ⟨xs, n, _, hx, hl, hlen, hfs⟩ := DataW.trod_struct Tryz.underlying38 hf
  rw [hC] at hl
  obtain ⟨l, hv, hcl⟩ := agg_of (by omega) hl
  rw [hcl] at hl hfs
  match l, hl with
  | [w0, w1, w2, w3], _ =>
    match xs, hlen with
    | [y0, y1, y2, y3], _ =>
      have g0 : DataW.trod enc Tryz.prog W 0 (fun _ => true) true n 35 (([w0, w1, w2, w3].drop 0).take (Tryz.prog.cellsOf 35)) = some y0 := hfs 0 _ rfl
      rw [hc_c] at g0
      have g1 : DataW.trod enc Tryz.prog W 0 (fun _ => true) true n 36 (([w0, w1, w2, w3].drop 1).take (Tryz.prog.cellsOf 36)) = some y1 := hfs 1 _ rfl
      rw [hc_t] at g1
      have g2 : DataW.trod enc Tryz.prog W 0 (fun _ => true) true n 36 (([w0, w1, w2, w3].drop 2).take (Tryz.prog.cellsOf 36)) = some y2 := hfs 2 _ rfl
      rw [hc_t] at g2
      have g3 : DataW.trod enc Tryz.prog W 0 (fun _ => true) true n 3 (([w0, w1, w2, w3].drop 3).take (Tryz.prog.cellsOf 3)) = some y3 := hfs 3 _ rfl
      rw [hc_i] at g3
      obtain ⟨q0, t0⟩ := one_slice Tryz.underlying35 (show DataW.trod enc Tryz.prog W 0 (fun _ => true) true n 35 [w0] = some y0 from g0)
      obtain ⟨x0, hr0, hw0, hd0, hs0⟩ := open_chs q0 t0
      obtain ⟨q1, t1⟩ := one_slice Tryz.underlying36 (show DataW.trod enc Tryz.prog W 0 (fun _ => true) true n 36 [w1] = some y1 from g1)
      obtain ⟨x1, hr1, hw1, hd1, hs1⟩ := open_strs q1 t1
      obtain ⟨q2, t2⟩ := one_slice Tryz.underlying36 (show DataW.trod enc Tryz.prog W 0 (fun _ => true) true n 36 [w2] = some y2 from g2)
      obtain ⟨x2, hr2, hw2, hd2, hs2⟩ := open_strs q2 t2
      obtain ⟨x3, e3, _⟩ := DataW.trod_int Tryz.underlying3 (show DataW.trod enc Tryz.prog W 0 (fun _ => true) true n 3 [w3] = some y3 from g3)
      cases e3
      refine ⟨w0, x0, w1, x1, w2, x2, x3, hv, hr0, hw0, hs0, hr1, hw1, hs1, hr2, hw2, hs2, fun hsz => ?_⟩
      have hdd := (Prod.mk.inj hx).1
      subst hdd
      simp only [DataW.weightsEach, DataW.weights, Tryz.underlying38, List.append_nil, List.map_cons, List.map_nil] at hsz
      have hsz' : (DataW.weightsEach Tryz.prog [35, 36, 36, 3] [y0.1, y1.1, y2.1, y3.1]).all (· ≤ reachBytes) = true := by
        simp only [DataW.weightsEach, List.append_nil]
        exact hsz
      exact ⟨chs_sized (j := 0) hsz' rfl rfl hd0, strs_sz (j := 1) hsz' rfl rfl hd1, strs_sz (j := 2) hsz' rfl rfl hd2⟩
end Go.Proofs.YthnibchlgcgalaaGreatDoor
