/-
  The struct Case of layer 15 as an argument, by its bulk.
-/
import Derived.Test.YtgpgpopefmkpoaaDoorSb
namespace Go.Proofs.YtgpgpopefmkpoaaDoor
open Go.RowKit Go.Deep Go.ChangeShapes Go.WideShapes Go.ChangeAt
open Ed (Ch Run Pr)

theorem one_slice {H : Type} {enc : TypeId × Value → H} {W : World} {n : Nat} {t e : TypeId} {v : Value} {y : DataW H × List MemPlace} (hu : Tryd.prog.underlying t = some (.slice e)) (h : DataW.trod enc Tryd.prog W 0 (fun _ => true) true n t [v] = some y) :
    (∃ a len cap, v = .slice a len cap) ∧ DataW.Trod enc Tryd.prog W 0 (fun _ => true) true t v y.1 y.2 := by
  have hs : ∃ a len cap, v = .slice a len cap := by
    rcases open_slice hu h with ⟨hcs, _⟩ | ⟨a, len, cap, m, n', D, Pl, hcs, _⟩
    · simp at hcs; exact ⟨_, _, _, hcs⟩
    · simp at hcs; exact ⟨_, _, _, hcs⟩
  refine ⟨hs, n, ?_⟩
  obtain ⟨a, len, cap, rfl⟩ := hs
  exact h
theorem agg_of {v : Value} {k : Nat} (hk : 1 < k) (hl : v.cells.toList.length = k) : ∃ l : List Value, v = .agg l.toArray ∧ v.cells.toList = l := by
  cases v with
  | agg cs => exact ⟨cs.toList, by simp, rfl⟩
  | _ => simp [Value.cells] at hl; omega
def SzS (x : ByteArray) : Prop := x.size ≤ maxLen
set_option maxRecDepth 100000 in
theorem open_case15 {H : Type} {enc : TypeId × Value → H} {W : World} {v : Value} {d : DataW H} {p : List MemPlace} (h : DataW.Trod enc Tryd.prog W 0 (fun _ => true) true 25 v d p) :
    ∃ (v0 : Value) (x0 : List Ch) (v1 : Value) (x1 : List ByteArray) (v2 : Value) (x2 : List ByteArray) (x3 : Int), v = .agg #[v0, v1, v2, .int .i64 x3] ∧ RdC W v0 x0 ∧ (∀ c ∈ x0, WfC c) ∧ ArgS v0 ∧ RdT W v1 x1 ∧ (∀ c ∈ x1, SzS c) ∧ ArgS v1 ∧ RdT W v2 x2 ∧ (∀ c ∈ x2, SzS c) ∧ ArgS v2 ∧
      (Rows.uptoBulk d ≤ 1048576 → x0.length ≤ 1048576 ∧ x1.length + (flatB x1).length ≤ 1048576 ∧ x2.length + (flatB x2).length ≤ 1048576) := by
  obtain ⟨fuel, hf⟩ := h
  have hC : Tryd.prog.cellsOf 25 = 4 := by kernel_rfl
  have hc_c : Tryd.prog.cellsOf 22 = 1 := by kernel_rfl
  have hc_t : Tryd.prog.cellsOf 23 = 1 := by kernel_rfl
  have hc_i : Tryd.prog.cellsOf 3 = 1 := by kernel_rfl
  obtain ⟨xs, n, _, hx, hl, hlen, hfs⟩ := DataW.trod_struct Tryd.underlying25 hf
  rw [hC] at hl
  obtain ⟨l, hv, hcl⟩ := agg_of (by omega) hl
  rw [hcl] at hl hfs
  match l, hl with
  | [w0, w1, w2, w3], _ =>
    match xs, hlen with
    | [y0, y1, y2, y3], _ =>
      have g0 : DataW.trod enc Tryd.prog W 0 (fun _ => true) true n 22 (([w0, w1, w2, w3].drop 0).take (Tryd.prog.cellsOf 22)) = some y0 := hfs 0 _ rfl
      rw [hc_c] at g0
      have g1 : DataW.trod enc Tryd.prog W 0 (fun _ => true) true n 23 (([w0, w1, w2, w3].drop 1).take (Tryd.prog.cellsOf 23)) = some y1 := hfs 1 _ rfl
      rw [hc_t] at g1
      have g2 : DataW.trod enc Tryd.prog W 0 (fun _ => true) true n 23 (([w0, w1, w2, w3].drop 2).take (Tryd.prog.cellsOf 23)) = some y2 := hfs 2 _ rfl
      rw [hc_t] at g2
      have g3 : DataW.trod enc Tryd.prog W 0 (fun _ => true) true n 3 (([w0, w1, w2, w3].drop 3).take (Tryd.prog.cellsOf 3)) = some y3 := hfs 3 _ rfl
      rw [hc_i] at g3
      obtain ⟨q0, t0⟩ := one_slice Tryd.underlying22 (show DataW.trod enc Tryd.prog W 0 (fun _ => true) true n 22 [w0] = some y0 from g0)
      obtain ⟨x0, hr0, hw0, hd0, hs0⟩ := open_chs q0 t0
      obtain ⟨q1, t1⟩ := one_slice Tryd.underlying23 (show DataW.trod enc Tryd.prog W 0 (fun _ => true) true n 23 [w1] = some y1 from g1)
      obtain ⟨x1, hr1, hw1, hd1, hs1⟩ := open_strs q1 t1
      obtain ⟨q2, t2⟩ := one_slice Tryd.underlying23 (show DataW.trod enc Tryd.prog W 0 (fun _ => true) true n 23 [w2] = some y2 from g2)
      obtain ⟨x2, hr2, hw2, hd2, hs2⟩ := open_strs q2 t2
      obtain ⟨x3, e3, _⟩ := DataW.trod_int Tryd.underlying3 (show DataW.trod enc Tryd.prog W 0 (fun _ => true) true n 3 [w3] = some y3 from g3)
      cases e3
      refine ⟨w0, x0, w1, x1, w2, x2, x3, hv, hr0, hw0, hs0, hr1, hw1, hs1, hr2, hw2, hs2, fun hsz => ?_⟩
      have hdd := (Prod.mk.inj hx).1
      subst hdd
      simp only [List.map_cons, List.map_nil, Rows.uptoBulk, Rows.uptoBulkAll] at hsz
      have b0 := chs_bulk hd0
      have b1 := strs_bulk hd1
      have b2 := strs_bulk hd2
      exact ⟨by omega, by omega, by omega⟩
end Go.Proofs.YtgpgpopefmkpoaaDoor
