/-
  A list of pairs as an argument: opened, sized.
-/
import Derived.Test.YthgibnbpeopoaaaDoorC9
import Derived.Test.YthgibnbpeopoaaaDoorD1
namespace Go.Proofs.YthgibnbpeopoaaaDoor
open Go.RowKit Go.Deep
open Ed (Ch Run Pr)

set_option maxRecDepth 100000 in
theorem open_pr {H : Type} {enc : TypeId × Value → H} {W : World} {n : Nat} {a : Addr} {D : DataW H} {Pl : List MemPlace} {cs : List Value} (h1 : W.cells? 0 a 2 = some cs) (h2 : DataW.trod enc Tryd.prog W 0 (fun _ => true) true n 62 cs = some (D, Pl)) :
    ∃ c : Pr, WfP c ∧ W.cell? (a.add 0) = some (.int .i64 c.1) ∧ W.cell? (a.add 1) = some (.int .i64 c.2) := by
  obtain ⟨_, hlen, hcell⟩ := World.cells?_some h1
  obtain ⟨xs, k, hk, hxy, _, hxl, hf⟩ := DataW.trod_array Tryd.underlying62 h2
  have hc1 : Tryd.prog.cellsOf 3 = 1 := by kernel_rfl
  match cs, hlen with
  | [v0, v1], _ =>
    match xs, hxl with
    | [y0, y1], _ =>
      have g0 : DataW.trod enc Tryd.prog W 0 (fun _ => true) true k 3 (([v0, v1].drop (0 * Tryd.prog.cellsOf 3)).take (Tryd.prog.cellsOf 3)) = some y0 := hf 0 (by omega)
      rw [hc1] at g0
      have g1 : DataW.trod enc Tryd.prog W 0 (fun _ => true) true k 3 (([v0, v1].drop (1 * Tryd.prog.cellsOf 3)).take (Tryd.prog.cellsOf 3)) = some y1 := hf 1 (by omega)
      rw [hc1] at g1
      obtain ⟨x0, e0, _, w0⟩ := DataW.trod_int Tryd.underlying3 (show DataW.trod enc Tryd.prog W 0 (fun _ => true) true k 3 [v0] = some y0 from g0)
      obtain ⟨x1, e1, _, w1⟩ := DataW.trod_int Tryd.underlying3 (show DataW.trod enc Tryd.prog W 0 (fun _ => true) true k 3 [v1] = some y1 from g1)
      cases e0
      cases e1
      exact ⟨(x0, x1), ⟨wf_I64 w0, wf_I64 w1⟩, hcell 0 (by omega), hcell 1 (by omega)⟩
theorem psC_back {l : List Pr} {j : Nat} {u : Value} (h : (psC l)[j]? = some u) : ∃ k i c, j = k * 2 + i ∧ i < 2 ∧ l[k]? = some c ∧ (pC c)[i]? = some u := by
  have hj : j < l.length * 2 := by
    rw [← psC_length]
    rcases Nat.lt_or_ge j (psC l).length with q | q
    · exact q
    · rw [List.getElem?_eq_none q] at h; cases h
  have hk : j / 2 < l.length := by omega
  obtain ⟨c, hc⟩ : ∃ c, l[j / 2]? = some c := ⟨_, List.getElem?_eq_getElem hk⟩
  refine ⟨j / 2, j % 2, c, by omega, by omega, hc, ?_⟩
  rw [← psC_get hc (j % 2) (by omega), show j / 2 * 2 + j % 2 = j by omega]
  exact h
theorem open_prs {H : Type} {enc : TypeId × Value → H} {W : World} {v : Value} {d : DataW H} {p : List MemPlace}
    (hv : ∃ a len cap, v = .slice a len cap) (h : DataW.Trod enc Tryd.prog W 0 (fun _ => true) true 49 v d p) :
    ∃ l : List Pr, RdP W v l ∧ (∀ c ∈ l, WfP c) ∧ ((l = [] ∧ d = .nil) ∨ ∃ (D : Nat → DataW H) (sp : List (DataW H)), d = .slice ((List.range l.length).map D) sp) ∧ (v = .slice none 0 0 ∨ ∃ ad n c, v = .slice (some ad) n c) := by
  obtain ⟨a0, len0, cap0, rfl⟩ := hv
  obtain ⟨fuel, hf⟩ := h
  have hc4 : Tryd.prog.cellsOf 62 = 2 := by kernel_rfl
  rcases open_slice Tryd.underlying49 hf with ⟨hcs, hx⟩ | ⟨a, len, cap, m, n, D, Pl, hcs, _, hl, _, hmm, hx, hcl⟩
  · simp [Value.cells] at hcs hx
    obtain ⟨rfl, rfl, rfl⟩ := hcs
    obtain ⟨rfl, rfl⟩ := hx
    exact ⟨[], .inl ⟨rfl, none, 0, rfl⟩, by simp, .inl ⟨rfl, rfl⟩, .inl rfl⟩
  · simp [Value.cells] at hcs
    obtain ⟨rfl, rfl, rfl⟩ := hcs
    obtain ⟨hd, _⟩ := Prod.mk.inj hx
    have hlm : len0 ≤ m := by simp at hmm; omega
    rw [hc4] at hcl
    obtain ⟨f, hf'⟩ := choose_lt (n := len0) (p := fun i (c : Pr) => WfP c ∧ W.cell? ((a.add (i * 2)).add 0) = some (.int .i64 c.1) ∧ W.cell? ((a.add (i * 2)).add 1) = some (.int .i64 c.2)) (fun i hi => by
      obtain ⟨cs', h1, h2⟩ := hcl i (by omega)
      exact open_pr h1 h2)
    have hlen : ((List.range len0).map f).length = len0 := by simp
    refine ⟨(List.range len0).map f, ?_, ?_, .inr ⟨D, _, by rw [hlen]; exact hd⟩, .inr ⟨_, _, _, rfl⟩⟩
    · by_cases h0 : len0 = 0
      · subst h0
        exact .inl ⟨rfl, some a, cap0, rfl⟩
      · have hfirst := (hf' 0 (by omega)).2.1
        have e00 : (a.add (0 * 2)).add 0 = a := by simp [Addr.add]
        rw [e00] at hfirst
        obtain ⟨b, o, rfl, hb⟩ := addr_none4 hfirst
        refine .inr ⟨b, o, cap0, by rw [hlen], by rw [hlen]; exact hl, hb, fun j u hj => ?_⟩
        obtain ⟨k, i, c, rfl, hi, hk, hu⟩ := psC_back hj
        have hkl : k < len0 := by
          rcases Nat.lt_or_ge k len0 with q | q
          · exact q
          · rw [List.getElem?_eq_none (by rw [hlen]; exact q)] at hk; cases hk
        have hfk : c = f k := by
          rw [List.getElem?_map, List.getElem?_range hkl] at hk
          simpa using hk.symm
        subst hfk
        obtain ⟨_, c0, c1⟩ := hf' k hkl
        rw [Go.WideShapes.add_plain, Go.WideShapes.add_plain] at c0 c1
        match i, hi with
        | 0, _ => cases hu; exact c0
        | 1, _ => cases hu; rw [← Nat.add_assoc]; exact c1
    · intro c hc
      obtain ⟨i, hi, rfl⟩ := List.mem_map.1 hc
      exact (hf' i (List.mem_range.1 hi)).1
theorem prs_sized {H : Type} {d : DataW H} {l : List Pr} {ts : List TypeId} {ds : List (DataW H)} {j : Nat} (h : (DataW.weightsEach Tryd.prog ts ds).all (· ≤ reachBytes) = true)
    (ht : ts[j]? = some 49) (hd : ds[j]? = some d) (hx : (l = [] ∧ d = .nil) ∨ ∃ (D : Nat → DataW H) (sp : List (DataW H)), d = .slice ((List.range l.length).map D) sp) : l.length ≤ 8796093021952 := by
  rcases hx with ⟨rfl, _⟩ | ⟨D, sp, rfl⟩
  · simp
  · have h1 := sized_slice h ht hd Tryd.underlying49
    have h2 : Tryd.prog.bytesOf 62 = 16 := by kernel_rfl
    rw [h2, List.length_map, List.length_range] at h1
    have h3 : reachBytes = 140737488351232 := by decide
    omega
end Go.Proofs.YthgibnbpeopoaaaDoor
