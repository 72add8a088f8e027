/-
  A list of changes as an argument: opened, sized.
-/
import Derived.Test.YtjgjfnmljmmplaaDoorC0
import Derived.ProofKit
import Derived.OpenShut
import Derived.SizedLaws
import Derived.Deep.Slices
namespace Go.Proofs.YtjgjfnmljmmplaaDoor
open Go.RowKit Go.Deep
open Ed (Ch Run Pr)

theorem laidOut : laidOutB Tryd.prog = true := by kernel_rfl
instance : Inhabited Ch := ⟨⟨0, 0, 0, 0⟩⟩
theorem wf_I64 {n : Int} (h : (Lit.int .i64 n).wf = true) : I64 n := by
  simp only [Lit.wf, Bool.and_eq_true, decide_eq_true_eq] at h
  exact h
theorem addr_none4 {w : World} {a : Addr} {v : Value} (h : w.cell? a = some v) : ∃ b o, a = ⟨b, o, none⟩ ∧ b < w.heap.size := by
  obtain ⟨b, o, spot⟩ := a
  have hspot : spot = none := World.cell?_spot h
  subst hspot
  exact ⟨b, o, rfl, lt_of_cell h⟩
set_option maxRecDepth 100000 in
theorem open_ch {H : Type} {enc : TypeId × Value → H} {W : World} {n : Nat} {a : Addr} {D : DataW H} {Pl : List MemPlace} {cs : List Value} (h1 : W.cells? 0 a 4 = some cs) (h2 : DataW.trod enc Tryd.prog W 0 (fun _ => true) true n 45 cs = some (D, Pl)) :
    ∃ c : Ch, WfC c ∧ W.cell? (a.add 0) = some (.int .i64 c.a) ∧ W.cell? (a.add 1) = some (.int .i64 c.n) ∧ W.cell? (a.add 2) = some (.int .i64 c.b) ∧ W.cell? (a.add 3) = some (.int .i64 c.m) := by
  obtain ⟨_, hlen, hcell⟩ := World.cells?_some h1
  obtain ⟨xs, k, hk, hxy, _, hxl, hf⟩ := DataW.trod_struct Tryd.underlying45 h2
  have hc1 : Tryd.prog.cellsOf 3 = 1 := by kernel_rfl
  match cs, hlen with
  | [v0, v1, v2, v3], _ =>
    match xs, hxl with
    | [y0, y1, y2, y3], _ =>
      have g0 : DataW.trod enc Tryd.prog W 0 (fun _ => true) true k 3 (([v0, v1, v2, v3].drop 0).take (Tryd.prog.cellsOf 3)) = some y0 := hf 0 _ rfl
      rw [hc1] at g0
      have g1 : DataW.trod enc Tryd.prog W 0 (fun _ => true) true k 3 (([v0, v1, v2, v3].drop 1).take (Tryd.prog.cellsOf 3)) = some y1 := hf 1 _ rfl
      rw [hc1] at g1
      have g2 : DataW.trod enc Tryd.prog W 0 (fun _ => true) true k 3 (([v0, v1, v2, v3].drop 2).take (Tryd.prog.cellsOf 3)) = some y2 := hf 2 _ rfl
      rw [hc1] at g2
      have g3 : DataW.trod enc Tryd.prog W 0 (fun _ => true) true k 3 (([v0, v1, v2, v3].drop 3).take (Tryd.prog.cellsOf 3)) = some y3 := hf 3 _ rfl
      rw [hc1] at g3
      obtain ⟨x0, e0, _, w0⟩ := DataW.trod_int Tryd.underlying3 (show DataW.trod enc Tryd.prog W 0 (fun _ => true) true k 3 [v0] = some y0 from g0)
      obtain ⟨x1, e1, _, w1⟩ := DataW.trod_int Tryd.underlying3 (show DataW.trod enc Tryd.prog W 0 (fun _ => true) true k 3 [v1] = some y1 from g1)
      obtain ⟨x2, e2, _, w2⟩ := DataW.trod_int Tryd.underlying3 (show DataW.trod enc Tryd.prog W 0 (fun _ => true) true k 3 [v2] = some y2 from g2)
      obtain ⟨x3, e3, _, w3⟩ := DataW.trod_int Tryd.underlying3 (show DataW.trod enc Tryd.prog W 0 (fun _ => true) true k 3 [v3] = some y3 from g3)
      cases e0
      cases e1
      cases e2
      cases e3
      exact ⟨⟨x0, x1, x2, x3⟩, ⟨wf_I64 w0, wf_I64 w1, wf_I64 w2, wf_I64 w3⟩, hcell 0 (by omega), hcell 1 (by omega), hcell 2 (by omega), hcell 3 (by omega)⟩
theorem csC_back {l : List Ch} {j : Nat} {u : Value} (h : (csC l)[j]? = some u) : ∃ k i c, j = k * 4 + i ∧ i < 4 ∧ l[k]? = some c ∧ (cC c)[i]? = some u := by
  have hj : j < l.length * 4 := by
    rw [← csC_length]
    rcases Nat.lt_or_ge j (csC l).length with q | q
    · exact q
    · rw [List.getElem?_eq_none q] at h; cases h
  have hk : j / 4 < l.length := by omega
  obtain ⟨c, hc⟩ : ∃ c, l[j / 4]? = some c := ⟨_, List.getElem?_eq_getElem hk⟩
  refine ⟨j / 4, j % 4, c, by omega, by omega, hc, ?_⟩
  rw [← csC_get hc (j % 4) (by omega), show j / 4 * 4 + j % 4 = j by omega]
  exact h
theorem open_chs {H : Type} {enc : TypeId × Value → H} {W : World} {v : Value} {d : DataW H} {p : List MemPlace}
    (hv : ∃ a len cap, v = .slice a len cap) (h : DataW.Trod enc Tryd.prog W 0 (fun _ => true) true 22 v d p) :
    ∃ l : List Ch, RdC W v l ∧ (∀ c ∈ l, WfC c) ∧ ((l = [] ∧ d = .nil) ∨ ∃ (D : Nat → DataW H) (sp : List (DataW H)), d = .slice ((List.range l.length).map D) sp) ∧ (v = .slice none 0 0 ∨ ∃ ad n c, v = .slice (some ad) n c) := by
  obtain ⟨a0, len0, cap0, rfl⟩ := hv
  obtain ⟨fuel, hf⟩ := h
  have hc4 : Tryd.prog.cellsOf 45 = 4 := by kernel_rfl
  rcases open_slice Tryd.underlying22 hf with ⟨hcs, hx⟩ | ⟨a, len, cap, m, n, D, Pl, hcs, _, hl, _, hmm, hx, hcl⟩
  · simp [Value.cells] at hcs hx
    obtain ⟨rfl, rfl, rfl⟩ := hcs
    obtain ⟨rfl, rfl⟩ := hx
    exact ⟨[], .inl ⟨rfl, none, 0, rfl⟩, by simp, .inl ⟨rfl, rfl⟩, .inl rfl⟩
  · simp [Value.cells] at hcs
    obtain ⟨rfl, rfl, rfl⟩ := hcs
    obtain ⟨hd, _⟩ := Prod.mk.inj hx
    have hlm : len0 ≤ m := by simp at hmm; omega
    rw [hc4] at hcl
    obtain ⟨f, hf'⟩ := choose_lt (n := len0) (p := fun i (c : Ch) => WfC c ∧ W.cell? ((a.add (i * 4)).add 0) = some (.int .i64 c.a) ∧ W.cell? ((a.add (i * 4)).add 1) = some (.int .i64 c.n) ∧ W.cell? ((a.add (i * 4)).add 2) = some (.int .i64 c.b) ∧ W.cell? ((a.add (i * 4)).add 3) = some (.int .i64 c.m)) (fun i hi => by
      obtain ⟨cs', h1, h2⟩ := hcl i (by omega)
      exact open_ch h1 h2)
    have hlen : ((List.range len0).map f).length = len0 := by simp
    refine ⟨(List.range len0).map f, ?_, ?_, .inr ⟨D, _, by rw [hlen]; exact hd⟩, .inr ⟨_, _, _, rfl⟩⟩
    · by_cases h0 : len0 = 0
      · subst h0
        exact .inl ⟨rfl, some a, cap0, rfl⟩
      · have hfirst := (hf' 0 (by omega)).2.1
        have e00 : (a.add (0 * 4)).add 0 = a := by simp [Addr.add]
        rw [e00] at hfirst
        obtain ⟨b, o, rfl, hb⟩ := addr_none4 hfirst
        refine .inr ⟨b, o, cap0, by rw [hlen], by rw [hlen]; exact hl, hb, fun j u hj => ?_⟩
        obtain ⟨k, i, c, rfl, hi, hk, hu⟩ := csC_back hj
        have hkl : k < len0 := by
          rcases Nat.lt_or_ge k len0 with q | q
          · exact q
          · rw [List.getElem?_eq_none (by rw [hlen]; exact q)] at hk; cases hk
        have hfk : c = f k := by
          rw [List.getElem?_map, List.getElem?_range hkl] at hk
          simpa using hk.symm
        subst hfk
        obtain ⟨_, c0, c1, c2, c3⟩ := hf' k hkl
        rw [Go.WideShapes.add_plain, Go.WideShapes.add_plain] at c0 c1 c2 c3
        match i, hi with
        | 0, _ => cases hu; exact c0
        | 1, _ => cases hu; rw [← Nat.add_assoc]; exact c1
        | 2, _ => cases hu; rw [← Nat.add_assoc]; exact c2
        | 3, _ => cases hu; rw [← Nat.add_assoc]; exact c3
    · intro c hc
      obtain ⟨i, hi, rfl⟩ := List.mem_map.1 hc
      exact (hf' i (List.mem_range.1 hi)).1
theorem chs_sized {H : Type} {d : DataW H} {l : List Ch} {ts : List TypeId} {ds : List (DataW H)} {j : Nat} (h : (DataW.weightsEach Tryd.prog ts ds).all (· ≤ reachBytes) = true)
    (ht : ts[j]? = some 22) (hd : ds[j]? = some d) (hx : (l = [] ∧ d = .nil) ∨ ∃ (D : Nat → DataW H) (sp : List (DataW H)), d = .slice ((List.range l.length).map D) sp) : l.length ≤ 4398046510976 := by
  rcases hx with ⟨rfl, _⟩ | ⟨D, sp, rfl⟩
  · simp
  · have h1 := sized_slice h ht hd Tryd.underlying22
    have h2 : Tryd.prog.bytesOf 45 = 32 := by kernel_rfl
    rw [h2, List.length_map, List.length_range] at h1
    have h3 : reachBytes = 140737488351232 := by decide
    omega
end Go.Proofs.YtjgjfnmljmmplaaDoor
