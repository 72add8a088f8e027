/-
  A list of numbers as an argument: opened, sized.
-/
import Derived.Test.YtmomeemkdfoklaaDoorC9
namespace Go.Proofs.YtmomeemkdfoklaaDoor
open Go.RowKit Go.Deep
open Ed (Ch Run Pr)

set_option maxRecDepth 100000 in
theorem open_n {H : Type} {enc : TypeId × Value → H} {W : World} {n : Nat} {a : Addr} {D : DataW H} {Pl : List MemPlace} {cs : List Value} (h1 : W.cells? 0 a 1 = some cs) (h2 : DataW.trod enc Tryd.prog W 0 (fun _ => true) true n 3 cs = some (D, Pl)) :
    ∃ x : Int, I64 x ∧ W.cell? (a.add 0) = some (.int .i64 x) := by
  obtain ⟨_, hlen, hcell⟩ := World.cells?_some h1
  match cs, hlen with
  | [v0], _ =>
    obtain ⟨x0, e0, _, w0⟩ := DataW.trod_int Tryd.underlying3 h2
    cases e0
    exact ⟨x0, wf_I64 w0, hcell 0 (by omega)⟩
theorem open_ints {H : Type} {enc : TypeId × Value → H} {W : World} {v : Value} {d : DataW H} {p : List MemPlace}
    (hv : ∃ a len cap, v = .slice a len cap) (h : DataW.Trod enc Tryd.prog W 0 (fun _ => true) true 23 v d p) :
    ∃ l : List Int, RdI W v l ∧ (∀ c ∈ l, I64 c) ∧ ((l = [] ∧ d = .nil) ∨ ∃ (D : Nat → DataW H) (sp : List (DataW H)), d = .slice ((List.range l.length).map D) sp) ∧ (v = .slice none 0 0 ∨ ∃ ad n c, v = .slice (some ad) n c) := by
  obtain ⟨a0, len0, cap0, rfl⟩ := hv
  obtain ⟨fuel, hf⟩ := h
  have hc1 : Tryd.prog.cellsOf 3 = 1 := by kernel_rfl
  rcases open_slice Tryd.underlying23 hf with ⟨hcs, hx⟩ | ⟨a, len, cap, m, n, D, Pl, hcs, _, hl, _, hmm, hx, hcl⟩
  · simp [Value.cells] at hcs hx
    obtain ⟨rfl, rfl, rfl⟩ := hcs
    obtain ⟨rfl, rfl⟩ := hx
    exact ⟨[], .inl ⟨rfl, none, 0, rfl⟩, by simp, .inl ⟨rfl, rfl⟩, .inl rfl⟩
  · simp [Value.cells] at hcs
    obtain ⟨rfl, rfl, rfl⟩ := hcs
    obtain ⟨hd, _⟩ := Prod.mk.inj hx
    have hlm : len0 ≤ m := by simp at hmm; omega
    rw [hc1] at hcl
    obtain ⟨f, hf'⟩ := choose_lt (n := len0) (p := fun i (c : Int) => I64 c ∧ W.cell? ((a.add (i * 1)).add 0) = some (.int .i64 c)) (fun i hi => by
      obtain ⟨cs', h1, h2⟩ := hcl i (by omega)
      exact open_n h1 h2)
    have hlen : ((List.range len0).map f).length = len0 := by simp
    refine ⟨(List.range len0).map f, ?_, ?_, .inr ⟨D, _, by rw [hlen]; exact hd⟩, .inr ⟨_, _, _, rfl⟩⟩
    · by_cases h0 : len0 = 0
      · subst h0
        exact .inl ⟨rfl, some a, cap0, rfl⟩
      · have hfirst := (hf' 0 (by omega)).2
        have e00 : (a.add (0 * 1)).add 0 = a := by simp [Addr.add]
        rw [e00] at hfirst
        obtain ⟨b, o, rfl, hb⟩ := addr_none4 hfirst
        refine .inr ⟨b, o, cap0, by rw [hlen], by rw [hlen]; exact hl, hb, fun j u hj => ?_⟩
        unfold isC at hj
        rw [List.getElem?_map] at hj
        have hjl : j < len0 := by
          rcases Nat.lt_or_ge j len0 with q | q
          · exact q
          · rw [List.getElem?_eq_none (by rw [hlen]; exact q)] at hj; cases hj
        rw [List.getElem?_map, List.getElem?_range hjl] at hj
        simp at hj
        subst hj
        have c0 := (hf' j hjl).2
        rw [Go.WideShapes.add_plain, Go.WideShapes.add_plain, Nat.mul_one, Nat.add_zero] at c0
        exact c0
    · intro c hc
      obtain ⟨i, hi, rfl⟩ := List.mem_map.1 hc
      exact (hf' i (List.mem_range.1 hi)).1
theorem ints_sized {H : Type} {d : DataW H} {l : List Int} {ts : List TypeId} {ds : List (DataW H)} {j : Nat} (h : (DataW.weightsEach Tryd.prog ts ds).all (· ≤ reachBytes) = true)
    (ht : ts[j]? = some 23) (hd : ds[j]? = some d) (hx : (l = [] ∧ d = .nil) ∨ ∃ (D : Nat → DataW H) (sp : List (DataW H)), d = .slice ((List.range l.length).map D) sp) : l.length ≤ 17592186043904 := by
  rcases hx with ⟨rfl, _⟩ | ⟨D, sp, rfl⟩
  · simp
  · have h1 := sized_slice h ht hd Tryd.underlying23
    have h2 : Tryd.prog.bytesOf 3 = 8 := by kernel_rfl
    rw [h2, List.length_map, List.length_range] at h1
    have h3 : reachBytes = 140737488351232 := by decide
    omega
end Go.Proofs.YtmomeemkdfoklaaDoor
