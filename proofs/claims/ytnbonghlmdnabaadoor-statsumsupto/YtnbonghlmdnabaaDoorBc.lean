/-
  A list of counts as an argument: opened, sized by its bulk.
-/
import Derived.Test.YtnbonghlmdnabaaDoorB1
import Derived.Test.YtnbonghlmdnabaaDoorC9
namespace Go.Proofs.YtnbonghlmdnabaaDoor.Sx
open Go.RowKit Go.Deep

instance : Inhabited Ct := ⟨⟨.empty, 0, 0⟩⟩
/-- what a count's datum is -/
def DatC {H : Type} (c : Ct) (D : DataW H) : Prop := ∃ d1 d2, D = .agg [.lit (.string c.nm.data.toList), d1, d2]
/-- a count's numbers are ints, its name a string -/
def WfK (c : Ct) : Prop := I64 c.a ∧ I64 c.d ∧ c.nm.size ≤ maxLen
set_option maxRecDepth 100000 in
theorem open_ct {H : Type} {enc : TypeId × Value → H} {W : World} {n : Nat} {a : Addr} {D : DataW H} {Pl : List MemPlace} {cs : List Value} (h1 : W.cells? 0 a 3 = some cs) (h2 : DataW.trod enc Tryd.prog W 0 (fun _ => true) true n 37 cs = some (D, Pl)) :
    ∃ c : Ct, (WfK c ∧ DatC c D) ∧ W.cell? (a.add 0) = some (.string c.nm) ∧ W.cell? (a.add 1) = some (.int .i64 c.a) ∧ W.cell? (a.add 2) = some (.int .i64 c.d) := by
  obtain ⟨_, hlen, hcell⟩ := World.cells?_some h1
  obtain ⟨xs, k, hk, hxy, _, hxl, hf⟩ := DataW.trod_struct Tryd.underlying37 h2
  have hc1 : Tryd.prog.cellsOf 3 = 1 := by kernel_rfl
  have hc2 : Tryd.prog.cellsOf 9 = 1 := by kernel_rfl
  match cs, hlen with
  | [v0, v1, v2], _ =>
    match xs, hxl with
    | [y0, y1, y2], _ =>
      have g0 : DataW.trod enc Tryd.prog W 0 (fun _ => true) true k 9 (([v0, v1, v2].drop 0).take (Tryd.prog.cellsOf 9)) = some y0 := hf 0 _ rfl
      rw [hc2] at g0
      have g1 : DataW.trod enc Tryd.prog W 0 (fun _ => true) true k 3 (([v0, v1, v2].drop 1).take (Tryd.prog.cellsOf 3)) = some y1 := hf 1 _ rfl
      rw [hc1] at g1
      have g2 : DataW.trod enc Tryd.prog W 0 (fun _ => true) true k 3 (([v0, v1, v2].drop 2).take (Tryd.prog.cellsOf 3)) = some y2 := hf 2 _ rfl
      rw [hc1] at g2
      obtain ⟨x0, e0, u0, w0⟩ := DataW.trod_string Tryd.underlying9 (show DataW.trod enc Tryd.prog W 0 (fun _ => true) true k 9 [v0] = some y0 from g0)
      obtain ⟨x1, e1, u1, w1⟩ := DataW.trod_int Tryd.underlying3 (show DataW.trod enc Tryd.prog W 0 (fun _ => true) true k 3 [v1] = some y1 from g1)
      obtain ⟨x2, e2, u2, w2⟩ := DataW.trod_int Tryd.underlying3 (show DataW.trod enc Tryd.prog W 0 (fun _ => true) true k 3 [v2] = some y2 from g2)
      cases e0
      cases e1
      cases e2
      have hD := congrArg Prod.fst hxy
      subst u0
      exact ⟨⟨x0, x1, x2⟩, ⟨⟨wf_I64 w1, wf_I64 w2, w0⟩, ⟨_, _, hD⟩⟩, hcell 0 (by omega), hcell 1 (by omega), hcell 2 (by omega)⟩
theorem ctsC_back {l : List Ct} {j : Nat} {u : Value} (h : (ctsC l)[j]? = some u) : ∃ k i c, j = k * 3 + i ∧ i < 3 ∧ l[k]? = some c ∧ (ctC c)[i]? = some u := by
  have hj : j < l.length * 3 := by
    rw [← ctsC_length]
    rcases Nat.lt_or_ge j (ctsC l).length with q | q
    · exact q
    · rw [List.getElem?_eq_none q] at h; cases h
  have hk : j / 3 < l.length := by omega
  obtain ⟨c, hc⟩ : ∃ c, l[j / 3]? = some c := ⟨_, List.getElem?_eq_getElem hk⟩
  refine ⟨j / 3, j % 3, c, by omega, by omega, hc, ?_⟩
  rw [← ctsC_get hc (j % 3) (by omega), show j / 3 * 3 + j % 3 = j by omega]
  exact h
theorem open_cts {H : Type} {enc : TypeId × Value → H} {W : World} {v : Value} {d : DataW H} {p : List MemPlace}
    (hv : ∃ a len cap, v = .slice a len cap) (h : DataW.Trod enc Tryd.prog W 0 (fun _ => true) true 22 v d p) :
    ∃ l : List Ct, RdK W v l ∧ (∀ c ∈ l, WfK c) ∧ ((l = [] ∧ d = .nil) ∨ ∃ (D : Nat → DataW H) (sp : List (DataW H)), d = .slice ((List.range l.length).map D) sp ∧ ∀ j c, l[j]? = some c → DatC c (D j)) ∧ (v = .slice none 0 0 ∨ ∃ ad n c, v = .slice (some ad) n c) := by
  obtain ⟨a0, len0, cap0, rfl⟩ := hv
  obtain ⟨fuel, hf⟩ := h
  have hc4 : Tryd.prog.cellsOf 37 = 3 := by kernel_rfl
  rcases open_slice Tryd.underlying22 hf with ⟨hcs, hx⟩ | ⟨a, len, cap, m, n, D, Pl, hcs, _, hl, _, hmm, hx, hcl⟩
  · simp [Value.cells] at hcs hx
    obtain ⟨rfl, rfl, rfl⟩ := hcs
    obtain ⟨rfl, rfl⟩ := hx
    exact ⟨[], .inl ⟨rfl, none, 0, rfl⟩, by simp, .inl ⟨rfl, rfl⟩, .inl rfl⟩
  · simp [Value.cells] at hcs
    obtain ⟨rfl, rfl, rfl⟩ := hcs
    obtain ⟨hd, _⟩ := Prod.mk.inj hx
    have hlm : len0 ≤ m := by simp at hmm; omega
    rw [hc4] at hcl
    obtain ⟨f, hf'⟩ := choose_lt (n := len0) (p := fun i (c : Ct) => (WfK c ∧ DatC c (D i)) ∧ W.cell? ((a.add (i * 3)).add 0) = some (.string c.nm) ∧ W.cell? ((a.add (i * 3)).add 1) = some (.int .i64 c.a) ∧ W.cell? ((a.add (i * 3)).add 2) = some (.int .i64 c.d)) (fun i hi => by
      obtain ⟨cs', h1, h2⟩ := hcl i (by omega)
      exact open_ct h1 h2)
    have hlen : ((List.range len0).map f).length = len0 := by simp
    have hat : ∀ k q, ((List.range len0).map f)[k]? = some q → k < len0 ∧ q = f k := by
      intro k q hk
      have hkl : k < len0 := by
        rcases Nat.lt_or_ge k len0 with q | q
        · exact q
        · rw [List.getElem?_eq_none (by rw [hlen]; exact q)] at hk; cases hk
      rw [List.getElem?_map, List.getElem?_range hkl] at hk
      exact ⟨hkl, by simpa using hk.symm⟩
    refine ⟨(List.range len0).map f, ?_, ?_, .inr ⟨D, _, by rw [hlen]; exact hd, ?_⟩, .inr ⟨_, _, _, rfl⟩⟩
    · by_cases h0 : len0 = 0
      · subst h0
        exact .inl ⟨rfl, some a, cap0, rfl⟩
      · have hfirst := (hf' 0 (by omega)).2.1
        have e00 : (a.add (0 * 3)).add 0 = a := by simp [Addr.add]
        rw [e00] at hfirst
        obtain ⟨b, o, rfl, hb⟩ := addr_none4 hfirst
        refine .inr ⟨b, o, cap0, by rw [hlen], by rw [hlen]; exact hl, hb, fun j u hj => ?_⟩
        obtain ⟨k, i, c, rfl, hi, hk, hu⟩ := ctsC_back hj
        obtain ⟨hkl, rfl⟩ := hat k c hk
        obtain ⟨_, c0, c1, c2⟩ := hf' k hkl
        rw [Go.WideShapes.add_plain, Go.WideShapes.add_plain] at c0 c1 c2
        match i, hi with
        | 0, _ => cases hu; exact c0
        | 1, _ => cases hu; rw [← Nat.add_assoc]; exact c1
        | 2, _ => cases hu; rw [← Nat.add_assoc]; exact c2
    · intro c hc
      obtain ⟨i, hi, rfl⟩ := List.mem_map.1 hc
      exact (hf' i (List.mem_range.1 hi)).1.1
    · intro j c hc
      obtain ⟨hj, rfl⟩ := hat j c hc
      exact (hf' j hj).1.2
/-! ### by the bulk -/
theorem bulk_posK {H : Type} (d : DataW H) : 1 ≤ Rows.uptoBulk d := by
  cases d with
  | lit l => cases l <;> simp [Rows.uptoBulk]
  | _ => simp [Rows.uptoBulk]
theorem bulk_lenK {H : Type} : ∀ l : List (DataW H), l.length ≤ Rows.uptoBulkAll l
  | [] => by simp
  | d :: r => by
    have h1 := bulk_posK d
    have h2 := bulk_lenK r
    simp only [Rows.uptoBulkAll, List.length_cons]
    omega
theorem bulk_memK {H : Type} {d : DataW H} : ∀ {l : List (DataW H)}, d ∈ l → Rows.uptoBulk d ≤ Rows.uptoBulkAll l
  | e :: r, h => by
    simp only [Rows.uptoBulkAll]
    rcases List.mem_cons.1 h with rfl | h
    · omega
    · have := bulk_memK h; omega
theorem cts_bulk {H : Type} {d : DataW H} {l : List Ct} (hx : (l = [] ∧ d = .nil) ∨ ∃ (D : Nat → DataW H) (sp : List (DataW H)), d = .slice ((List.range l.length).map D) sp ∧ ∀ j c, l[j]? = some c → DatC c (D j)) : l.length ≤ Rows.uptoBulk d ∧ ∀ c ∈ l, c.nm.size ≤ Rows.uptoBulk d := by
  rcases hx with ⟨rfl, _⟩ | ⟨D, sp, rfl, hD⟩
  · simp
  · have h := bulk_lenK ((List.range l.length).map D)
    rw [List.length_map, List.length_range] at h
    refine ⟨by simp only [Rows.uptoBulk]; omega, fun c hc => ?_⟩
    obtain ⟨k, hk⟩ := List.mem_iff_getElem?.1 hc
    have hkl : k < l.length := (List.getElem?_eq_some_iff.1 hk).1
    obtain ⟨d1, d2, e⟩ := hD k c hk
    have hm : D k ∈ (List.range l.length).map D := List.mem_map.2 ⟨k, List.mem_range.2 hkl, rfl⟩
    have h2 := bulk_memK hm
    rw [e] at h2
    simp only [Rows.uptoBulk, Rows.uptoBulkAll, dsize] at h2 ⊢
    omega
end Go.Proofs.YtnbonghlmdnabaaDoor.Sx
