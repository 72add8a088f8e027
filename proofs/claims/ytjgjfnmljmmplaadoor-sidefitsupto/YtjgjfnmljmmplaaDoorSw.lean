/-
  Lists of strings and the struct Case of layer 15 as arguments, by their bulk. (Made by wip/gensw.py.)
-/
import Derived.Test.YtjgjfnmljmmplaaDoorSv
import Derived.Test.YtjgjfnmljmmplaaDoorC6
import Derived.Test.YtjgjfnmljmmplaaDoorC9
import Derived.Test.YtjgjfnmljmmplaaDoorD3
import Derived.SliceStrings
namespace Go.Proofs.YtjgjfnmljmmplaaDoor
open Go.RowKit Go.Deep Go.ChangeShapes Go.WideShapes Go.ChangeAt
open Ed (Ch Run Pr)

theorem flat_app (L M : List ByteArray) : flatB (L ++ M) = flatB L ++ flatB M := by unfold flatB; rw [List.map_append, List.flatten_append]
theorem flat_mem {L : List ByteArray} {x : ByteArray} (h : x ∈ L) : x.size ≤ (flatB L).length := by
  obtain ⟨a, b, rfl⟩ := List.append_of_mem h
  rw [flat_app, List.length_append]
  have e : flatB (x :: b) = x.data.toList ++ flatB b := rfl
  rw [e, List.length_append, dsize]
  omega
theorem open_strs {H : Type} {enc : TypeId × Value → H} {W : World} {v : Value} {d : DataW H} {p : List MemPlace}
    (hv : ∃ a len cap, v = .slice a len cap) (h : DataW.Trod enc Tryd.prog W 0 (fun _ => true) true 23 v d p) :
    ∃ xs : List ByteArray, RdT W v xs ∧ (∀ x ∈ xs, x.size ≤ maxLen) ∧ ((xs = [] ∧ d = .nil) ∨ ∃ sp, d = .slice (strs xs) sp) ∧ ArgS v := by
  obtain ⟨a0, len0, cap0, rfl⟩ := hv
  obtain ⟨fuel, hf⟩ := h
  have hcell : Tryd.prog.cellsOf 9 = 1 := by kernel_rfl
  rcases open_strings Tryd.underlying23 Tryd.underlying9 hcell hf with ⟨hcs, hx⟩ | ⟨a, len, cap, ss, hcs, _, hl, hm, hss, hx, hcl, hws⟩
  · simp [Value.cells] at hcs hx
    obtain ⟨rfl, rfl, rfl⟩ := hcs
    obtain ⟨rfl, rfl⟩ := hx
    exact ⟨[], .inl ⟨rfl, none, 0, rfl⟩, by simp, .inl ⟨rfl, rfl⟩, .inl rfl⟩
  · simp [Value.cells] at hcs hss
    obtain ⟨rfl, rfl, rfl⟩ := hcs
    obtain ⟨hd, hp⟩ := Prod.mk.inj hx
    refine ⟨ss.take len0, ?_, fun x hx => hws x (List.mem_of_mem_take hx), .inr ⟨_, hd⟩, .inr ⟨_, _, _, rfl⟩⟩
    by_cases h0 : len0 = 0
    · subst h0
      exact .inl ⟨by simp, some a, cap0, rfl⟩
    · obtain ⟨b, o, e, hb⟩ := addr_none4 (hcl 0 (by omega))
      obtain ⟨b', o', rfl⟩ : ∃ b' o', a = ⟨b', o', none⟩ := by
        obtain ⟨b', o', s'⟩ := a
        have : s' = none := by
          have := congrArg Addr.spot e
          simpa [Addr.add] using this
        exact ⟨b', o', by rw [this]⟩
      have hb' : b' < W.heap.size := by
        have := congrArg Addr.block e
        simp [Addr.add] at this
        omega
      have hlen : (ss.take len0).length = len0 := by rw [List.length_take]; omega
      refine .inr ⟨b', o', cap0, by rw [hlen], by rw [hlen]; exact hl, hb', fun j u hj => ?_⟩
      unfold stC at hj
      rw [List.getElem?_map] at hj
      cases hx : (ss.take len0)[j]? with
      | none => rw [hx] at hj; cases hj
      | some x =>
        rw [hx] at hj
        simp at hj
        subst hj
        have hj' : j < len0 := by
          rcases Nat.lt_or_ge j len0 with k | k
          · exact k
          · rw [List.getElem?_eq_none (by rw [hlen]; exact k)] at hx; cases hx
        have := hcl j (by omega)
        rw [List.getElem?_take, if_pos hj'] at hx
        rw [List.getD_eq_getElem?_getD, hx] at this
        rw [Go.WideShapes.add_plain] at this
        exact this

theorem strs_length {H : Type} (xs : List ByteArray) : (strs (H := H) xs).length = xs.length := by
  induction xs with
  | nil => rfl
  | cons x r ih => show (_ :: strs r).length = _; rw [List.length_cons, List.length_cons, ih]
theorem bulk_pos {H : Type} (d : DataW H) : 1 ≤ Rows.uptoBulk d := by
  cases d with
  | lit l => cases l <;> simp [Rows.uptoBulk]
  | _ => simp [Rows.uptoBulk]
theorem bulk_len {H : Type} : ∀ l : List (DataW H), l.length ≤ Rows.uptoBulkAll l
  | [] => by simp
  | d :: r => by
    have h1 := bulk_pos d
    have h2 := bulk_len r
    simp only [Rows.uptoBulkAll, List.length_cons]
    omega
theorem chs_bulk {H : Type} {d : DataW H} {l : List Ch} (hx : (l = [] ∧ d = .nil) ∨ ∃ (D : Nat → DataW H) (sp : List (DataW H)), d = .slice ((List.range l.length).map D) sp) : l.length ≤ Rows.uptoBulk d := by
  rcases hx with ⟨rfl, _⟩ | ⟨D, sp, rfl⟩
  · simp
  · have h := bulk_len ((List.range l.length).map D)
    rw [List.length_map, List.length_range] at h
    simp only [Rows.uptoBulk]
    omega
theorem strs_bulkA {H : Type} (xs : List ByteArray) : xs.length + (flatB xs).length ≤ Rows.uptoBulkAll (strs (H := H) xs) := by
  induction xs with
  | nil => exact Nat.zero_le _
  | cons x r ih =>
    show (r.length + 1) + (x.data.toList ++ flatB r).length ≤ Rows.uptoBulk (DataW.lit (H := H) (.string x.data.toList)) + Rows.uptoBulkAll (strs (H := H) r)
    simp only [Rows.uptoBulk, List.length_append]
    omega
theorem strs_bulk {H : Type} {d : DataW H} {xs : List ByteArray} (hx : (xs = [] ∧ d = .nil) ∨ ∃ sp, d = .slice (strs xs) sp) : xs.length + (flatB xs).length ≤ Rows.uptoBulk d := by
  rcases hx with ⟨rfl, _⟩ | ⟨sp, rfl⟩
  · exact Nat.zero_le _
  · have h := strs_bulkA (H := H) xs
    simp only [Rows.uptoBulk]
    omega
theorem strs_each_up {H : Type} {d : DataW H} {xs : List ByteArray} (hx : (xs = [] ∧ d = .nil) ∨ ∃ sp, d = .slice (strs xs) sp) (hb : Rows.uptoBulk d ≤ 1048576) : xs.length ≤ 1048576 := by
  have := strs_bulk hx
  omega

theorem one_slice {H : Type} {enc : TypeId × Value → H} {W : World} {n : Nat} {t e : TypeId} {v : Value} {y : DataW H × List MemPlace} (hu : Tryd.prog.underlying t = some (.slice e)) (h : DataW.trod enc Tryd.prog W 0 (fun _ => true) true n t [v] = some y) :
    (∃ a len cap, v = .slice a len cap) ∧ DataW.Trod enc Tryd.prog W 0 (fun _ => true) true t v y.1 y.2 := by
  have hs : ∃ a len cap, v = .slice a len cap := by
    rcases open_slice hu h with ⟨hcs, _⟩ | ⟨a, len, cap, m, n', D, Pl, hcs, _⟩
    · simp at hcs; exact ⟨_, _, _, hcs⟩
    · simp at hcs; exact ⟨_, _, _, hcs⟩
  refine ⟨hs, n, ?_⟩
  obtain ⟨a, len, cap, rfl⟩ := hs
  exact h
theorem agg_of {v : Value} {k : Nat} (hk : 1 < k) (hl : v.cells.toList.length = k) : ∃ l : List Value, v = .agg l.toArray ∧ v.cells.toList = l := by
  cases v with
  | agg cs => exact ⟨cs.toList, by simp, rfl⟩
  | _ => simp [Value.cells] at hl; omega
def SzS (x : ByteArray) : Prop := x.size ≤ maxLen
set_option maxRecDepth 100000 in
theorem open_case15 {H : Type} {enc : TypeId × Value → H} {W : World} {v : Value} {d : DataW H} {p : List MemPlace} (h : DataW.Trod enc Tryd.prog W 0 (fun _ => true) true 25 v d p) :
    ∃ (v0 : Value) (x0 : List Ch) (v1 : Value) (x1 : List ByteArray) (v2 : Value) (x2 : List ByteArray) (x3 : Int), v = .agg #[v0, v1, v2, .int .i64 x3] ∧ RdC W v0 x0 ∧ (∀ c ∈ x0, WfC c) ∧ ArgS v0 ∧ RdT W v1 x1 ∧ (∀ c ∈ x1, SzS c) ∧ ArgS v1 ∧ RdT W v2 x2 ∧ (∀ c ∈ x2, SzS c) ∧ ArgS v2 ∧
      (Rows.uptoBulk d ≤ 1048576 → x0.length ≤ 1048576 ∧ x1.length + (flatB x1).length ≤ 1048576 ∧ x2.length + (flatB x2).length ≤ 1048576) := by
  obtain ⟨fuel, hf⟩ := h
  have hC : Tryd.prog.cellsOf 25 = 4 := by kernel_rfl
  have hc_c : Tryd.prog.cellsOf 22 = 1 := by kernel_rfl
  have hc_t : Tryd.prog.cellsOf 23 = 1 := by kernel_rfl
  have hc_i : Tryd.prog.cellsOf 3 = 1 := by kernel_rfl
  obtain ⟨xs, n, _, hx, hl, hlen, hfs⟩ := DataW.trod_struct Tryd.underlying25 hf
  rw [hC] at hl
  obtain ⟨l, hv, hcl⟩ := agg_of (by omega) hl
  rw [hcl] at hl hfs
  match l, hl with
  | [w0, w1, w2, w3], _ =>
    match xs, hlen with
    | [y0, y1, y2, y3], _ =>
      have g0 : DataW.trod enc Tryd.prog W 0 (fun _ => true) true n 22 (([w0, w1, w2, w3].drop 0).take (Tryd.prog.cellsOf 22)) = some y0 := hfs 0 _ rfl
      rw [hc_c] at g0
      have g1 : DataW.trod enc Tryd.prog W 0 (fun _ => true) true n 23 (([w0, w1, w2, w3].drop 1).take (Tryd.prog.cellsOf 23)) = some y1 := hfs 1 _ rfl
      rw [hc_t] at g1
      have g2 : DataW.trod enc Tryd.prog W 0 (fun _ => true) true n 23 (([w0, w1, w2, w3].drop 2).take (Tryd.prog.cellsOf 23)) = some y2 := hfs 2 _ rfl
      rw [hc_t] at g2
      have g3 : DataW.trod enc Tryd.prog W 0 (fun _ => true) true n 3 (([w0, w1, w2, w3].drop 3).take (Tryd.prog.cellsOf 3)) = some y3 := hfs 3 _ rfl
      rw [hc_i] at g3
      obtain ⟨q0, t0⟩ := one_slice Tryd.underlying22 (show DataW.trod enc Tryd.prog W 0 (fun _ => true) true n 22 [w0] = some y0 from g0)
      obtain ⟨x0, hr0, hw0, hd0, hs0⟩ := open_chs q0 t0
      obtain ⟨q1, t1⟩ := one_slice Tryd.underlying23 (show DataW.trod enc Tryd.prog W 0 (fun _ => true) true n 23 [w1] = some y1 from g1)
      obtain ⟨x1, hr1, hw1, hd1, hs1⟩ := open_strs q1 t1
      obtain ⟨q2, t2⟩ := one_slice Tryd.underlying23 (show DataW.trod enc Tryd.prog W 0 (fun _ => true) true n 23 [w2] = some y2 from g2)
      obtain ⟨x2, hr2, hw2, hd2, hs2⟩ := open_strs q2 t2
      obtain ⟨x3, e3, _⟩ := DataW.trod_int Tryd.underlying3 (show DataW.trod enc Tryd.prog W 0 (fun _ => true) true n 3 [w3] = some y3 from g3)
      cases e3
      refine ⟨w0, x0, w1, x1, w2, x2, x3, hv, hr0, hw0, hs0, hr1, hw1, hs1, hr2, hw2, hs2, fun hsz => ?_⟩
      have hdd := (Prod.mk.inj hx).1
      subst hdd
      simp only [List.map_cons, List.map_nil, Rows.uptoBulk, Rows.uptoBulkAll] at hsz
      have b0 := chs_bulk hd0
      have b1 := strs_bulk hd1
      have b2 := strs_bulk hd2
      exact ⟨by omega, by omega, by omega⟩
end Go.Proofs.YtjgjfnmljmmplaaDoor
