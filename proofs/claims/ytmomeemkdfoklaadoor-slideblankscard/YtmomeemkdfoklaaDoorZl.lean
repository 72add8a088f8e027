/-
  A list of strings as an argument: opened, sized.
-/
import Derived.Test.YtmomeemkdfoklaaDoorZc
import Derived.Test.YtmomeemkdfoklaaDoorC9
import Derived.SliceStrings
namespace Go.Proofs.YtmomeemkdfoklaaDoor
open Go.ChangeShapes Go.WideShapes Go.ChangeAt Go.RowKit

theorem open_strs {H : Type} {enc : TypeId × Value → H} {W : World} {v : Value} {d : DataW H} {p : List MemPlace}
    (hv : ∃ a len cap, v = .slice a len cap) (h : DataW.Trod enc Tryd.prog W 0 (fun _ => true) true 34 v d p) :
    ∃ xs : List ByteArray, RdS W v xs ∧ (∀ x ∈ xs, x.size ≤ maxLen) ∧ ((xs = [] ∧ d = .nil) ∨ ∃ sp, d = .slice (strs xs) sp) ∧ (v = .slice none 0 0 ∨ ∃ ad n c, v = .slice (some ad) n c) := by
  obtain ⟨a0, len0, cap0, rfl⟩ := hv
  obtain ⟨fuel, hf⟩ := h
  have hcell : Tryd.prog.cellsOf 9 = 1 := by kernel_rfl
  rcases open_strings Tryd.underlying34 Tryd.underlying9 hcell hf with ⟨hcs, hx⟩ | ⟨a, len, cap, ss, hcs, _, hl, hm, hss, hx, hcl, hws⟩
  · simp [Value.cells] at hcs hx
    obtain ⟨rfl, rfl, rfl⟩ := hcs
    obtain ⟨rfl, rfl⟩ := hx
    exact ⟨[], .inl ⟨rfl, none, 0, rfl⟩, by simp, .inl ⟨rfl, rfl⟩, .inl rfl⟩
  · simp [Value.cells] at hcs hss
    obtain ⟨rfl, rfl, rfl⟩ := hcs
    obtain ⟨hd, hp⟩ := Prod.mk.inj hx
    refine ⟨ss.take len0, ?_, fun x hx => hws x (List.mem_of_mem_take hx), .inr ⟨_, hd⟩, .inr ⟨_, _, _, rfl⟩⟩
    by_cases h0 : len0 = 0
    · subst h0
      exact .inl ⟨by simp, some a, cap0, rfl⟩
    · obtain ⟨b, o, e, hb⟩ := addr_none4 (hcl 0 (by omega))
      obtain ⟨b', o', rfl⟩ : ∃ b' o', a = ⟨b', o', none⟩ := by
        obtain ⟨b', o', s'⟩ := a
        have : s' = none := by
          have := congrArg Addr.spot e
          simpa [Addr.add] using this
        exact ⟨b', o', by rw [this]⟩
      have hb' : b' < W.heap.size := by
        have := congrArg Addr.block e
        simp [Addr.add] at this
        omega
      have hlen : (ss.take len0).length = len0 := by rw [List.length_take]; omega
      refine .inr ⟨b', o', cap0, by rw [hlen], by rw [hlen]; exact hl, hb', fun j u hj => ?_⟩
      rw [List.getElem?_map] at hj
      cases hx : (ss.take len0)[j]? with
      | none => rw [hx] at hj; cases hj
      | some x =>
        rw [hx] at hj
        simp at hj
        subst hj
        have hj' : j < len0 := by
          rcases Nat.lt_or_ge j len0 with k | k
          · exact k
          · rw [List.getElem?_eq_none (by rw [hlen]; exact k)] at hx; cases hx
        have := hcl j (by omega)
        rw [List.getElem?_take, if_pos hj'] at hx
        rw [List.getD_eq_getElem?_getD, hx] at this
        rw [Go.WideShapes.add_plain] at this
        exact this

theorem strs_length {H : Type} (xs : List ByteArray) : (strs (H := H) xs).length = xs.length := by
  induction xs with
  | nil => rfl
  | cons x r ih => show (_ :: strs r).length = _; rw [List.length_cons, List.length_cons, ih]
/-- how many strings there are: by the reach -/
theorem strs_sized {H : Type} {d : DataW H} {xs : List ByteArray} {ts : List TypeId} {ds : List (DataW H)} {j : Nat} (h : (DataW.weightsEach Tryd.prog ts ds).all (· ≤ reachBytes) = true)
    (ht : ts[j]? = some 34) (hd : ds[j]? = some d) (hx : (xs = [] ∧ d = .nil) ∨ ∃ sp, d = .slice (strs xs) sp) : xs.length * 16 ≤ 140737488351232 := by
  rcases hx with ⟨rfl, _⟩ | ⟨sp, rfl⟩
  · simp
  · have h1 := sized_slice h ht hd Tryd.underlying34
    have h2 : Tryd.prog.bytesOf 9 = 16 := by kernel_rfl
    rw [h2, strs_length] at h1
    have h3 : reachBytes = 140737488351232 := by decide
    omega
theorem strs_weights {H : Type} (xs : List ByteArray) : ∀ x ∈ xs, x.size ∈ DataW.weightsAll Tryd.prog 9 (strs (H := H) xs) := by
  induction xs with
  | nil => intro x hx; simp at hx
  | cons y r ih =>
    intro x hx
    show _ ∈ DataW.weights Tryd.prog 9 (DataW.lit (.string y.data.toList)) ++ DataW.weightsAll Tryd.prog 9 (strs r)
    rcases List.mem_cons.1 hx with rfl | hx
    · refine List.mem_append_left _ ?_
      rw [DataW.weights]
      have : x.data.toList.length = x.size := by rw [Array.length_toList]; rfl
      rw [this]
      exact List.mem_singleton.2 rfl
    · exact List.mem_append_right _ (ih x hx)
/-- how long each is: by the reach -/
theorem strs_each {H : Type} {d : DataW H} {xs : List ByteArray} {ts : List TypeId} {ds : List (DataW H)} {j : Nat} (h : (DataW.weightsEach Tryd.prog ts ds).all (· ≤ reachBytes) = true)
    (ht : ts[j]? = some 34) (hd : ds[j]? = some d) (hx : (xs = [] ∧ d = .nil) ∨ ∃ sp, d = .slice (strs xs) sp) : ∀ x ∈ xs, x.size ≤ 140737488351232 := by
  rcases hx with ⟨rfl, _⟩ | ⟨sp, rfl⟩
  · intro x hx; simp at hx
  · intro x hx
    have h3 : reachBytes = 140737488351232 := by decide
    have := List.all_eq_true.1 h x.size (DataW.weights_mem_each ht hd x.size (by
      rw [DataW.weights, Tryd.underlying34]
      exact List.mem_cons_of_mem _ (List.mem_append_left _ (strs_weights xs x hx))))
    simp only [decide_eq_true_eq] at this
    omega
end Go.Proofs.YtmomeemkdfoklaaDoor
