/-
  An argument that is a list of strings, opened: what it reads as, what it weighs.
-/
import Derived.Test.YtmlgggnjghkojabDoorP3
import Derived.ProofKit
import Derived.OpenShut
import Derived.SliceStrings
import Derived.SizedLaws
namespace Go.Proofs.YtmlgggnjghkojabDoor
open Go.ChangeShapes Go.WideShapes Go.ChangeAt Go.RowKit

theorem laidOut : laidOutB Tryd.prog = true := by kernel_rfl
theorem addr_none {w : World} {a : Addr} {u : Value} (h : w.cell? (a.add 0) = some u) : ∃ b o, a = ⟨b, o, none⟩ ∧ b < w.heap.size := by
  have e : a.add 0 = a := by simp [Addr.add]
  rw [e] at h
  obtain ⟨b, o, spot⟩ := a
  have hspot : spot = none := World.cell?_spot h
  subst hspot
  refine ⟨b, o, rfl, ?_⟩
  rcases Nat.lt_or_ge b w.heap.size with k | k
  · exact k
  · have hn : w.heap[b]? = none := Array.getElem?_eq_none k
    simp [World.cell?, hn] at h

theorem open_rd {H : Type} {enc : TypeId × Value → H} {W : World} {v : Value} {d : DataW H} {p : List MemPlace}
    (hv : ∃ a len cap, v = .slice a len cap) (h : DataW.Trod enc Tryd.prog W 0 (fun _ => true) true 31 v d p) :
    ∃ xs : List ByteArray, Rd W v xs ∧ (∀ x ∈ xs, x.size ≤ maxLen) ∧ ((xs = [] ∧ d = .nil) ∨ ∃ sp, d = .slice (strs xs) sp) ∧ (v = .slice none 0 0 ∨ ∃ ad n c, v = .slice (some ad) n c) := by
  obtain ⟨a0, len0, cap0, rfl⟩ := hv
  obtain ⟨fuel, hf⟩ := h
  have hcell : Tryd.prog.cellsOf 9 = 1 := by kernel_rfl
  rcases open_strings Tryd.underlying31 Tryd.underlying9 hcell hf with ⟨hcs, hx⟩ | ⟨a, len, cap, ss, hcs, _, hl, hm, hss, hx, hcl, hws⟩
  · simp [Value.cells] at hcs hx
    obtain ⟨rfl, rfl, rfl⟩ := hcs
    obtain ⟨rfl, rfl⟩ := hx
    exact ⟨[], .inl ⟨rfl, none, 0, rfl⟩, by simp, .inl ⟨rfl, rfl⟩, .inl rfl⟩
  · simp [Value.cells] at hcs hss
    obtain ⟨rfl, rfl, rfl⟩ := hcs
    obtain ⟨hd, hp⟩ := Prod.mk.inj hx
    refine ⟨ss.take len0, ?_, fun x hx => hws x (List.mem_of_mem_take hx), .inr ⟨_, hd⟩, .inr ⟨_, _, _, rfl⟩⟩
    by_cases h0 : len0 = 0
    · subst h0
      exact .inl ⟨by simp, some a, cap0, rfl⟩
    · obtain ⟨b, o, rfl, hb⟩ := addr_none (hcl 0 (by omega))
      have hlen : (ss.take len0).length = len0 := by rw [List.length_take]; omega
      refine .inr ⟨b, o, cap0, by rw [hlen], by rw [hlen]; exact hl, hb, fun j x hj => ?_⟩
      have hj' : j < len0 := by
        rcases Nat.lt_or_ge j len0 with k | k
        · exact k
        · rw [List.getElem?_eq_none (by rw [hlen]; exact k)] at hj; cases hj
      have := hcl j (by omega)
      rw [List.getElem?_take, if_pos hj'] at hj
      rw [List.getD_eq_getElem?_getD, hj] at this
      rw [Go.WideShapes.add_plain] at this
      exact this

theorem strs_length {H : Type} (xs : List ByteArray) : (strs (H := H) xs).length = xs.length := by
  induction xs with
  | nil => rfl
  | cons x r ih => show (_ :: strs r).length = _; rw [List.length_cons, List.length_cons, ih]
theorem bulk_strs {H : Type} (ss : List ByteArray) : Rows.uptoBulkAll (strs (H := H) ss) = (DL ss).flatten.length + ss.length := by
  induction ss with
  | nil => rfl
  | cons s r ih =>
    have e : Rows.uptoBulkAll (strs (H := H) (s :: r)) = (s.data.toList.length + 1) + Rows.uptoBulkAll (strs (H := H) r) := by
      show Rows.uptoBulkAll (DataW.lit (.string s.data.toList) :: strs r) = _
      simp only [Rows.uptoBulkAll, Rows.uptoBulk]
    rw [e, ih]
    show _ = (s.data.toList ++ (DL r).flatten).length + (r.length + 1)
    rw [List.length_append]
    omega
/-- how many strings there are: by the reach, by the bulk -/
theorem rd_sized {H : Type} {d : DataW H} {xs : List ByteArray} {ts : List TypeId} {ds : List (DataW H)} {j : Nat} (h : (DataW.weightsEach Tryd.prog ts ds).all (· ≤ reachBytes) = true)
    (ht : ts[j]? = some 31) (hd : ds[j]? = some d) (hx : (xs = [] ∧ d = .nil) ∨ ∃ sp, d = .slice (strs xs) sp) : xs.length * 16 ≤ 140737488351232 := by
  rcases hx with ⟨rfl, _⟩ | ⟨sp, rfl⟩
  · simp
  · have h1 := sized_slice h ht hd Tryd.underlying31
    have h2 : Tryd.prog.bytesOf 9 = 16 := by kernel_rfl
    rw [h2, strs_length] at h1
    have h3 : reachBytes = 140737488351232 := by decide
    omega
theorem rd_bulk {H : Type} {d : DataW H} {xs : List ByteArray} (hx : (xs = [] ∧ d = .nil) ∨ ∃ sp, d = .slice (strs xs) sp) : (DL xs).flatten.length + xs.length ≤ Rows.uptoBulk d := by
  rcases hx with ⟨rfl, _⟩ | ⟨sp, rfl⟩
  · simp [DL]
  · simp only [Rows.uptoBulk]
    rw [bulk_strs]
    omega
theorem SV_one_cell (l : List (List UInt8)) : ∀ u ∈ SV l, u.oneCell' = true := by
  intro u hu
  obtain ⟨x, _, rfl⟩ := List.mem_map.1 hu
  rfl
theorem src_cells {w : World} {ad : Addr} {n c : Nat} {xs : List ByteArray} (h : Rd w (.slice (some ad) n c) xs) :
    n = xs.length ∧ ∀ j u, (SV (DL xs))[j]? = some u → w.cell? (ad.add j) = some u := by
  rcases h with ⟨rfl, a, c', hv⟩ | ⟨b, o, c', hv, hc, hb, hX⟩
  · cases hv
    exact ⟨rfl, fun j u hj => by simp [SV, DL] at hj⟩
  · cases hv
    refine ⟨rfl, fun j u hj => ?_⟩
    rw [SV_DL, List.getElem?_map] at hj
    cases hx : xs[j]? with
    | none => rw [hx] at hj; cases hj
    | some x =>
      rw [hx] at hj
      simp at hj
      subst hj
      rw [Go.WideShapes.add_plain]
      exact hX j x hx
end Go.Proofs.YtmlgggnjghkojabDoor
