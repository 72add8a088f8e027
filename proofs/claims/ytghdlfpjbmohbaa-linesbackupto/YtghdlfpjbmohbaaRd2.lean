/-
  Join and Valid, of the program and of the document, over whatever reads as strings; an argument that is a list of strings, opened.
-/
import Derived.Test.YtghdlfpjbmohbaaJoinRef
import Derived.Test.YtghdlfpjbmohbaaValidRef
import Derived.ProofKit
import Derived.OpenShut
import Derived.SliceStrings
namespace Go.Proofs.Ytghdlfpjbmohbaa
open Go.ChangeShapes Go.WideShapes Go.ChangeAt Go.RowKit

theorem join_rd {w : World} {v : Value} {xs : List ByteArray} (h : Rd w v xs) (hN : xs.length ≤ 140737488355328) (hlen : (DL xs).flatten.length ≤ 140737488355328) :
    Calls Try.prog 15 #[v] w fun e w' => e = .returned (.string ⟨(DL xs).flatten.toArray⟩) ∧ Below w.heap.size w w' := by
  rcases h with ⟨rfl, a, c, rfl⟩ | ⟨b, o, c, rfl, hc, hb, hX⟩
  · exact (join_none a c w).mono fun _ _ ⟨he, hw⟩ => ⟨he, hw ▸ Below.refl _ _⟩
  · exact join_any b o c xs w hX hb hN hc hlen
theorem refJoin_rd {w : World} {v : Value} {xs : List ByteArray} (h : Rd w v xs) (hN : xs.length ≤ 140737488355328) (hlen : (DL xs).flatten.length ≤ 140737488355328) :
    Calls Try.prog 16 #[v] w fun e w' => e = .returned (.string ⟨(DL xs).flatten.toArray⟩) ∧ Below w.heap.size w w' := by
  rcases h with ⟨rfl, a, c, rfl⟩ | ⟨b, o, c, rfl, hc, hb, hX⟩
  · exact (refJoin_none a c w).mono fun _ _ ⟨he, hw⟩ => ⟨he, hw ▸ Below.refl _ _⟩
  · exact refJoin_any b o c xs w hX hb hN hlen
theorem valid_rd {w : World} {v : Value} {xs : List ByteArray} (h : Rd w v xs) (hN : xs.length ≤ 140737488355328) (hsz : ∀ x ∈ xs, x.size ≤ maxLen) :
    Calls Try.prog 17 #[v] w fun e w' => e = .returned (.bool (Pl.valid (DL xs))) ∧ w' = w := by
  rcases h with ⟨rfl, a, c, rfl⟩ | ⟨b, o, c, rfl, hc, hb, hX⟩
  · exact (valid_none a c w).mono fun _ _ ⟨he, hw⟩ => ⟨he, hw⟩
  · exact valid_any b o c xs w hX hN hsz
theorem refValid_rd {w : World} {v : Value} {xs : List ByteArray} (h : Rd w v xs) (hN : xs.length ≤ 140737488355328) (hsz : ∀ x ∈ xs, x.size ≤ maxLen) :
    Calls Try.prog 18 #[v] w fun e w' => e = .returned (.bool (Pl.valid (DL xs))) ∧ w' = w := by
  rcases h with ⟨rfl, a, c, rfl⟩ | ⟨b, o, c, rfl, hc, hb, hX⟩
  · exact (refValid_none a c w).mono fun _ _ ⟨he, hw⟩ => ⟨he, hw⟩
  · exact refValid_any b o c xs w hX hN hsz

theorem bulk_strs {H : Type} (ss : List ByteArray) : Rows.uptoBulkAll (strs (H := H) ss) = (DL ss).flatten.length + ss.length := by
  induction ss with
  | nil => rfl
  | cons s r ih =>
    have e : Rows.uptoBulkAll (strs (H := H) (s :: r)) = (s.data.toList.length + 1) + Rows.uptoBulkAll (strs (H := H) r) := by
      show Rows.uptoBulkAll (DataW.lit (.string s.data.toList) :: strs r) = _
      simp only [Rows.uptoBulkAll, Rows.uptoBulk]
    rw [e, ih]
    show _ = (s.data.toList ++ (DL r).flatten).length + (r.length + 1)
    rw [List.length_append]
    omega

theorem addr_none {w : World} {a : Addr} {u : Value} (h : w.cell? (a.add 0) = some u) : ∃ b o, a = ⟨b, o, none⟩ ∧ b < w.heap.size := by
  have e : a.add 0 = a := by simp [Addr.add]
  rw [e] at h
  obtain ⟨b, o, spot⟩ := a
  have hspot : spot = none := World.cell?_spot h
  subst hspot
  refine ⟨b, o, rfl, ?_⟩
  rcases Nat.lt_or_ge b w.heap.size with k | k
  · exact k
  · have hn : w.heap[b]? = none := Array.getElem?_eq_none k
    simp [World.cell?, hn] at h

/-- An argument that is a list of strings: what it reads as; what it weighs. -/
theorem open_rd {H : Type} {enc : TypeId × Value → H} {W : World} {v : Value} {d : DataW H} {p : List MemPlace}
    (hv : ∃ a len cap, v = .slice a len cap) (h : DataW.Trod enc Try.prog W 0 (fun _ => true) true 23 v d p) :
    ∃ xs : List ByteArray, Rd W v xs ∧ (∀ x ∈ xs, x.size ≤ maxLen) ∧ (DL xs).flatten.length + xs.length ≤ Rows.uptoBulk d ∧ (v = .slice none 0 0 ∨ ∃ ad n c, v = .slice (some ad) n c) := by
  obtain ⟨a0, len0, cap0, rfl⟩ := hv
  obtain ⟨fuel, hf⟩ := h
  have hcell : Try.prog.cellsOf 9 = 1 := by kernel_rfl
  rcases open_strings Try.underlying23 Try.underlying9 hcell hf with ⟨hcs, hx⟩ | ⟨a, len, cap, ss, hcs, _, hl, hm, hss, hx, hcl, hws⟩
  · simp [Value.cells] at hcs hx
    obtain ⟨rfl, rfl, rfl⟩ := hcs
    obtain ⟨rfl, rfl⟩ := hx
    exact ⟨[], .inl ⟨rfl, none, 0, rfl⟩, by simp, by simp [DL], .inl rfl⟩
  · simp [Value.cells] at hcs hss
    obtain ⟨rfl, rfl, rfl⟩ := hcs
    obtain ⟨hd, hp⟩ := Prod.mk.inj hx
    refine ⟨ss.take len0, ?_, fun x hx => hws x (List.mem_of_mem_take hx), ?_, .inr ⟨_, _, _, rfl⟩⟩
    · by_cases h0 : len0 = 0
      · subst h0
        exact .inl ⟨by simp, some a, cap0, rfl⟩
      · obtain ⟨b, o, rfl, hb⟩ := addr_none (hcl 0 (by omega))
        have hlen : (ss.take len0).length = len0 := by rw [List.length_take]; omega
        refine .inr ⟨b, o, cap0, by rw [hlen], by rw [hlen]; exact hl, hb, fun j x hj => ?_⟩
        have hj' : j < len0 := by
          rcases Nat.lt_or_ge j len0 with k | k
          · exact k
          · rw [List.getElem?_eq_none (by rw [hlen]; exact k)] at hj; cases hj
        have := hcl j (by omega)
        rw [List.getElem?_take, if_pos hj'] at hj
        rw [List.getD_eq_getElem?_getD, hj] at this
        rw [Go.WideShapes.add_plain] at this
        exact this
    · rw [hd]
      simp only [Rows.uptoBulk]
      rw [bulk_strs]
      omega

theorem SV_DL (xs : List ByteArray) : SV (DL xs) = xs.map Value.string := by
  unfold SV DL
  rw [List.map_map]
  refine List.map_congr_left fun x _ => ?_
  show Value.string ⟨x.data.toList.toArray⟩ = _
  rw [bytes_eta]

theorem src_cells {w : World} {ad : Addr} {n c : Nat} {xs : List ByteArray} (h : Rd w (.slice (some ad) n c) xs) :
    n = xs.length ∧ ∀ j u, (SV (DL xs))[j]? = some u → w.cell? (ad.add j) = some u := by
  rcases h with ⟨rfl, a, c', hv⟩ | ⟨b, o, c', hv, hc, hb, hX⟩
  · cases hv
    exact ⟨rfl, fun j u hj => by simp [SV, DL] at hj⟩
  · cases hv
    refine ⟨rfl, fun j u hj => ?_⟩
    rw [SV_DL, List.getElem?_map] at hj
    cases hx : xs[j]? with
    | none => rw [hx] at hj; cases hj
    | some x =>
      rw [hx] at hj
      simp at hj
      subst hj
      rw [Go.WideShapes.add_plain]
      exact hX j x hx
end Go.Proofs.Ytghdlfpjbmohbaa
