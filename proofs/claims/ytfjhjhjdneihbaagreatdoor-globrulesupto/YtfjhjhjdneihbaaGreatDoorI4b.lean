/-
  Lists of strings that are read in part; the texts of a rule's pieces.
-/
import Derived.Test.YtfjhjhjdneihbaaGreatDoorI4
namespace Go.Proofs.YtfjhjhjdneihbaaGreatDoor
open Go.RowKit

theorem Rd.at {w : World} {v : Value} {xs : List ByteArray} (h : Rd w v xs) {k : Nat} (hk : k < xs.length) : ∃ b o c x, v = .slice (some ⟨b, o, none⟩) xs.length c ∧ xs[k]? = some x ∧ b < w.heap.size ∧ xs.length ≤ c ∧ w.cell? ⟨b, o + k, none⟩ = some (.string x) := by
  rcases h with ⟨rfl, _⟩ | ⟨b, o, c, hv, hc, hb, hX⟩
  · simp at hk
  · exact ⟨b, o, c, xs[k], hv, List.getElem?_eq_getElem hk, hb, hc, hX k _ (List.getElem?_eq_getElem hk)⟩
theorem Rd.held {w w' : World} {v : Value} {xs : List ByteArray} (h : Rd w v xs) (hs : w.heap.size ≤ w'.heap.size) (hk : ∀ b o n c, v = .slice (some ⟨b, o, none⟩) n c → b < w.heap.size → w'.heap[b]? = w.heap[b]?) : Rd w' v xs := by
  rcases h with h | ⟨b, o, c, hv, hc, hb, hX⟩
  · exact .inl h
  · refine .inr ⟨b, o, c, hv, hc, Nat.lt_of_lt_of_le hb hs, fun j x hj => ?_⟩
    have := hX j x hj
    unfold World.cell? at this ⊢
    rw [show (⟨b, o + j, none⟩ : Addr).block = b from rfl] at this ⊢
    rw [hk b o _ c hv hb]
    exact this
theorem rd_cap {w : World} {a : Option Addr} {n c : Nat} {xs : List ByteArray} (h : Rd w (.slice a n c) xs) : n = xs.length ∧ (xs.length ≤ c ∨ xs = []) := by
  rcases h with ⟨rfl, a', c', hv⟩ | ⟨b, o, c', hv, hc, _⟩
  · cases hv; exact ⟨rfl, .inr rfl⟩
  · cases hv; exact ⟨rfl, .inl hc⟩
/-- the list behind its first elements -/
theorem rd_drop {w : World} {a : Option Addr} {n c : Nat} {xs : List ByteArray} (h : Rd w (.slice a n c) xs) (k : Nat) (hk : k ≤ xs.length) (hc : n ≤ c) : Rd w (.slice (if c = k then a else a.map (·.add k)) (n - k) (c - k)) (xs.drop k) := by
  obtain ⟨rfl, _⟩ := rd_cap h
  rcases h with ⟨rfl, a', c', hv⟩ | ⟨b, o, c', hv, hc', hb, hX⟩
  · cases hv
    have : k = 0 := by simpa using hk
    subst this
    exact .inl ⟨rfl, _, _, rfl⟩
  · cases hv
    rcases Nat.eq_or_lt_of_le hk with e | e
    · subst e
      refine .inl ⟨List.drop_of_length_le (Nat.le_refl _), _, _, by rw [Nat.sub_self]⟩
    · rw [if_neg (by omega)]
      refine .inr ⟨b, o + k, c - k, ?_, by rw [List.length_drop]; omega, hb, fun j x hj => ?_⟩
      · show Value.slice (some ((⟨b, o, none⟩ : Addr).add k)) _ _ = _
        rw [Go.WideShapes.add_plain, List.length_drop]
      · rw [List.getElem?_drop] at hj
        rw [Nat.add_assoc]
        exact hX (k + j) x hj
/-- its first elements -/
theorem rd_take {w : World} {a : Option Addr} {n c : Nat} {xs : List ByteArray} (h : Rd w (.slice a n c) xs) (k : Nat) (hk : k ≤ xs.length) : Rd w (.slice a k c) (xs.take k) := by
  obtain ⟨rfl, _⟩ := rd_cap h
  have hl : (xs.take k).length = k := by rw [List.length_take]; omega
  rcases h with ⟨rfl, a', c', hv⟩ | ⟨b, o, c', hv, hc', hb, hX⟩
  · cases hv
    have : k = 0 := by simpa using hk
    subst this
    exact .inl ⟨rfl, _, _, rfl⟩
  · cases hv
    refine .inr ⟨b, o, c, by rw [hl], by omega, hb, fun j x hj => ?_⟩
    rw [List.getElem?_take] at hj
    split at hj
    · exact hX j x hj
    · cases hj
theorem pieces_many (t : List UInt8) : 1 < (Pp.pieces t).length ↔ (47 : UInt8) ∈ t := by
  constructor
  · intro h
    rcases Classical.em ((47 : UInt8) ∈ t) with q | q
    · exact q
    · rw [Pp.pieces_none t q] at h; simp at h
  · intro h
    obtain ⟨a, b, rfl⟩ := List.append_of_mem h
    rw [pieces_app, List.length_append]
    have h1 := List.length_pos_iff.2 (Pp.pieces_ne a)
    have h2 := List.length_pos_iff.2 (Pp.pieces_ne b)
    omega
theorem pieces_head (t : List UInt8) (ht : t ≠ []) : (Pp.pieces t)[0]? = some [] ↔ Lib.hasPrefix t [47] = true := by
  cases t with
  | nil => exact absurd rfl ht
  | cons c r =>
    unfold Lib.hasPrefix
    rw [Pp.pieces, List.isPrefixOf_iff_prefix]
    by_cases hc : c = 47
    · rw [if_pos hc, hc]
      exact ⟨fun _ => ⟨r, rfl⟩, fun _ => rfl⟩
    · rw [if_neg hc]
      constructor
      · intro h; simp at h
      · rintro ⟨x, hx⟩; injection hx with e; exact absurd e.symm hc
theorem txt_slash (t : List UInt8) (h : (47 : UInt8) ∈ t) (hp : Lib.hasPrefix t [47] = true) : txt t = (Pp.pieces t).drop 1 := by
  unfold txt
  rw [if_pos h]
  unfold Lib.trimPrefix
  rw [if_pos hp]
  obtain ⟨x, rfl⟩ := List.isPrefixOf_iff_prefix.1 hp
  rfl
theorem txt_plain (t : List UInt8) (h : (47 : UInt8) ∉ t ∨ Lib.hasPrefix t [47] = false) : txt t = Pp.pieces t := by
  unfold txt
  by_cases h2 : (47 : UInt8) ∈ t
  · rw [if_pos h2]
    rcases h with h | h
    · exact absurd h2 h
    · unfold Lib.trimPrefix; rw [if_neg (by rw [h]; simp)]
  · rw [if_neg h2, Pp.pieces_none t h2]
theorem BL_get {l : List (List UInt8)} {k : Nat} {x : List UInt8} (h : l[k]? = some x) : (BL l)[k]? = some ⟨x.toArray⟩ := by unfold BL; rw [List.getElem?_map, h]; rfl
theorem BL_drop (l : List (List UInt8)) (k : Nat) : (BL l).drop k = BL (l.drop k) := by unfold BL; rw [List.map_drop]
theorem BL_take (l : List (List UInt8)) (k : Nat) : (BL l).take k = BL (l.take k) := by unfold BL; rw [List.map_take]
theorem mkb_data (x : List UInt8) : (⟨x.toArray⟩ : ByteArray).data.toList = x := rfl
theorem mkb_size (x : List UInt8) : (⟨x.toArray⟩ : ByteArray).size = x.length := by rw [← size_data]
/-- the numbers of own rows -/
theorem own_ge' {w : World} {base n : Nat} {e : TypeId} {size : Nat} {v : Value} {xs : List Value} (h : w.ownsRow base e size v n xs) : ∀ k, v.ownBlock = some k → base ≤ k ∧ k < w.heap.size := by
  intro k hk
  rcases h.2 with ⟨hv, _⟩ | ⟨g, cap, cur, hv, hg, hh, _⟩
  · subst hv; cases hk
  · subst hv; cases hk; exact ⟨hg, lt_of_heap hh⟩
theorem OwnDp.mono {w : World} {B B' : Nat} {v : Value} {ps : List Pg.Pi} (h : OwnDp w B v ps) (hb : B' ≤ B) : OwnDp w B' v ps := by
  obtain ⟨cs, h1, h2⟩ := h
  have om : ∀ {e : TypeId} {sz n : Nat} {v : Value} {xs : List Value}, w.ownsRow B e sz v n xs → w.ownsRow B' e sz v n xs := fun {e sz n v xs} h => ⟨h.1, by
    rcases h.2 with q | ⟨g, cap, cur, hv, hg, r⟩
    · exact .inl q
    · exact .inr ⟨g, cap, cur, hv, Nat.le_trans hb hg, r⟩⟩
  exact ⟨cs, om h1, fun j q hj => by
    obtain ⟨u, v', e1, e2, e3, e4, e5⟩ := h2 j q hj
    exact ⟨u, v', e1, e2, e3, e4, fun P hP => ⟨om (e5 P hP).1, (e5 P hP).2⟩⟩⟩
end Go.Proofs.YtfjhjhjdneihbaaGreatDoor
