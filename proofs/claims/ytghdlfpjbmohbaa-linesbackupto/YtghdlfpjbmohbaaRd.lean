/-
  'Rd w v xs': in the world w the slice v reads as the strings xs; what the walks of Split, Same, Valid, Join and Count come to, said by it.
-/
import Derived.Test.YtghdlfpjbmohbaaSame
import Derived.Test.YtghdlfpjbmohbaaSplitRef
import Derived.Test.YtghdlfpjbmohbaaSure
namespace Go.Proofs.Ytghdlfpjbmohbaa
open Go.RowKit

def Rd (w : World) (v : Value) (xs : List ByteArray) : Prop :=
  (xs = [] ∧ ∃ a c, v = .slice a 0 c) ∨
  (∃ b o c, v = .slice (some ⟨b, o, none⟩) xs.length c ∧ xs.length ≤ c ∧ b < w.heap.size ∧ ∀ (j : Nat) x, xs[j]? = some x → w.cell? ⟨b, o + j, none⟩ = some (.string x))

theorem Rd.below {w w' : World} {v : Value} {xs : List ByteArray} (h : Rd w v xs) (hb : Below w.heap.size w w') : Rd w' v xs := by
  rcases h with h | ⟨b, o, c, hv, hc, hlt, hcell⟩
  · exact .inl h
  · exact .inr ⟨b, o, c, hv, hc, Nat.lt_of_lt_of_le hlt hb.size, fun j x hj => (hb.cell (p := ⟨b, o + j, none⟩) hlt).trans (hcell j x hj)⟩
theorem below_drewN (w : World) (m : Nat) : Below w.heap.size w (w.drewN m) := ⟨rfl, rfl, rfl, Nat.le_refl _, fun _ _ => rfl⟩

/-- lists of bytes as strings -/
def BL (l : List (List UInt8)) : List ByteArray := l.map fun x => ⟨x.toArray⟩
theorem BL_length (l : List (List UInt8)) : (BL l).length = l.length := List.length_map _
theorem DL_BL (l : List (List UInt8)) : DL (BL l) = l := by
  unfold DL BL
  rw [List.map_map]
  refine (List.map_congr_left fun x _ => ?_).trans (List.map_id _)
  simp
theorem BL_DL (l : List ByteArray) : BL (DL l) = l := by
  unfold DL BL
  rw [List.map_map]
  refine (List.map_congr_left fun x _ => ?_).trans (List.map_id _)
  exact bytes_eta x
theorem BL_inj {l r : List (List UInt8)} (h : BL l = BL r) : l = r := by rw [← DL_BL l, ← DL_BL r, h]
theorem SV_at (l : List (List UInt8)) (j : Nat) (x : ByteArray) (h : (BL l)[j]? = some x) : (SV l)[j]? = some (.string x) := by
  unfold BL at h
  unfold SV
  rw [List.getElem?_map] at h ⊢
  cases hl : l[j]? with
  | none => rw [hl] at h; cases h
  | some y => rw [hl] at h; simp at h; rw [← h]; rfl

theorem lt_of_heap {w : World} {g : Nat} {o : Obj} (h : w.heap[g]? = some o) : g < w.heap.size := by
  rcases Nat.lt_or_ge g w.heap.size with k | k
  · exact k
  · rw [Array.getElem?_eq_none k] at h; cases h

theorem rd_own {w : World} {base : Nat} {v : Value} {l : List (List UInt8)} (h : w.ownsRow base 9 1 v l.length (SV l)) : Rd w v (BL l) := by
  have h' := h
  rcases h.2 with ⟨hv, hn⟩ | ⟨g, cap, cur, hv, hg, hh, hc, hm, hsz, htk⟩
  · exact .inl ⟨by rw [List.length_eq_zero_iff.1 hn]; rfl, none, 0, hv⟩
  · subst hv
    refine .inr ⟨g, 0, cap, by rw [BL_length], by rw [BL_length]; exact hc, lt_of_heap hh, fun j x hj => ?_⟩
    have hjl : j < l.length := by
      rcases Nat.lt_or_ge j l.length with k | k
      · exact k
      · rw [List.getElem?_eq_none (by rw [BL_length]; exact k)] at hj; cases hj
    rw [Nat.zero_add, h'.cellAt j (by omega), SV_at l j x hj]

theorem split_rd (s : ByteArray) (w : World) (hs : s.size < 4611686018427387904) (hn : Pl.num s.data.toList * 16 ≤ 281474976710656) :
    Calls Try.prog 10 #[.string s] w fun e w' => ∃ v, e = .returned v ∧ Rd w' v (BL (Pl.cut s.data.toList)) ∧ Below w.heap.size w w' :=
  (split_any s w hs hn).mono fun _ _ ⟨he, ho, hb⟩ => ⟨_, he, rd_own ho, hb⟩
theorem refSplit_rd (s : ByteArray) (w : World) (hs : s.size < 4611686018427387904) (hn : Pl.num s.data.toList * 16 ≤ 140737488355328) :
    Calls Try.prog 11 #[.string s] w fun e w' => ∃ v, e = .returned v ∧ Rd w' v (BL (Pl.cut s.data.toList)) ∧ Below w.heap.size w w' :=
  (refSplit_any s w hs hn).mono fun _ _ ⟨_, he, ho, hb⟩ => ⟨_, he, rd_own ho, hb⟩

theorem same_rd {w : World} {v u : Value} {xs ys : List ByteArray} (hx : Rd w v xs) (hy : Rd w u ys) (hn : xs.length ≤ 140737488355328) :
    Calls Try.prog 9 #[v, u] w fun e w' => e = .returned (.bool (decide (xs = ys))) ∧ Below w.heap.size w w' := by
  have stay : ∀ {e e' : Ending} {w' : World}, e = e' → w' = w → e = e' ∧ Below w.heap.size w w' := fun h k => ⟨h, k ▸ Below.refl _ _⟩
  rcases hx with ⟨rfl, a, c, rfl⟩ | ⟨b, o, c, rfl, hc, hb, hX⟩
  · rcases hy with ⟨rfl, a', c', rfl⟩ | ⟨b', o', c', rfl, hc', hb', hY⟩
    · exact (same_none a a' c c' w).mono fun _ _ ⟨he, hw⟩ => stay he hw
    · cases ys with
      | nil => exact (same_none a _ c c' w).mono fun _ _ ⟨he, hw⟩ => stay he hw
      | cons y r => exact (same_unlike a _ 0 _ c c' w (by simp)).mono fun _ _ ⟨he, hw⟩ => stay (by rw [he]; rfl) hw
  · rcases hy with ⟨rfl, a', c', rfl⟩ | ⟨b', o', c', rfl, hc', hb', hY⟩
    · cases xs with
      | nil => exact (same_none _ a' c c' w).mono fun _ _ ⟨he, hw⟩ => stay he hw
      | cons y r => exact (same_unlike _ a' _ 0 c c' w (by simp)).mono fun _ _ ⟨he, hw⟩ => stay (by rw [he]; rfl) hw
    · by_cases h : xs.length = ys.length
      · have K := same_some b o c b' o' c' xs.length xs ys w rfl h.symm hn hX hY
        rw [← h]
        exact K.mono fun _ _ ⟨he, m, hw⟩ => ⟨he, hw ▸ below_drewN w m⟩
      · exact (same_unlike _ _ _ _ c c' w h).mono fun _ _ ⟨he, hw⟩ => stay (by rw [he, decide_eq_false (fun e => h (by rw [e]))]) hw

set_option maxHeartbeats 400000 in
theorem refCount_any (s : ByteArray) (w : World) (hs : s.size < 4611686018427387904) (hn : Pl.num s.data.toList * 16 ≤ 140737488355328) :
    Calls Try.prog 13 #[.string s] w fun e w' => e = .returned (.int .i64 (Pl.num s.data.toList)) ∧ Below w.heap.size w w' := by
  have HN := hid (Pl.num_eq s.data.toList)
  go_enter Try.func13, Try.ntmps13
  go_wp2_with fail
  refine (refSplit_rd s _ hs hn).mono ?_
  rintro e w1 ⟨v, rfl, hr, hb⟩
  have hv : ∃ a c, v = .slice a (Pl.num s.data.toList) c := by
    rcases hr with ⟨h0, a, c, rfl⟩ | ⟨b, o, c, rfl, _⟩
    · refine ⟨a, c, ?_⟩
      rw [HN.out, ← BL_length, h0]; rfl
    · exact ⟨_, _, by rw [HN.out, BL_length]⟩
  obtain ⟨a, c, rfl⟩ := hv
  clear hr
  go_wp2
  go_ret
  exact ⟨rfl, hb⟩
end Go.Proofs.Ytghdlfpjbmohbaa
