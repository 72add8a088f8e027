/-
  Several texts in one: Kt, Ks, Kq.
-/
import Derived.Test.YthnibchlgcgalaaGreatDoorGrPl
import Derived.Test.YthnibchlgcgalaaGreatDoorGrJ9
import Derived.Test.YthnibchlgcgalaaGreatDoorGrJd
import Derived.Test.YthnibchlgcgalaaGreatDoorGrC
import Derived.Test.YthnibchlgcgalaaGreatDoorGrD2
/-
  Build, plain: how large the hunks are.
-/
namespace Go.Proofs.YthnibchlgcgalaaGreatDoor.Hu
open Ed (Ch Pr okC val apart)

theorem sl_mem {l : List ByteArray} {x y : Int} {t : ByteArray} (h : t ∈ sl l x y) : t ∈ l := by
  unfold sl at h
  exact List.mem_of_mem_drop (List.mem_of_mem_take h)
theorem mk_mem {k : Int} {l : List ByteArray} {r : Rw} (h : r ∈ mk k l) : r.t ∈ l := by
  unfold mk at h
  obtain ⟨x, hx, rfl⟩ := List.mem_map.1 h
  exact hx
theorem rowsG_mem {a b : List ByteArray} : ∀ (g : List Ch) (p q : Int) (r : Rw), r ∈ rowsG a b p g q → r.t ∈ a ∨ r.t ∈ b
  | [], p, q, r, h => .inl (sl_mem (mk_mem h))
  | c :: g, p, q, r, h => by
    rw [rowsG] at h
    rcases List.mem_append.1 h with h | h
    · exact .inl (sl_mem (mk_mem h))
    rcases List.mem_append.1 h with h | h
    · exact .inl (sl_mem (mk_mem h))
    rcases List.mem_append.1 h with h | h
    · exact .inr (sl_mem (mk_mem h))
    · exact rowsG_mem g _ _ r h
/-- what is known of each hunk that is built -/
def SmH (a b : List ByteArray) (h : Hk) : Prop := h.rows.length ≤ 8388608 ∧ (∀ r ∈ h.rows, r.t ∈ a ∨ r.t ∈ b) ∧ h.head = .empty
theorem bld_sm {ctx : Int} {a b : List ByteArray} (hc0 : 0 ≤ ctx) (ha : a.length ≤ 4194304) (hb : b.length ≤ 4194304) : ∀ (N : Nat) (t : List Ch) (x y : Int), t.length ≤ N → Ahead ctx t x y a.length b.length → (∀ h ∈ bld ctx a b t, SmH a b h) ∧ (bld ctx a b t).length ≤ t.length
  | 0, t, x, y, hN, _ => by
    have e : t = [] := List.length_eq_zero_iff.1 (by omega)
    subst e
    simp [bld, grp]
  | N + 1, t, x, y, hN, hA => by
    by_cases hne : t = []
    · subst hne; simp [bld, grp]
    · obtain ⟨g1, g2, g3, g4, x', y', g5⟩ := hA.group hne hc0
      have hp := glen_pos ctx t hne
      have hl := glen_le ctx t
      have hlen : (t.drop (glen ctx t)).length = t.length - glen ctx t := List.length_drop
      obtain ⟨i1, i2⟩ := bld_sm hc0 ha hb N (t.drop (glen ctx t)) x' y' (by omega) g5
      obtain ⟨q1, q2, q3, q4, q5, q6, q7⟩ := ofG_facts g1 g2 g3 g4 hc0 ha hb
      rw [bld_step hne]
      refine ⟨fun h hh => ?_, by rw [List.length_cons]; omega⟩
      rcases List.mem_cons.1 hh with rfl | hh
      · refine ⟨?_, fun r hr => rowsG_mem _ _ _ r hr, rfl⟩
        show (rowsG a b _ _ _).length ≤ _
        omega
      · exact i1 h hh
end Go.Proofs.YthnibchlgcgalaaGreatDoor.Hu
/-
  The laws' sameTexts, where the texts are the same; what Build answers is small.
-/
namespace Go.Proofs.YthnibchlgcgalaaGreatDoor
open Go.RowKit
open Hu (Rw Hk)
open Ed (Ch)

theorem bldA_sz {s : List Ch} {a b : List ByteArray} {ctx : Int} (hsa : ∀ x ∈ a, x.size ≤ maxLen) (hsb : ∀ x ∈ b, x.size ≤ maxLen) : (∀ h ∈ bldA s a b ctx, SzH h) ∧ (bldA s a b ctx).length ≤ 8388608 := by
  unfold bldA
  split
  · next h0 =>
    have hctx : ctxOk ctx = true := by
      cases hc : ctxOk ctx with
      | true => rfl
      | false => unfold bldN at h0; rw [hc] at h0; simp at h0
    have hcc : 0 ≤ ctx ∧ ctx ≤ 2147483647 := by simpa [ctxOk] using hctx
    have hk : Ed.validN s a.length b.length = 0 := by
      unfold bldN at h0
      rw [hctx] at h0
      by_cases hk : Ed.validN s a.length b.length = 0
      · exact hk
      · rw [if_pos rfl, if_neg hk] at h0
        split at h0
        · exact h0
        · omega
    obtain ⟨hV, _⟩ := Ed.normal_Val (Ed.validN_zero.1 hk)
    have hn := Ed.cnt_iff.1 hV.1
    have hm := Ed.cnt_iff.1 hV.2.1
    obtain ⟨h1, h2⟩ := Hu.bld_sm (ctx := ctx) (a := a) (b := b) hcc.1 (by omega) (by omega) _ _ _ _ (Nat.le_refl _) (Hu.Ahead.start hV)
    refine ⟨fun h hh => ?_, Nat.le_trans h2 (Val_len hV)⟩
    obtain ⟨q1, q2, q3⟩ := h1 h hh
    refine ⟨by omega, fun r hr => ?_, by rw [q3]; decide⟩
    rcases q2 r hr with q | q
    · exact hsa _ q
    · exact hsb _ q
  · exact ⟨by simp, by simp⟩

end Go.Proofs.YthnibchlgcgalaaGreatDoor
/-
  The laws' changes and texts: a list with memory of its own.
-/
namespace Go.Proofs.YthnibchlgcgalaaGreatDoor
open Go.RowKit
open Ed (Ch Run Pr)

end Go.Proofs.YthnibchlgcgalaaGreatDoor
