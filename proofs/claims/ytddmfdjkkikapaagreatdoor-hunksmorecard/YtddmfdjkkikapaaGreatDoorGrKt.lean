/-
  Several texts in one: Kt, Ks, Kq.
-/
import Derived.Test.YtddmfdjkkikapaaGreatDoorGrPl
import Derived.Test.YtddmfdjkkikapaaGreatDoorGrJ9
import Derived.Test.YtddmfdjkkikapaaGreatDoorGrJd
import Derived.Test.YtddmfdjkkikapaaGreatDoorGrC
import Derived.Test.YtddmfdjkkikapaaGreatDoorGrD2
/-
  Build, plain: how large the hunks are.
-/
namespace Go.Proofs.YtddmfdjkkikapaaGreatDoor.Hu
open Ed (Ch Pr okC val apart)

theorem sl_mem {l : List ByteArray} {x y : Int} {t : ByteArray} (h : t ∈ sl l x y) : t ∈ l := by
  unfold sl at h
  exact List.mem_of_mem_drop (List.mem_of_mem_take h)
theorem mk_mem {k : Int} {l : List ByteArray} {r : Rw} (h : r ∈ mk k l) : r.t ∈ l := by
  unfold mk at h
  obtain ⟨x, hx, rfl⟩ := List.mem_map.1 h
  exact hx
theorem rowsG_mem {a b : List ByteArray} : ∀ (g : List Ch) (p q : Int) (r : Rw), r ∈ rowsG a b p g q → r.t ∈ a ∨ r.t ∈ b
  | [], p, q, r, h => .inl (sl_mem (mk_mem h))
  | c :: g, p, q, r, h => by
    rw [rowsG] at h
    rcases List.mem_append.1 h with h | h
    · exact .inl (sl_mem (mk_mem h))
    rcases List.mem_append.1 h with h | h
    · exact .inl (sl_mem (mk_mem h))
    rcases List.mem_append.1 h with h | h
    · exact .inr (sl_mem (mk_mem h))
    · exact rowsG_mem g _ _ r h
/-- what is known of each hunk that is built -/
def SmH (a b : List ByteArray) (h : Hk) : Prop := h.rows.length ≤ 8388608 ∧ (∀ r ∈ h.rows, r.t ∈ a ∨ r.t ∈ b) ∧ h.head = .empty
theorem bld_sm {ctx : Int} {a b : List ByteArray} (hc0 : 0 ≤ ctx) (ha : a.length ≤ 4194304) (hb : b.length ≤ 4194304) : ∀ (N : Nat) (t : List Ch) (x y : Int), t.length ≤ N → Ahead ctx t x y a.length b.length → (∀ h ∈ bld ctx a b t, SmH a b h) ∧ (bld ctx a b t).length ≤ t.length
  | 0, t, x, y, hN, _ => by
    have e : t = [] := List.length_eq_zero_iff.1 (by omega)
    subst e
    simp [bld, grp]
  | N + 1, t, x, y, hN, hA => by
    by_cases hne : t = []
    · subst hne; simp [bld, grp]
    · obtain ⟨g1, g2, g3, g4, x', y', g5⟩ := hA.group hne hc0
      have hp := glen_pos ctx t hne
      have hl := glen_le ctx t
      have hlen : (t.drop (glen ctx t)).length = t.length - glen ctx t := List.length_drop
      obtain ⟨i1, i2⟩ := bld_sm hc0 ha hb N (t.drop (glen ctx t)) x' y' (by omega) g5
      obtain ⟨q1, q2, q3, q4, q5, q6, q7⟩ := ofG_facts g1 g2 g3 g4 hc0 ha hb
      rw [bld_step hne]
      refine ⟨fun h hh => ?_, by rw [List.length_cons]; omega⟩
      rcases List.mem_cons.1 hh with rfl | hh
      · refine ⟨?_, fun r hr => rowsG_mem _ _ _ r hr, rfl⟩
        show (rowsG a b _ _ _).length ≤ _
        omega
      · exact i1 h hh
end Go.Proofs.YtddmfdjkkikapaaGreatDoor.Hu
/-
  The laws' sameTexts, where the texts are the same; what Build answers is small.
-/
namespace Go.Proofs.YtddmfdjkkikapaaGreatDoor
open Go.RowKit
open Hu (Rw Hk)
open Ed (Ch)

theorem bldA_sz {s : List Ch} {a b : List ByteArray} {ctx : Int} (hsa : ∀ x ∈ a, x.size ≤ maxLen) (hsb : ∀ x ∈ b, x.size ≤ maxLen) : (∀ h ∈ bldA s a b ctx, SzH h) ∧ (bldA s a b ctx).length ≤ 8388608 := by
  unfold bldA
  split
  · next h0 =>
    have hctx : ctxOk ctx = true := by
      cases hc : ctxOk ctx with
      | true => rfl
      | false => unfold bldN at h0; rw [hc] at h0; simp at h0
    have hcc : 0 ≤ ctx ∧ ctx ≤ 2147483647 := by simpa [ctxOk] using hctx
    have hk : Ed.validN s a.length b.length = 0 := by
      unfold bldN at h0
      rw [hctx] at h0
      by_cases hk : Ed.validN s a.length b.length = 0
      · exact hk
      · rw [if_pos rfl, if_neg hk] at h0
        split at h0
        · exact h0
        · omega
    obtain ⟨hV, _⟩ := Ed.normal_Val (Ed.validN_zero.1 hk)
    have hn := Ed.cnt_iff.1 hV.1
    have hm := Ed.cnt_iff.1 hV.2.1
    obtain ⟨h1, h2⟩ := Hu.bld_sm (ctx := ctx) (a := a) (b := b) hcc.1 (by omega) (by omega) _ _ _ _ (Nat.le_refl _) (Hu.Ahead.start hV)
    refine ⟨fun h hh => ?_, Nat.le_trans h2 (Val_len hV)⟩
    obtain ⟨q1, q2, q3⟩ := h1 h hh
    refine ⟨by omega, fun r hr => ?_, by rw [q3]; decide⟩
    rcases q2 r hr with q | q
    · exact hsa _ q
    · exact hsb _ q
  · exact ⟨by simp, by simp⟩

set_option maxHeartbeats 2000000 in
set_option maxRecDepth 100000 in
theorem sameTexts_yes {w : World} {l : List ByteArray} {v1 v2 : Value} (h1 : RdT w v1 l) (h2 : RdT w v2 l) (hl : l.length ≤ 8796093022208) :
    Calls Tryz.prog 24 #[v1, v2] w fun e w' => e = .returned (.bool true) ∧ Below w.heap.size w w' := by
  obtain ⟨a1, c1, rfl⟩ := h1.shape
  obtain ⟨a2, c2, rfl⟩ := h2.shape
  have HV1 := hid h1
  have HV2 := hid h2
  obtain ⟨n, hn⟩ : ∃ n, n = l.length := ⟨_, rfl⟩
  have HN := hid hn
  rw [← hn] at HV1 HV2 hl ⊢
  clear h1 h2 hn
  have z6 : ((n : Int) == (n : Int)) = true := zeq rfl
  go_enter Tryz.func24, Tryz.ntmps24
  go_wp2_with fail
  go_loopw [5] (fun ii wr => ∃ (k : Nat), k ≤ n ∧ ii = .int .i64 k ∧ Hid (Below w.heap.size w wr)) (fun ii _ => n - (intOf ii).toNat)
  case atStart => exact ⟨0, Nat.zero_le _, rfl, Below.refl _ _⟩
  case round =>
    obtain ⟨k, hk, rfl, HB⟩ := hrel
    by_cases hlt : k < n
    · obtain ⟨x, hx⟩ : ∃ x, l[k]? = some x := ⟨_, List.getElem?_eq_getElem (by have := HN.out; omega)⟩
      obtain ⟨b1, o1, e1, hb1, d0⟩ := rdT_at HV1.out hx
      obtain ⟨b2, o2, e2, hb2, g0⟩ := rdT_at HV2.out hx
      replace d0 := (HB.out.cell (p := ⟨b1, _, none⟩) hb1).trans d0
      replace g0 := (HB.out.cell (p := ⟨b2, _, none⟩) hb2).trans g0
      subst e1
      subst e2
      have i1 : (0 : Int) ≤ (k : Int) := by omega
      have i2 : (k : Int) < (n : Int) := by omega
      clear hx hb1 hb2
      go_wp2_with fail
      go_quiet (fail)
      go_wp2_with fail
      go_roundw
      case rel => exact ⟨k + 1, by omega, by go_num, hid (below_drewN HB.out _)⟩
      case measure => simp [intOf]; omega
    · obtain rfl : k = n := by omega
      go_wp2_with fail
      go_ret
      exact ⟨rfl, HB.out⟩
end Go.Proofs.YtddmfdjkkikapaaGreatDoor
/-
  The laws' changes and texts: a list with memory of its own.
-/
namespace Go.Proofs.YtddmfdjkkikapaaGreatDoor
open Go.RowKit
open Ed (Ch Run Pr)

set_option maxHeartbeats 1000000 in
theorem changes_any {v : Value} {s : List Ch} {w : World} (hr : RdC w v s) (hA : ArgS v) (hl : s.length ≤ 4398046510976) :
    Calls Tryz.prog 8 #[v] w fun e w' => ∃ v', e = .returned v' ∧ OwnC w' w.heap.size v' s ∧ Below w.heap.size w w' := by
  have HR := hid hr
  have HA := hid hA
  obtain ⟨a, c, rfl⟩ := hr.shape
  clear hr hA
  go_enter Tryz.func8, Tryz.ntmps8
  go_wp2_with (at_builtin; refine wpList_append_new rfl _ _ 22 42 rfl Tryz.underlying22 Tryz.infoChange rfl (by decide) rfl _ s.length (csC s) rfl HR.out HA.out (csC_length s) (csC_one s) (by unfold maxLen; omega) (by omega) ?_; intro v1 w1 hO1 hb1; have HO1 := hid hO1; have HB1 := hid hb1; clear hO1 hb1)
  go_ret
  exact ⟨_, rfl, HO1.out, HB1.out⟩
set_option maxHeartbeats 1000000 in
theorem texts_any {v : Value} {s : List ByteArray} {w : World} (hr : RdT w v s) (hA : ArgS v) (hl : s.length ≤ 8796093022208) :
    Calls Tryz.prog 9 #[v] w fun e w' => ∃ v', e = .returned v' ∧ OwnT w' w.heap.size v' s ∧ Below w.heap.size w w' := by
  have HR := hid hr
  have HA := hid hA
  obtain ⟨a, c, rfl⟩ := hr.shape
  clear hr hA
  go_enter Tryz.func9, Tryz.ntmps9
  go_wp2_with (at_builtin; refine wpList_append_new rfl _ _ 23 9 rfl Tryz.underlying23 Tryz.infoStr rfl (by decide) rfl _ s.length (stC s) rfl HR.out HA.out (by rw [stC_length, Nat.mul_one]) (stC_one s) (by unfold maxLen; omega) (by omega) ?_; intro v1 w1 hO1 hb1; have HO1 := hid hO1; have HB1 := hid hb1; clear hO1 hb1)
  go_ret
  exact ⟨_, rfl, HO1.out, HB1.out⟩
end Go.Proofs.YtddmfdjkkikapaaGreatDoor
