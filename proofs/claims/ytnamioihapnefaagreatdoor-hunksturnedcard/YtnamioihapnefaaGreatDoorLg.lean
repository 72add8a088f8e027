/-
  The law's at, where the lines stand there.
-/
import Derived.Test.YtnamioihapnefaaGreatDoorGrKt
import Derived.Test.YtnamioihapnefaaGreatDoorLf
import Derived.Test.YtnamioihapnefaaGreatDoorGrKf
namespace Go.Proofs.YtnamioihapnefaaGreatDoor
open Go.RowKit
open Hu (Rw Hk)
open Ed (Ch)

set_option maxHeartbeats 1000000 in
set_option maxRecDepth 100000 in
theorem at_yes {w : World} {u v : Value} {x all : List ByteArray} {P : Nat} (hx : RdT w u x) (ha : RdT w v all) (h1 : P + x.length ≤ all.length) (he : x = (all.drop P).take x.length) (hl : all.length ≤ 8796093021952) :
    Calls Tryz.prog 31 #[u, .int .i64 P, v] w fun e w' => e = .returned (.bool true) ∧ Below w.heap.size w w' := by
  obtain ⟨au, cu, rfl⟩ := hx.shape
  obtain ⟨av, cv, rfl⟩ := ha.shape
  have hcap := rd_cap ha
  obtain ⟨E, hE⟩ : ∃ E, E = P + x.length := ⟨_, rfl⟩
  have hs := rdT_sliced ha (x := P) (y := E) (by omega) (by omega)
  rw [show E - P = x.length by omega, ← he] at hs
  obtain ⟨A1, hA1⟩ : ∃ A1, (if cv = P then av else av.map (·.add P)) = A1 := ⟨_, rfl⟩
  rw [hA1] at hs
  obtain ⟨xn, hxn⟩ : ∃ xn, xn = x.length := ⟨_, rfl⟩
  have HC := hid (fun w1 (hb : Below w.heap.size w w1) => sameTexts_yes (hx.below hb) (hs.below hb) (by omega))
  rw [← hxn] at HC ⊢
  obtain ⟨n, hn⟩ : ∃ n, n = all.length := ⟨_, rfl⟩
  rw [← hn] at h1 hl hcap ⊢
  have s1 : IntKind.i64.wrap ((P : Int) + (xn : Int)) = (E : Int) := (wrapOk (by omega) (by omega)).trans (by omega)
  have j1 : (0 : Int) ≤ (P : Int) := by omega
  have j2 : (P : Int) ≤ (E : Int) := by omega
  have j3 : (E : Int) ≤ (n : Int) := by omega
  have j4 : (E : Int) ≤ (cv : Int) := by omega
  have hEP : E - P = xn := by omega
  clear hx ha hs he hE hxn hn
  go_enter Tryz.func31, Tryz.ntmps31
  go_wp2_with fail
  refine (HC.out w (Below.refl _ _)).mono ?_
  rintro e w2 ⟨rfl, h2⟩
  have HB2 := hid h2
  clear h2
  go_wp2_with fail
  go_ret
  exact ⟨rfl, HB2.out⟩
theorem own_arg {w : World} {B n size : Nat} {e : TypeId} {v : Value} {xs : List Value} (h : w.ownsRow B e size v n xs) : ArgS v := by
  rcases h.2 with ⟨hv, _⟩ | ⟨g, cap, cur, hv, _⟩
  · subst hv; exact .inl rfl
  · subst hv; exact .inr ⟨_, _, _, rfl⟩
theorem ownH_arg {w : World} {B : Nat} {v : Value} {l : List Hk} (h : OwnH w B v l) : ArgH w v l.length := by
  intro b o m c e k hk u hu
  obtain ⟨p, h1, h2, h3⟩ := h
  have hpl : p.length = l.length := by rw [← h1, List.length_map]
  obtain ⟨q, hq⟩ : ∃ q, p[k]? = some q := ⟨_, List.getElem?_eq_getElem (by omega)⟩
  rcases own_rd h2 with ⟨hn, _⟩ | ⟨b', o', c', hv, _, hb, hX⟩
  · omega
  · rw [e] at hv
    cases hv
    have := hX (k * 6 + 5) _ (hksC_get hq 5 (by omega))
    rw [← Nat.add_assoc] at this
    rw [this] at hu
    cases hu
    exact own_arg (h3 q (List.mem_of_getElem? hq))
/-- what is known of what Build answers -/
structure ArI (a b : List ByteArray) (ctx : Int) (J : List Hk) (t : List Ch) : Prop where
  ord : Hu.orderN J = 0
  scr : Hu.scr J = t
  val : Ed.validN t a.length b.length = 0
  nrm : Ed.normal t a.length b.length = t
  len : t.length ≤ 8388608
  each : ∀ h ∈ J, Hu.Bh ctx a h
  two : J.length < 2 ∨ ctx < a.length
theorem bldN_zero {s : List Ch} {a b : List ByteArray} {ctx : Int} (h : bldN s a b ctx = 0) : (0 ≤ ctx ∧ ctx ≤ 2147483647) ∧ Hu.valS a = true ∧ Hu.valS b = true ∧ Ed.validN s a.length b.length = 0 ∧ Hu.endsP (Ed.normal s a.length b.length) a b = true := by
  unfold bldN at h
  cases hc : ctxOk ctx with
  | false => rw [hc] at h; simp at h
  | true =>
    rw [hc, if_pos rfl] at h
    cases ha : Hu.valS a with
    | false => rw [ha] at h; simp at h
    | true =>
      cases hb : Hu.valS b with
      | false => rw [ha, hb] at h; simp at h
      | true =>
        rw [ha, hb, if_pos (show (true && true) = true from rfl)] at h
        by_cases hk : Ed.validN s a.length b.length = 0
        · rw [if_pos hk] at h
          cases he : Hu.endsP (Ed.normal s a.length b.length) a b with
          | false => rw [he] at h; simp at h
          | true => exact ⟨by simpa [ctxOk] using hc, rfl, rfl, hk, rfl⟩
        · rw [if_neg hk] at h
          exact absurd h hk
theorem bld_ar {s : List Ch} {a b : List ByteArray} {ctx : Int} (h : bldN s a b ctx = 0) : ArI a b ctx (bldA s a b ctx) (Ed.normal s a.length b.length) := by
  obtain ⟨hc, hva, hvb, hk, he⟩ := bldN_zero h
  have hV0 := Ed.validN_zero.1 hk
  obtain ⟨hV, hpr⟩ := Ed.normal_Val hV0
  have hn := Ed.cnt_iff.1 hV.1
  have hm := Ed.cnt_iff.1 hV.2.1
  have hall := Hu.endsP_all ⟨s, hV0, rfl⟩ hva hvb
  rw [he] at hall
  have hJ : bldA s a b ctx = Hu.bld ctx a b (Ed.normal s a.length b.length) := by unfold bldA; rw [if_pos h]
  obtain ⟨q1, q2, q3, q4, q5⟩ := Hu.bld_all (ctx := ctx) hva hvb hc.1 (by omega) (by omega) _ (Ed.normal s a.length b.length) 0 0 0 0 (Nat.le_refl _) hV.2.2 (normal_apart hV0) (Hu.Ahead.start hV) (fun pr hp => List.all_eq_true.1 hall.symm pr hp) (fun c hc' => by
    have := Hu.inc_in (Hu.inc_val hV.2.2 (by omega) (by omega)) c (by
      cases ht : Ed.normal s a.length b.length with
      | nil => rw [ht] at hc'; cases hc'
      | cons d r => rw [ht] at hc'; simp at hc'; rw [hc']; exact List.mem_cons_self)
    omega) rfl
  rw [hJ]
  refine ⟨?_, q3, Ed.validN_zero.2 hV, Ed.normal_twice hV0, Val_len hV, q4, ?_⟩
  · unfold Hu.orderN
    rw [q2, if_pos rfl, q1, if_pos rfl]
  · rcases Nat.lt_or_ge (Hu.bld ctx a b (Ed.normal s a.length b.length)).length 2 with h2 | h2
    · exact .inl h2
    · exact .inr (q5 h2)
end Go.Proofs.YtnamioihapnefaaGreatDoor
