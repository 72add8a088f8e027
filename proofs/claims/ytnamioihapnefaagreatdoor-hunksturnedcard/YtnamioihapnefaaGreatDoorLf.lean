/-
  Build, plain: all built hunks, one behind the other.
-/
import Derived.Test.YtnamioihapnefaaGreatDoorLe
namespace Go.Proofs.YtnamioihapnefaaGreatDoor.Hu
open Go
open Ed (Ch Pr okC val apart)

theorem Ahead.next {ctx : Int} {t : List Ch} {x y n m : Int} (h : Ahead ctx t x y n m) (hne : t ≠ []) : Ahead ctx (t.drop (glen ctx t)) (endA x (t.take (glen ctx t))) (endB y (t.take (glen ctx t))) n m := by
  have hp := glen_pos ctx t hne
  have hl := glen_le ctx t
  cases t with
  | nil => exact absurd rfl hne
  | cons c r =>
    obtain ⟨k, hk⟩ : ∃ k, glen ctx (c :: r) = k + 1 := ⟨glen ctx (c :: r) - 1, by omega⟩
    have e1 : (c :: r).take (glen ctx (c :: r)) = c :: r.take k := by rw [hk]; rfl
    have e2 : (c :: r).drop (glen ctx (c :: r)) = r.drop k := by rw [hk]; rfl
    have hsplit : c :: r = (c :: r.take k) ++ r.drop k := by rw [List.cons_append, List.take_append_drop]
    have hi := h.inc
    rw [hsplit] at hi
    obtain ⟨hi1, hi2⟩ := inc_app.1 hi
    obtain ⟨⟨⟨p1, p2, p3⟩, ⟨p4, p5, p6⟩, p7, p8⟩, hr⟩ := hi1
    have hx := h.x0
    have hy := h.y0
    rw [e1, e2]
    refine ⟨hi2, ?_, ?_, .inr ?_⟩
    · have := (endA_ge hr).1
      show 0 ≤ endA (c.a + c.n) (r.take k)
      omega
    · have := (endA_ge hr).2.2.1
      show 0 ≤ endB (c.b + c.m) (r.take k)
      omega
    · intro d hd
      have hd2 : (c :: r)[glen ctx (c :: r)]? = some d := by
        rw [hk, List.getElem?_cons_succ]
        rw [List.head?_drop] at hd
        exact hd
      obtain ⟨l, hlst⟩ : ∃ l, (c :: r)[glen ctx (c :: r) - 1]? = some l := ⟨_, List.getElem?_eq_getElem (by omega)⟩
      have hg := glen_gap hlst hd2
      have e3 : endA x (c :: r.take k) = l.a + l.n := by
        rw [endA_last (by simp)]
        have : (c :: r.take k).getLastD zC = l := by
          rw [List.getLastD_eq_getLast?, List.getLast?_eq_getElem?, ← e1, List.length_take, List.getElem?_take]
          rw [show min (glen ctx (c :: r)) (c :: r).length - 1 = glen ctx (c :: r) - 1 by omega, if_pos (by omega), hlst]
          rfl
        rw [this]
      rw [e3]
      omega
theorem val_drop : ∀ (g r : List Ch) (x y n m : Int), val (g ++ r) x y n m = true → val r (endA x g) (endB y g) n m = true
  | [], r, x, y, n, m, h => h
  | c :: g, r, x, y, n, m, h => by
    obtain ⟨_, h2⟩ := Ed.val_cons.1 h
    exact val_drop g r (c.a + c.n) (c.b + c.m) n m h2
theorem prs_drop : ∀ (g r : List Ch) (x y n : Int), ∀ pr ∈ Ed.prs r n (endA x g) (endB y g), pr ∈ Ed.prs (g ++ r) n x y
  | [], r, x, y, n, pr, h => h
  | c :: g, r, x, y, n, pr, h => by
    rw [List.cons_append, Ed.prs_cons]
    exact List.mem_append_right _ (prs_drop g r (c.a + c.n) (c.b + c.m) n pr h)
theorem endA_any {g : List Ch} (hne : g ≠ []) (x x' : Int) : endA x g = endA x' g := by
  cases g with
  | nil => exact absurd rfl hne
  | cons c r => rfl
theorem endB_any {g : List Ch} (hne : g ≠ []) (x x' : Int) : endB x g = endB x' g := by
  cases g with
  | nil => exact absurd rfl hne
  | cons c r => rfl
theorem from_take {ctx : Int} {t : List Ch} {c : Ch} {k : Nat} (hc : t.head? = some c) (hk : 1 ≤ k) : fromG ctx (t.take k) = c.a - min ctx c.a ∧ fromH ctx (t.take k) = c.b - min ctx c.a := by
  cases t with
  | nil => simp at hc
  | cons d r =>
    simp at hc
    subst hc
    obtain ⟨j, rfl⟩ : ∃ j, k = j + 1 := ⟨k - 1, by omega⟩
    exact ⟨rfl, rfl⟩
/-- what the laws ask of each built hunk -/
structure Bh (ctx : Int) (a : List ByteArray) (h : Hk) : Prop where
  kd : ∀ r ∈ h.rows, r.k = 1 ∨ r.k = 2 ∨ r.k = 3
  n : h.n = (olds h.rows).length
  p0 : 0 ≤ plc h.a h.n
  p1 : plc h.a h.n + h.n ≤ a.length
  sides : olds h.rows = sl a (plc h.a h.n) (plc h.a h.n + h.n)
  none_ : ctx = 0 → ∀ r ∈ h.rows, r.k ≠ 1
theorem glen_zero {t : List Ch} {x y n m : Int} (hi : inc t x y n m) (ha : apart t) (hne : t ≠ []) : glen 0 t = 1 := by
  cases t with
  | nil => exact absurd rfl hne
  | cons c r =>
    cases r with
    | nil => rfl
    | cons d r =>
      obtain ⟨_, ⟨⟨p1, _, _⟩, _⟩, _⟩ := hi
      have := ha.1 d rfl
      rw [glen, if_neg (by omega)]
theorem rows_zero {a b : List ByteArray} {c : Ch} {p q : Int} (h1 : p = c.a) (h2 : q = c.a + c.n) : ∀ r ∈ rowsG a b p [c] q, r.k ≠ 1 := by
  subst h1 h2
  intro r hr
  rw [rowsG, rowsG, sl_none, sl_none] at hr
  simp only [mk, List.map_nil, List.nil_append, List.append_nil, List.mem_append, List.mem_map] at hr
  rcases hr with ⟨x, _, rfl⟩ | ⟨x, _, rfl⟩ <;> simp
theorem bld_all {ctx : Int} {a b : List ByteArray} (hva : valS a = true) (hvb : valS b = true) (hc0 : 0 ≤ ctx) (hla : a.length ≤ 4194304) (hlb : b.length ≤ 4194304) : ∀ (N : Nat) (t : List Ch) (x y X Y : Int), t.length ≤ N → val t x y a.length b.length = true → apart t → Ahead ctx t x y a.length b.length → (∀ pr ∈ Ed.prs t a.length x y, eqW a b pr = true) → (∀ c, t.head? = some c → X ≤ c.a - min ctx c.a) → X - Y = x - y →
    ordP (bld ctx a b t) X Y false false = true ∧ (bld ctx a b t).all vld = true ∧ scr (bld ctx a b t) = t ∧ (∀ h ∈ bld ctx a b t, Bh ctx a h) ∧ (2 ≤ (bld ctx a b t).length → ctx < a.length)
  | 0, t, x, y, X, Y, hN, _, _, _, _, _, _ => by
    have e : t = [] := List.length_eq_zero_iff.1 (by omega)
    subst e
    simp [bld, grp, ordP, scr]
  | N + 1, t, x, y, X, Y, hN, hv, hap, hA, hE, hX, hXY => by
    by_cases hne : t = []
    · subst hne; simp [bld, grp, ordP, scr]
    · obtain ⟨g1, g2, g3, g4, _⟩ := hA.group hne hc0
      have hnx := hA.next hne
      have hp := glen_pos ctx t hne
      have hl := glen_le ctx t
      have hlen : (t.drop (glen ctx t)).length = t.length - glen ctx t := List.length_drop
      obtain ⟨c, hc⟩ : ∃ c, t.head? = some c := by
        cases t with
        | nil => exact absurd rfl hne
        | cons c r => exact ⟨c, rfl⟩
      obtain ⟨f1, f2⟩ := from_take (ctx := ctx) (k := glen ctx t) hc hp
      have hsp : t.take (glen ctx t) ++ t.drop (glen ctx t) = t := List.take_append_drop _ _
      have hapg := apart_take hap (glen ctx t)
      have hapd := apart_drop hap (glen ctx t)
      have hz : ctx = 0 → ∀ r ∈ (ofG ctx a b (t.take (glen ctx t))).rows, r.k ≠ 1 := by
        intro h0
        subst h0
        have hi := hA.inc
        rw [glen_zero hi hap hne]
        cases t with
        | nil => exact absurd rfl hne
        | cons d r =>
          obtain ⟨⟨⟨p1, p2, p3⟩, ⟨p4, p5, p6⟩, p7, p8⟩, _⟩ := hi
          have := hA.x0
          refine rows_zero ?_ ?_
          · show d.a - min 0 d.a = d.a; omega
          · show min (d.a + d.n + 0) (a.length : Int) = d.a + d.n; omega
      have hbs := bld_step (ctx := ctx) (a := a) (b := b) hne
      have hv2 := val_drop (t.take (glen ctx t)) (t.drop (glen ctx t)) x y a.length b.length (by rw [hsp]; exact hv)
      have hE2 : ∀ pr ∈ Ed.prs (t.drop (glen ctx t)) a.length (endA x (t.take (glen ctx t))) (endB y (t.take (glen ctx t))), eqW a b pr = true := fun pr h => hE pr (by have := prs_drop (t.take (glen ctx t)) (t.drop (glen ctx t)) x y a.length pr h; rwa [hsp] at this)
      have hdg : c.a - x = c.b - y := by
        have hi := hA.inc
        cases t with
        | nil => exact absurd rfl hne
        | cons d r => simp at hc; subst hc; exact hi.1.2.2.2
      have hxP : x ≤ c.a - min ctx c.a := by
        have hx := hA.x0
        have hca : x ≤ c.a := by
          have hi := hA.inc
          cases t with
          | nil => exact absurd rfl hne
          | cons d r => simp at hc; subst hc; exact hi.1.1.1
        rcases hA.gap with ⟨k1, k2⟩ | k
        · omega
        · have := k c hc
          omega
      obtain ⟨q1, q2, q3, q4, q5, q6, q7⟩ := ofG_facts g1 g2 g3 g4 hc0 hla hlb
      have hge := endA_ge g2
      have eA := endA_any g1 (fromG ctx (t.take (glen ctx t))) x
      have eB := endB_any g1 (fromH ctx (t.take (glen ctx t))) y
      have hgap := hnx.gap
      have hto : toG ctx a.length (t.take (glen ctx t)) ≤ endA x (t.take (glen ctx t)) + ctx := by
        rw [endA_last g1]
        unfold toG
        omega
      have hd : ∀ d, (t.drop (glen ctx t)).head? = some d → toG ctx a.length (t.take (glen ctx t)) < d.a - min ctx d.a ∧ d.a ≤ a.length ∧ d.b ≤ b.length ∧ d.a - endA x (t.take (glen ctx t)) = d.b - endB y (t.take (glen ctx t)) ∧ 2 * ctx < d.a := by
        intro d hd
        have hgp : 2 * ctx < d.a - endA x (t.take (glen ctx t)) := by
          have hk := hnx.gap
          have hx0 := hA.x0
          rcases hk with ⟨k1, k2⟩ | k
          · -- the end of a group is behind its first change
            have hcn := hA.inc
            obtain ⟨j, hj⟩ : ∃ j, glen ctx t = j + 1 := ⟨glen ctx t - 1, by omega⟩
            obtain ⟨l, hl2⟩ : ∃ l, t[glen ctx t - 1]? = some l := ⟨_, List.getElem?_eq_getElem (by omega)⟩
            have hd2 : t[glen ctx t]? = some d := by rw [List.head?_drop] at hd; exact hd
            have := glen_gap hl2 hd2
            have e3 : endA x (t.take (glen ctx t)) = l.a + l.n := by
              rw [endA_last g1]
              have : (t.take (glen ctx t)).getLastD zC = l := by
                rw [List.getLastD_eq_getLast?, List.getLast?_eq_getElem?, List.length_take, List.getElem?_take, show min (glen ctx t) t.length - 1 = glen ctx t - 1 by omega, if_pos (by omega), hl2]
                rfl
              rw [this]
            omega
          · exact k d hd
        have hi := hnx.inc
        have hx2 := hnx.x0
        cases hr : t.drop (glen ctx t) with
        | nil => rw [hr] at hd; cases hd
        | cons e r =>
          rw [hr] at hd hi
          simp at hd
          subst hd
          obtain ⟨⟨⟨p1, p2, p3⟩, ⟨p4, p5, p6⟩, p7, p8⟩, _⟩ := hi
          omega
      have hY : endB (fromH ctx (t.take (glen ctx t))) (t.take (glen ctx t)) + (toG ctx a.length (t.take (glen ctx t)) - endA (fromG ctx (t.take (glen ctx t))) (t.take (glen ctx t))) ≤ b.length := by
        rw [eA, eB]
        cases hr : (t.drop (glen ctx t)).head? with
        | some d => have := hd d hr; omega
        | none =>
          have e : t.drop (glen ctx t) = [] := List.head?_eq_none_iff.1 hr
          rw [e] at hv2
          have : (a.length : Int) - endA x (t.take (glen ctx t)) = b.length - endB y (t.take (glen ctx t)) := by simpa [val] using hv2
          omega
      have hO := ofG_ok hva hvb g1 g2 g3 g4 hc0 hla hlb hY (fun pr h => hE pr (by
        have := prs_sub (t.take (glen ctx t)) (t.drop (glen ctx t)) x y (fromG ctx (t.take (glen ctx t))) (fromH ctx (t.take (glen ctx t))) (toG ctx a.length (t.take (glen ctx t))) a.length (by rw [f1]; exact hxP) (by rw [f1, f2]; omega) (fun d h => by have := hd d h; omega) (fun _ => q2) pr h
        rwa [hsp] at this))
      rw [eA, eB] at hO
      have ih := bld_all hva hvb hc0 hla hlb N (t.drop (glen ctx t)) (endA x (t.take (glen ctx t))) (endB y (t.take (glen ctx t))) (toG ctx a.length (t.take (glen ctx t))) (endB y (t.take (glen ctx t)) + (toG ctx a.length (t.take (glen ctx t)) - endA x (t.take (glen ctx t)))) (by omega) hv2 hapd hnx hE2 (fun d h => by have := hd d h; omega) (by omega)
      obtain ⟨i1, i2, i3, i4, i5⟩ := ih
      have hsc := scrH_ofG (ctx := ctx) (a := a) (b := b) g2 hapg g3 g4 q1 q2 (Int.le_refl _) (Int.le_refl _)
      have hXc := hX c hc
      rw [hbs]
      refine ⟨?_, ?_, ?_, ?_, ?_⟩
      · rw [ordP, if_neg (by
          rw [hO.pa, hO.pb, f1, f2]
          rintro (h | h | ⟨h, _⟩ | ⟨h, _⟩)
          · omega
          · exact h (by omega)
          · cases h
          · cases h), hO.pa, hO.pb, hO.n, hO.m, hO.olds, hO.like.lack]
        cases hr : (t.drop (glen ctx t)).head? with
        | none =>
          rw [List.head?_eq_none_iff.1 hr]
          simp [bld, grp, ordP]
        | some d =>
          have := hd d hr
          rw [lack_sl hva g3 q3 (by omega), lack_sl hvb g4 (by omega) (by omega)]
          exact i1
      · rw [List.all_cons, hO.vld, i2]
        rfl
      · show scrH _ ++ scr _ = t
        rw [hsc, i3, hsp]
      · intro h hh
        rcases List.mem_cons.1 hh with rfl | hh
        · have hn := hO.n
          refine ⟨fun r hr => Kd_rowsG' a b _ _ _ r hr, rfl, by rw [hO.pa]; exact g3, by rw [hO.pa]; omega, by rw [hO.pa, hO.olds, hn], hz⟩
        · exact i4 h hh
      · intro h2
        cases hr : (t.drop (glen ctx t)).head? with
        | none =>
          rw [List.head?_eq_none_iff.1 hr] at h2
          simp [bld, grp] at h2
        | some d =>
          have := hd d hr
          omega
end Go.Proofs.YtnamioihapnefaaGreatDoor.Hu
