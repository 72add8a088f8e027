/-
  Build, plain: built hunks may be, and may stand one behind the other; they tell the script.
-/
import Derived.Test.YtnamioihapnefaaGreatDoorLa
import Derived.Test.YtnamioihapnefaaGreatDoorGrPl
import Derived.Test.YtnamioihapnefaaGreatDoorGrKt
namespace Go.Proofs.YtnamioihapnefaaGreatDoor.Hu
open Go
open Ed (Ch Pr okC val apart)

/-! ### lines of a text by what is whole -/
theorem valS_iff : ∀ {l : List ByteArray}, valS l = true ↔ (∀ x ∈ l, okT x = true) ∧ ∀ k, k + 1 < l.length → whT (l.getD k .empty) = true
  | [] => by simp [valS_nil]
  | x :: r => by
    rw [valS_cons, Bool.and_eq_true, Bool.and_eq_true, valS_iff (l := r)]
    constructor
    · rintro ⟨⟨h1, h2⟩, h3, h4⟩
      refine ⟨fun y hy => ?_, fun k hk => ?_⟩
      · rcases List.mem_cons.1 hy with rfl | hy
        · exact h1
        · exact h3 y hy
      · cases k with
        | zero =>
          have hr : r.isEmpty = false := by
            cases r with
            | nil => simp at hk
            | cons _ _ => rfl
          rw [hr] at h2
          simpa using h2
        | succ k => exact h4 k (by simpa using hk)
    · rintro ⟨h1, h2⟩
      refine ⟨⟨h1 x (by simp), ?_⟩, fun y hy => h1 y (by simp [hy]), fun k hk => ?_⟩
      · cases r with
        | nil => rfl
        | cons y r =>
          have := h2 0 (by simp)
          simpa using this
      · have := h2 (k + 1) (by simpa using hk)
        simpa using this
theorem sl_getD {l : List ByteArray} {x y : Int} {k : Nat} (hk : (k : Int) < y - x) : (sl l x y).getD k .empty = l.getD (x.toNat + k) .empty := by
  unfold sl
  rw [List.getD_eq_getElem?_getD, List.getD_eq_getElem?_getD, List.getElem?_take, if_pos (by omega), List.getElem?_drop]
theorem valS_sl {l : List ByteArray} {x y : Int} (h : valS l = true) (h0 : 0 ≤ x) (h1 : x ≤ y) (h2 : y ≤ l.length) : valS (sl l x y) = true := by
  obtain ⟨p1, p2⟩ := valS_iff.1 h
  have e := sl_len (l := l) h0 h1 h2
  refine valS_iff.2 ⟨fun z hz => p1 z (sl_mem hz), fun k hk => ?_⟩
  rw [sl_getD (by omega)]
  exact p2 _ (by omega)
theorem lack_sl {l : List ByteArray} {x y : Int} (h : valS l = true) (h0 : 0 ≤ x) (h1 : x ≤ y) (h2 : y < l.length) : lack (sl l x y) = false := by
  have e := sl_len (l := l) h0 h1 (by omega)
  unfold lack
  cases hg : (sl l x y).getLast? with
  | none => rfl
  | some z =>
    have hz : (sl l x y).getD ((sl l x y).length - 1) .empty = z := by
      rw [List.getD_eq_getElem?_getD, ← List.getLast?_eq_getElem?, hg]
      rfl
    have hne : (sl l x y).length ≠ 0 := by
      intro e0
      rw [List.length_eq_zero_iff.1 e0] at hg
      cases hg
    rw [sl_getD (by omega)] at hz
    have := (valS_iff.1 h).2 (x.toNat + ((sl l x y).length - 1)) (by omega)
    rw [hz] at this
    show (!whT z) = false
    rw [this]
    rfl
/-- lines that are whole just where others are -/
structure Like (u v : List ByteArray) : Prop where
  len : u.length = v.length
  ok : ∀ x ∈ u, okT x = true
  wh : ∀ k, whT (u.getD k .empty) = whT (v.getD k .empty)
theorem getD_app {u v : List ByteArray} {k : Nat} : (u ++ v).getD k .empty = if k < u.length then u.getD k .empty else v.getD (k - u.length) .empty := by
  rw [List.getD_eq_getElem?_getD, List.getD_eq_getElem?_getD, List.getD_eq_getElem?_getD]
  split
  · next h => rw [List.getElem?_append_left h]
  · next h => rw [List.getElem?_append_right (by omega)]
theorem Like.app {u v u' v' : List ByteArray} (h : Like u v) (h' : Like u' v') : Like (u ++ u') (v ++ v') := by
  refine ⟨by rw [List.length_append, List.length_append, h.len, h'.len], fun x hx => ?_, fun k => ?_⟩
  · rcases List.mem_append.1 hx with hx | hx
    · exact h.ok x hx
    · exact h'.ok x hx
  · rw [getD_app, getD_app, h.len]
    split
    · exact h.wh k
    · exact h'.wh _
theorem Like.refl {u : List ByteArray} (h : ∀ x ∈ u, okT x = true) : Like u u := ⟨rfl, h, fun _ => rfl⟩
theorem Like.val {u v : List ByteArray} (h : Like u v) (hv : valS v = true) : valS u = true :=
  valS_iff.2 ⟨h.ok, fun k hk => by rw [h.wh]; exact (valS_iff.1 hv).2 k (by rw [← h.len]; exact hk)⟩
theorem Like.lack {u v : List ByteArray} (h : Like u v) : Hu.lack u = Hu.lack v := by
  have key : ∀ l : List ByteArray, Hu.lack l = if l.length = 0 then false else !whT (l.getD (l.length - 1) .empty) := by
    intro l
    unfold Hu.lack
    rw [List.getLast?_eq_getElem?, List.getD_eq_getElem?_getD]
    cases l with
    | nil => rfl
    | cons x r =>
      rw [if_neg (by simp)]
      cases hq : (x :: r)[(x :: r).length - 1]? with
      | none => exact absurd (List.getElem?_eq_none_iff.1 hq) (by simp)
      | some z => rfl
  rw [key, key, h.len, h.wh]

/-! ### the lines that stay in a hunk stay by the script -/
theorem prs_sub : ∀ (g r : List Ch) (x y P P' q n : Int), x ≤ P → P - x = P' - y → (∀ d, r.head? = some d → q ≤ d.a) → (r = [] → q ≤ n) → ∀ pr ∈ Ed.prs g q P P', pr ∈ Ed.prs (g ++ r) n x y
  | [], r, x, y, P, P', q, n, h1, h2, h3, h4, pr, hp => by
    rw [Ed.prs_nil, Ed.mem_exN] at hp
    rw [List.nil_append]
    cases r with
    | nil =>
      have := h4 rfl
      rw [Ed.prs_nil, Ed.mem_exN]
      omega
    | cons c r =>
      have := h3 c rfl
      rw [Ed.prs_cons, List.mem_append, Ed.mem_exN]
      left
      omega
  | c :: g, r, x, y, P, P', q, n, h1, h2, h3, h4, pr, hp => by
    rw [List.cons_append, Ed.prs_cons, List.mem_append]
    rw [Ed.prs_cons, List.mem_append] at hp
    rcases hp with hp | hp
    · left
      rw [Ed.mem_exN] at hp ⊢
      omega
    · right
      exact prs_sub g r _ _ _ _ q n (Int.le_refl _) (by omega) h3 h4 pr hp
theorem like_nil {a b : List ByteArray} (ha : ∀ x ∈ a, okT x = true) {p p' q : Int} (hp : 0 ≤ p) (hp' : 0 ≤ p') (he' : p ≤ q) (hq : q ≤ a.length) (hbl' : p' + (q - p) ≤ b.length) (hE : ∀ pr ∈ Ed.prs [] q p p', eqW a b pr = true) : Like (sl a p q) (sl b p' (p' + (q - p))) := by
  have e1 := sl_len (l := a) hp he' hq
  have e2 := sl_len (l := b) (x := p') (y := p' + (q - p)) hp' (by omega) hbl'
  refine ⟨by omega, fun x hx => ha x (sl_mem hx), fun k => ?_⟩
  by_cases hk : (k : Int) < q - p
  · rw [sl_getD hk, sl_getD (by omega)]
    have := hE (p + k, p' + k) (by rw [Ed.prs_nil, Ed.mem_exN]; simp only; omega)
    unfold eqW at this
    simp only [beq_iff_eq] at this
    rw [show (p + (k : Int)).toNat = p.toNat + k by omega, show (p' + (k : Int)).toNat = p'.toNat + k by omega] at this
    exact this
  · rw [List.getD_eq_getElem?_getD, List.getD_eq_getElem?_getD, List.getElem?_eq_none (by omega), List.getElem?_eq_none (by omega)]
/-- the new lines of a group's rows are whole just where those of the new text are -/
theorem like_rowsG {a b : List ByteArray} (ha : ∀ x ∈ a, okT x = true) (hb : ∀ x ∈ b, okT x = true) : ∀ (g : List Ch) (p p' q n m : Int), inc g p p' n m → 0 ≤ p → 0 ≤ p' → endA p g ≤ q → q ≤ a.length → n ≤ a.length → m ≤ b.length → endB p' g + (q - endA p g) ≤ b.length → (∀ pr ∈ Ed.prs g q p p', eqW a b pr = true) →
    Like (fres (rowsG a b p g q)) (sl b p' (endB p' g + (q - endA p g)))
  | [], p, p', q, n, m, hi, hp, hp', he, hq, hn, hm, hbl, hE => by
    rw [rowsG, fres_mk1]
    exact like_nil ha hp hp' he hq hbl hE
  | c :: r, p, p', q, n, m, hi, hp, hp', he, hq, hn, hm, hbl, hE => by
    obtain ⟨⟨⟨p1, p2, p3⟩, ⟨p4, p5, p6⟩, p7, p8⟩, hr⟩ := hi
    have hq' : endA (c.a + c.n) r ≤ q := he
    have hge := endA_ge hr
    have hbl' : endB (c.b + c.m) r + (q - endA (c.a + c.n) r) ≤ b.length := hbl
    have ih := like_rowsG ha hb r (c.a + c.n) (c.b + c.m) q n m hr (by omega) (by omega) hq' hq hn hm hbl' (fun pr h => hE pr (by rw [Ed.prs_cons]; exact List.mem_append_right _ h))
    have h0 := like_nil (b := b) ha hp hp' p1 (by omega) (by omega) (fun pr h => hE pr (by rw [Ed.prs_cons]; rw [Ed.prs_nil] at h; exact List.mem_append_left _ h))
    have e0 : p' + (c.a - p) = c.b := by omega
    rw [e0] at h0
    show Like (fres (mk 1 (sl a p c.a) ++ (mk 2 (sl a c.a (c.a + c.n)) ++ (mk 3 (sl b c.b (c.b + c.m)) ++ rowsG a b (c.a + c.n) r q)))) (sl b p' (endB (c.b + c.m) r + (q - endA (c.a + c.n) r)))
    rw [fres_app, fres_app, fres_app, fres_mk1, fres_mk2, fres_mk3, List.nil_append, ← sl_app (l := b) (x := p') (y := c.b) (z := endB (c.b + c.m) r + (q - endA (c.a + c.n) r)) hp' (by omega) (by omega), ← sl_app (l := b) (x := c.b) (y := c.b + c.m) (z := endB (c.b + c.m) r + (q - endA (c.a + c.n) r)) (by omega) (by omega) (by omega)]
    exact h0.app ((Like.refl (fun x hx => hb x (sl_mem hx))).app ih)

/-! ### built hunks may be -/
theorem endB_eq : ∀ (g : List Ch) (p p' n m : Int), inc g p p' n m → endB p' g - endA p g = p' - p + Ed.comeS g - Ed.goneS g
  | [], p, p', n, m, _ => by show p' - p = _; simp [Ed.comeS, Ed.goneS]
  | c :: r, p, p', n, m, hi => by
    obtain ⟨⟨_, _, _, p8⟩, hr⟩ := hi
    have ih := endB_eq r (c.a + c.n) (c.b + c.m) n m hr
    show endB (c.b + c.m) r - endA (c.a + c.n) r = _
    rw [ih]
    simp only [Ed.goneS, Ed.comeS, List.map_cons, List.sum_cons]
    omega
theorem any_rowsG {a b : List ByteArray} {c : Ch} {r : List Ch} {p p' q n m : Int} (hi : inc (c :: r) p p' n m) (hp : 0 ≤ p) (hp' : 0 ≤ p') (hn : n ≤ a.length) (hm : m ≤ b.length) : (rowsG a b p (c :: r) q).any isC = true := by
  obtain ⟨⟨⟨p1, p2, p3⟩, ⟨p4, p5, p6⟩, p7, p8⟩, hr⟩ := hi
  have e2 := sl_len (l := a) (x := c.a) (y := c.a + c.n) (by omega) (by omega) (by omega)
  have e3 := sl_len (l := b) (x := c.b) (y := c.b + c.m) (by omega) (by omega) (by omega)
  rw [rowsG, List.any_append, List.any_append, List.any_append]
  have : (mk 2 (sl a c.a (c.a + c.n))).any isC = true ∨ (mk 3 (sl b c.b (c.b + c.m))).any isC = true := by
    cases h2 : sl a c.a (c.a + c.n) with
    | cons z zs => left; rfl
    | nil =>
      cases h3 : sl b c.b (c.b + c.m) with
      | cons z zs => right; rfl
      | nil => rw [h2] at e2; rw [h3] at e3; simp at e2 e3; omega
  rcases this with h | h <;> rw [h] <;> simp
/-- what is known of a group's hunk -/
structure OfG (ctx : Int) (a b : List ByteArray) (g : List Ch) (Y : Int) : Prop where
  vld : vld (ofG ctx a b g) = true
  pa : plc (ofG ctx a b g).a (ofG ctx a b g).n = fromG ctx g
  pb : plc (ofG ctx a b g).b (ofG ctx a b g).m = fromH ctx g
  n : fromG ctx g + (ofG ctx a b g).n = toG ctx a.length g
  m : fromH ctx g + (ofG ctx a b g).m = Y
  olds : olds (ofG ctx a b g).rows = sl a (fromG ctx g) (toG ctx a.length g)
  like : Like (fres (ofG ctx a b g).rows) (sl b (fromH ctx g) Y)
theorem ofG_ok {ctx : Int} {a b : List ByteArray} {g : List Ch} (hva : valS a = true) (hvb : valS b = true) (hne : g ≠ []) (hi : inc g (fromG ctx g) (fromH ctx g) a.length b.length) (h0 : 0 ≤ fromG ctx g) (h1 : 0 ≤ fromH ctx g) (hc0 : 0 ≤ ctx) (hla : a.length ≤ 4194304) (hlb : b.length ≤ 4194304)
    (hY : endB (fromH ctx g) g + (toG ctx a.length g - endA (fromG ctx g) g) ≤ b.length) (hE : ∀ pr ∈ Ed.prs g (toG ctx a.length g) (fromG ctx g) (fromH ctx g), eqW a b pr = true) :
    OfG ctx a b g (endB (fromH ctx g) g + (toG ctx a.length g - endA (fromG ctx g) g)) := by
  obtain ⟨q1, q2, q3, q4, q5, q6, q7⟩ := ofG_facts hne hi h0 h1 hc0 hla hlb
  obtain ⟨y1, y2⟩ := valS_iff.1 hva
  obtain ⟨x1, x2⟩ := valS_iff.1 hvb
  have hlk := like_rowsG y1 x1 g (fromG ctx g) (fromH ctx g) (toG ctx a.length g) a.length b.length hi h0 h1 q1 q2 (Int.le_refl _) (Int.le_refl _) hY hE
  have ho := olds_rowsG (a := a) (b := b) hi h0 q1
  have hge := endA_ge hi
  have el := sl_len (l := a) h0 q3 q2
  have ef := sl_len (l := b) (x := fromH ctx g) (y := endB (fromH ctx g) g + (toG ctx a.length g - endA (fromG ctx g) g)) h1 (by omega) hY
  have hfl := hlk.len
  have hrows : (ofG ctx a b g).rows = rowsG a b (fromG ctx g) g (toG ctx a.length g) := rfl
  have hn : (ofG ctx a b g).n = ((olds (rowsG a b (fromG ctx g) g (toG ctx a.length g))).length : Int) := rfl
  have hm : (ofG ctx a b g).m = ((fres (rowsG a b (fromG ctx g) g (toG ctx a.length g))).length : Int) := rfl
  have ha2 : (ofG ctx a b g).a = told (fromG ctx g) (olds (rowsG a b (fromG ctx g) g (toG ctx a.length g))).length := rfl
  have hb2 : (ofG ctx a b g).b = told (fromH ctx g) (fres (rowsG a b (fromG ctx g) g (toG ctx a.length g))).length := rfl
  refine ⟨?_, plc_told _ _, plc_told _ _, by rw [hn, ho]; omega, by rw [hm, hfl]; omega, by rw [hrows, ho], by rw [hrows]; exact hlk⟩
  unfold vld side areR
  rw [hrows, hn, hm, ha2, hb2]
  have c1 : (rowsG a b (fromG ctx g) g (toG ctx a.length g)).all (fun r => r.k == 1 || isC r) = true := by
    rw [List.all_eq_true]
    intro r hr
    rcases Kd_rowsG' a b g _ _ r hr with h | h | h <;> rw [h] <;> simp [isC, h]
  have c2 : (rowsG a b (fromG ctx g) g (toG ctx a.length g)).any isC = true := by
    cases g with
    | nil => exact absurd rfl hne
    | cons c r => exact any_rowsG hi h0 h1 (Int.le_refl _) (Int.le_refl _)
  have c3 : valS (olds (rowsG a b (fromG ctx g) g (toG ctx a.length g))) = true := by rw [ho]; exact valS_sl hva h0 q3 q2
  have c4 : valS (fres (rowsG a b (fromG ctx g) g (toG ctx a.length g))) = true := hlk.val (valS_sl hvb h1 (by omega) hY)
  have c5 : headOk (ofG ctx a b g).head = true := by show headOk .empty = true; decide
  rw [c1, c2, c3, c4, c5]
  have t1 : ∀ (P : Int) (k : Nat), 0 ≤ P → P ≤ 8388608 → k ≤ 8388608 → decide (min (k : Int) 1 ≤ told P k) = true ∧ decide (told P k ≤ 2147483647 - (k : Int)) = true := by
    intro P k h1 h2 h3
    unfold told
    split <;> refine ⟨decide_eq_true ?_, decide_eq_true ?_⟩ <;> omega
  obtain ⟨r1, r2⟩ := t1 (fromG ctx g) (olds (rowsG a b (fromG ctx g) g (toG ctx a.length g))).length h0 (by omega) (by rw [ho]; omega)
  obtain ⟨r3, r4⟩ := t1 (fromH ctx g) (fres (rowsG a b (fromG ctx g) g (toG ctx a.length g))).length h1 (by omega) (by rw [hfl]; omega)
  rw [r1, r2, r3, r4]
  simp
end Go.Proofs.YtnamioihapnefaaGreatDoor.Hu
