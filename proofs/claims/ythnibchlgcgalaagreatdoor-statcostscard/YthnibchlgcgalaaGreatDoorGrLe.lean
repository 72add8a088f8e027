/-
  Several texts in one: Le, Lf, Lg.
-/
import Derived.Test.YthnibchlgcgalaaGreatDoorLa
import Derived.Test.YthnibchlgcgalaaGreatDoorGrPl
import Derived.Test.YthnibchlgcgalaaGreatDoorGrKt
import Derived.Test.YthnibchlgcgalaaGreatDoorGrKf
/-
  Build, plain: built hunks may be, and may stand one behind the other; they tell the script.
-/
namespace Go.Proofs.YthnibchlgcgalaaGreatDoor.Hu
open Go
open Ed (Ch Pr okC val apart)

/-! ### lines of a text by what is whole -/
theorem valS_iff : ∀ {l : List ByteArray}, valS l = true ↔ (∀ x ∈ l, okT x = true) ∧ ∀ k, k + 1 < l.length → whT (l.getD k .empty) = true
  | [] => by simp [valS_nil]
  | x :: r => by
    rw [valS_cons, Bool.and_eq_true, Bool.and_eq_true, valS_iff (l := r)]
    constructor
    · rintro ⟨⟨h1, h2⟩, h3, h4⟩
      refine ⟨fun y hy => ?_, fun k hk => ?_⟩
      · rcases List.mem_cons.1 hy with rfl | hy
        · exact h1
        · exact h3 y hy
      · cases k with
        | zero =>
          have hr : r.isEmpty = false := by
            cases r with
            | nil => simp at hk
            | cons _ _ => rfl
          rw [hr] at h2
          simpa using h2
        | succ k => exact h4 k (by simpa using hk)
    · rintro ⟨h1, h2⟩
      refine ⟨⟨h1 x (by simp), ?_⟩, fun y hy => h1 y (by simp [hy]), fun k hk => ?_⟩
      · cases r with
        | nil => rfl
        | cons y r =>
          have := h2 0 (by simp)
          simpa using this
      · have := h2 (k + 1) (by simpa using hk)
        simpa using this
theorem sl_getD {l : List ByteArray} {x y : Int} {k : Nat} (hk : (k : Int) < y - x) : (sl l x y).getD k .empty = l.getD (x.toNat + k) .empty := by
  unfold sl
  rw [List.getD_eq_getElem?_getD, List.getD_eq_getElem?_getD, List.getElem?_take, if_pos (by omega), List.getElem?_drop]
theorem valS_sl {l : List ByteArray} {x y : Int} (h : valS l = true) (h0 : 0 ≤ x) (h1 : x ≤ y) (h2 : y ≤ l.length) : valS (sl l x y) = true := by
  obtain ⟨p1, p2⟩ := valS_iff.1 h
  have e := sl_len (l := l) h0 h1 h2
  refine valS_iff.2 ⟨fun z hz => p1 z (sl_mem hz), fun k hk => ?_⟩
  rw [sl_getD (by omega)]
  exact p2 _ (by omega)
theorem lack_sl {l : List ByteArray} {x y : Int} (h : valS l = true) (h0 : 0 ≤ x) (h1 : x ≤ y) (h2 : y < l.length) : lack (sl l x y) = false := by
  have e := sl_len (l := l) h0 h1 (by omega)
  unfold lack
  cases hg : (sl l x y).getLast? with
  | none => rfl
  | some z =>
    have hz : (sl l x y).getD ((sl l x y).length - 1) .empty = z := by
      rw [List.getD_eq_getElem?_getD, ← List.getLast?_eq_getElem?, hg]
      rfl
    have hne : (sl l x y).length ≠ 0 := by
      intro e0
      rw [List.length_eq_zero_iff.1 e0] at hg
      cases hg
    rw [sl_getD (by omega)] at hz
    have := (valS_iff.1 h).2 (x.toNat + ((sl l x y).length - 1)) (by omega)
    rw [hz] at this
    show (!whT z) = false
    rw [this]
    rfl
/-- lines that are whole just where others are -/
structure Like (u v : List ByteArray) : Prop where
  len : u.length = v.length
  ok : ∀ x ∈ u, okT x = true
  wh : ∀ k, whT (u.getD k .empty) = whT (v.getD k .empty)
theorem getD_app {u v : List ByteArray} {k : Nat} : (u ++ v).getD k .empty = if k < u.length then u.getD k .empty else v.getD (k - u.length) .empty := by
  rw [List.getD_eq_getElem?_getD, List.getD_eq_getElem?_getD, List.getD_eq_getElem?_getD]
  split
  · next h => rw [List.getElem?_append_left h]
  · next h => rw [List.getElem?_append_right (by omega)]
theorem Like.app {u v u' v' : List ByteArray} (h : Like u v) (h' : Like u' v') : Like (u ++ u') (v ++ v') := by
  refine ⟨by rw [List.length_append, List.length_append, h.len, h'.len], fun x hx => ?_, fun k => ?_⟩
  · rcases List.mem_append.1 hx with hx | hx
    · exact h.ok x hx
    · exact h'.ok x hx
  · rw [getD_app, getD_app, h.len]
    split
    · exact h.wh k
    · exact h'.wh _
theorem Like.refl {u : List ByteArray} (h : ∀ x ∈ u, okT x = true) : Like u u := ⟨rfl, h, fun _ => rfl⟩
theorem Like.val {u v : List ByteArray} (h : Like u v) (hv : valS v = true) : valS u = true :=
  valS_iff.2 ⟨h.ok, fun k hk => by rw [h.wh]; exact (valS_iff.1 hv).2 k (by rw [← h.len]; exact hk)⟩
theorem Like.lack {u v : List ByteArray} (h : Like u v) : Hu.lack u = Hu.lack v := by
  have key : ∀ l : List ByteArray, Hu.lack l = if l.length = 0 then false else !whT (l.getD (l.length - 1) .empty) := by
    intro l
    unfold Hu.lack
    rw [List.getLast?_eq_getElem?, List.getD_eq_getElem?_getD]
    cases l with
    | nil => rfl
    | cons x r =>
      rw [if_neg (by simp)]
      cases hq : (x :: r)[(x :: r).length - 1]? with
      | none => exact absurd (List.getElem?_eq_none_iff.1 hq) (by simp)
      | some z => rfl
  rw [key, key, h.len, h.wh]

/-! ### the lines that stay in a hunk stay by the script -/
theorem prs_sub : ∀ (g r : List Ch) (x y P P' q n : Int), x ≤ P → P - x = P' - y → (∀ d, r.head? = some d → q ≤ d.a) → (r = [] → q ≤ n) → ∀ pr ∈ Ed.prs g q P P', pr ∈ Ed.prs (g ++ r) n x y
  | [], r, x, y, P, P', q, n, h1, h2, h3, h4, pr, hp => by
    rw [Ed.prs_nil, Ed.mem_exN] at hp
    rw [List.nil_append]
    cases r with
    | nil =>
      have := h4 rfl
      rw [Ed.prs_nil, Ed.mem_exN]
      omega
    | cons c r =>
      have := h3 c rfl
      rw [Ed.prs_cons, List.mem_append, Ed.mem_exN]
      left
      omega
  | c :: g, r, x, y, P, P', q, n, h1, h2, h3, h4, pr, hp => by
    rw [List.cons_append, Ed.prs_cons, List.mem_append]
    rw [Ed.prs_cons, List.mem_append] at hp
    rcases hp with hp | hp
    · left
      rw [Ed.mem_exN] at hp ⊢
      omega
    · right
      exact prs_sub g r _ _ _ _ q n (Int.le_refl _) (by omega) h3 h4 pr hp
theorem like_nil {a b : List ByteArray} (ha : ∀ x ∈ a, okT x = true) {p p' q : Int} (hp : 0 ≤ p) (hp' : 0 ≤ p') (he' : p ≤ q) (hq : q ≤ a.length) (hbl' : p' + (q - p) ≤ b.length) (hE : ∀ pr ∈ Ed.prs [] q p p', eqW a b pr = true) : Like (sl a p q) (sl b p' (p' + (q - p))) := by
  have e1 := sl_len (l := a) hp he' hq
  have e2 := sl_len (l := b) (x := p') (y := p' + (q - p)) hp' (by omega) hbl'
  refine ⟨by omega, fun x hx => ha x (sl_mem hx), fun k => ?_⟩
  by_cases hk : (k : Int) < q - p
  · rw [sl_getD hk, sl_getD (by omega)]
    have := hE (p + k, p' + k) (by rw [Ed.prs_nil, Ed.mem_exN]; simp only; omega)
    unfold eqW at this
    simp only [beq_iff_eq] at this
    rw [show (p + (k : Int)).toNat = p.toNat + k by omega, show (p' + (k : Int)).toNat = p'.toNat + k by omega] at this
    exact this
  · rw [List.getD_eq_getElem?_getD, List.getD_eq_getElem?_getD, List.getElem?_eq_none (by omega), List.getElem?_eq_none (by omega)]
/-- the new lines of a group's rows are whole just where those of the new text are -/
theorem like_rowsG {a b : List ByteArray} (ha : ∀ x ∈ a, okT x = true) (hb : ∀ x ∈ b, okT x = true) : ∀ (g : List Ch) (p p' q n m : Int), inc g p p' n m → 0 ≤ p → 0 ≤ p' → endA p g ≤ q → q ≤ a.length → n ≤ a.length → m ≤ b.length → endB p' g + (q - endA p g) ≤ b.length → (∀ pr ∈ Ed.prs g q p p', eqW a b pr = true) →
    Like (fres (rowsG a b p g q)) (sl b p' (endB p' g + (q - endA p g)))
  | [], p, p', q, n, m, hi, hp, hp', he, hq, hn, hm, hbl, hE => by
    rw [rowsG, fres_mk1]
    exact like_nil ha hp hp' he hq hbl hE
  | c :: r, p, p', q, n, m, hi, hp, hp', he, hq, hn, hm, hbl, hE => by
    obtain ⟨⟨⟨p1, p2, p3⟩, ⟨p4, p5, p6⟩, p7, p8⟩, hr⟩ := hi
    have hq' : endA (c.a + c.n) r ≤ q := he
    have hge := endA_ge hr
    have hbl' : endB (c.b + c.m) r + (q - endA (c.a + c.n) r) ≤ b.length := hbl
    have ih := like_rowsG ha hb r (c.a + c.n) (c.b + c.m) q n m hr (by omega) (by omega) hq' hq hn hm hbl' (fun pr h => hE pr (by rw [Ed.prs_cons]; exact List.mem_append_right _ h))
    have h0 := like_nil (b := b) ha hp hp' p1 (by omega) (by omega) (fun pr h => hE pr (by rw [Ed.prs_cons]; rw [Ed.prs_nil] at h; exact List.mem_append_left _ h))
    have e0 : p' + (c.a - p) = c.b := by omega
    rw [e0] at h0
    show Like (fres (mk 1 (sl a p c.a) ++ (mk 2 (sl a c.a (c.a + c.n)) ++ (mk 3 (sl b c.b (c.b + c.m)) ++ rowsG a b (c.a + c.n) r q)))) (sl b p' (endB (c.b + c.m) r + (q - endA (c.a + c.n) r)))
    rw [fres_app, fres_app, fres_app, fres_mk1, fres_mk2, fres_mk3, List.nil_append, ← sl_app (l := b) (x := p') (y := c.b) (z := endB (c.b + c.m) r + (q - endA (c.a + c.n) r)) hp' (by omega) (by omega), ← sl_app (l := b) (x := c.b) (y := c.b + c.m) (z := endB (c.b + c.m) r + (q - endA (c.a + c.n) r)) (by omega) (by omega) (by omega)]
    exact h0.app ((Like.refl (fun x hx => hb x (sl_mem hx))).app ih)

/-! ### built hunks may be -/
theorem endB_eq : ∀ (g : List Ch) (p p' n m : Int), inc g p p' n m → endB p' g - endA p g = p' - p + Ed.comeS g - Ed.goneS g
  | [], p, p', n, m, _ => by show p' - p = _; simp [Ed.comeS, Ed.goneS]
  | c :: r, p, p', n, m, hi => by
    obtain ⟨⟨_, _, _, p8⟩, hr⟩ := hi
    have ih := endB_eq r (c.a + c.n) (c.b + c.m) n m hr
    show endB (c.b + c.m) r - endA (c.a + c.n) r = _
    rw [ih]
    simp only [Ed.goneS, Ed.comeS, List.map_cons, List.sum_cons]
    omega
theorem any_rowsG {a b : List ByteArray} {c : Ch} {r : List Ch} {p p' q n m : Int} (hi : inc (c :: r) p p' n m) (hp : 0 ≤ p) (hp' : 0 ≤ p') (hn : n ≤ a.length) (hm : m ≤ b.length) : (rowsG a b p (c :: r) q).any isC = true := by
  obtain ⟨⟨⟨p1, p2, p3⟩, ⟨p4, p5, p6⟩, p7, p8⟩, hr⟩ := hi
  have e2 := sl_len (l := a) (x := c.a) (y := c.a + c.n) (by omega) (by omega) (by omega)
  have e3 := sl_len (l := b) (x := c.b) (y := c.b + c.m) (by omega) (by omega) (by omega)
  rw [rowsG, List.any_append, List.any_append, List.any_append]
  have : (mk 2 (sl a c.a (c.a + c.n))).any isC = true ∨ (mk 3 (sl b c.b (c.b + c.m))).any isC = true := by
    cases h2 : sl a c.a (c.a + c.n) with
    | cons z zs => left; rfl
    | nil =>
      cases h3 : sl b c.b (c.b + c.m) with
      | cons z zs => right; rfl
      | nil => rw [h2] at e2; rw [h3] at e3; simp at e2 e3; omega
  rcases this with h | h <;> rw [h] <;> simp
/-- what is known of a group's hunk -/
structure OfG (ctx : Int) (a b : List ByteArray) (g : List Ch) (Y : Int) : Prop where
  vld : vld (ofG ctx a b g) = true
  pa : plc (ofG ctx a b g).a (ofG ctx a b g).n = fromG ctx g
  pb : plc (ofG ctx a b g).b (ofG ctx a b g).m = fromH ctx g
  n : fromG ctx g + (ofG ctx a b g).n = toG ctx a.length g
  m : fromH ctx g + (ofG ctx a b g).m = Y
  olds : olds (ofG ctx a b g).rows = sl a (fromG ctx g) (toG ctx a.length g)
  like : Like (fres (ofG ctx a b g).rows) (sl b (fromH ctx g) Y)
theorem ofG_ok {ctx : Int} {a b : List ByteArray} {g : List Ch} (hva : valS a = true) (hvb : valS b = true) (hne : g ≠ []) (hi : inc g (fromG ctx g) (fromH ctx g) a.length b.length) (h0 : 0 ≤ fromG ctx g) (h1 : 0 ≤ fromH ctx g) (hc0 : 0 ≤ ctx) (hla : a.length ≤ 4194304) (hlb : b.length ≤ 4194304)
    (hY : endB (fromH ctx g) g + (toG ctx a.length g - endA (fromG ctx g) g) ≤ b.length) (hE : ∀ pr ∈ Ed.prs g (toG ctx a.length g) (fromG ctx g) (fromH ctx g), eqW a b pr = true) :
    OfG ctx a b g (endB (fromH ctx g) g + (toG ctx a.length g - endA (fromG ctx g) g)) := by
  obtain ⟨q1, q2, q3, q4, q5, q6, q7⟩ := ofG_facts hne hi h0 h1 hc0 hla hlb
  obtain ⟨y1, y2⟩ := valS_iff.1 hva
  obtain ⟨x1, x2⟩ := valS_iff.1 hvb
  have hlk := like_rowsG y1 x1 g (fromG ctx g) (fromH ctx g) (toG ctx a.length g) a.length b.length hi h0 h1 q1 q2 (Int.le_refl _) (Int.le_refl _) hY hE
  have ho := olds_rowsG (a := a) (b := b) hi h0 q1
  have hge := endA_ge hi
  have el := sl_len (l := a) h0 q3 q2
  have ef := sl_len (l := b) (x := fromH ctx g) (y := endB (fromH ctx g) g + (toG ctx a.length g - endA (fromG ctx g) g)) h1 (by omega) hY
  have hfl := hlk.len
  have hrows : (ofG ctx a b g).rows = rowsG a b (fromG ctx g) g (toG ctx a.length g) := rfl
  have hn : (ofG ctx a b g).n = ((olds (rowsG a b (fromG ctx g) g (toG ctx a.length g))).length : Int) := rfl
  have hm : (ofG ctx a b g).m = ((fres (rowsG a b (fromG ctx g) g (toG ctx a.length g))).length : Int) := rfl
  have ha2 : (ofG ctx a b g).a = told (fromG ctx g) (olds (rowsG a b (fromG ctx g) g (toG ctx a.length g))).length := rfl
  have hb2 : (ofG ctx a b g).b = told (fromH ctx g) (fres (rowsG a b (fromG ctx g) g (toG ctx a.length g))).length := rfl
  refine ⟨?_, plc_told _ _, plc_told _ _, by rw [hn, ho]; omega, by rw [hm, hfl]; omega, by rw [hrows, ho], by rw [hrows]; exact hlk⟩
  unfold vld side areR
  rw [hrows, hn, hm, ha2, hb2]
  have c1 : (rowsG a b (fromG ctx g) g (toG ctx a.length g)).all (fun r => r.k == 1 || isC r) = true := by
    rw [List.all_eq_true]
    intro r hr
    rcases Kd_rowsG' a b g _ _ r hr with h | h | h <;> rw [h] <;> simp [isC, h]
  have c2 : (rowsG a b (fromG ctx g) g (toG ctx a.length g)).any isC = true := by
    cases g with
    | nil => exact absurd rfl hne
    | cons c r => exact any_rowsG hi h0 h1 (Int.le_refl _) (Int.le_refl _)
  have c3 : valS (olds (rowsG a b (fromG ctx g) g (toG ctx a.length g))) = true := by rw [ho]; exact valS_sl hva h0 q3 q2
  have c4 : valS (fres (rowsG a b (fromG ctx g) g (toG ctx a.length g))) = true := hlk.val (valS_sl hvb h1 (by omega) hY)
  have c5 : headOk (ofG ctx a b g).head = true := by show headOk .empty = true; decide
  rw [c1, c2, c3, c4, c5]
  have t1 : ∀ (P : Int) (k : Nat), 0 ≤ P → P ≤ 8388608 → k ≤ 8388608 → decide (min (k : Int) 1 ≤ told P k) = true ∧ decide (told P k ≤ 2147483647 - (k : Int)) = true := by
    intro P k h1 h2 h3
    unfold told
    split <;> refine ⟨decide_eq_true ?_, decide_eq_true ?_⟩ <;> omega
  obtain ⟨r1, r2⟩ := t1 (fromG ctx g) (olds (rowsG a b (fromG ctx g) g (toG ctx a.length g))).length h0 (by omega) (by rw [ho]; omega)
  obtain ⟨r3, r4⟩ := t1 (fromH ctx g) (fres (rowsG a b (fromG ctx g) g (toG ctx a.length g))).length h1 (by omega) (by rw [hfl]; omega)
  rw [r1, r2, r3, r4]
  simp
end Go.Proofs.YthnibchlgcgalaaGreatDoor.Hu
/-
  Build, plain: all built hunks, one behind the other.
-/
namespace Go.Proofs.YthnibchlgcgalaaGreatDoor.Hu
open Go
open Ed (Ch Pr okC val apart)

theorem Ahead.next {ctx : Int} {t : List Ch} {x y n m : Int} (h : Ahead ctx t x y n m) (hne : t ≠ []) : Ahead ctx (t.drop (glen ctx t)) (endA x (t.take (glen ctx t))) (endB y (t.take (glen ctx t))) n m := by
  have hp := glen_pos ctx t hne
  have hl := glen_le ctx t
  cases t with
  | nil => exact absurd rfl hne
  | cons c r =>
    obtain ⟨k, hk⟩ : ∃ k, glen ctx (c :: r) = k + 1 := ⟨glen ctx (c :: r) - 1, by omega⟩
    have e1 : (c :: r).take (glen ctx (c :: r)) = c :: r.take k := by rw [hk]; rfl
    have e2 : (c :: r).drop (glen ctx (c :: r)) = r.drop k := by rw [hk]; rfl
    have hsplit : c :: r = (c :: r.take k) ++ r.drop k := by rw [List.cons_append, List.take_append_drop]
    have hi := h.inc
    rw [hsplit] at hi
    obtain ⟨hi1, hi2⟩ := inc_app.1 hi
    obtain ⟨⟨⟨p1, p2, p3⟩, ⟨p4, p5, p6⟩, p7, p8⟩, hr⟩ := hi1
    have hx := h.x0
    have hy := h.y0
    rw [e1, e2]
    refine ⟨hi2, ?_, ?_, .inr ?_⟩
    · have := (endA_ge hr).1
      show 0 ≤ endA (c.a + c.n) (r.take k)
      omega
    · have := (endA_ge hr).2.2.1
      show 0 ≤ endB (c.b + c.m) (r.take k)
      omega
    · intro d hd
      have hd2 : (c :: r)[glen ctx (c :: r)]? = some d := by
        rw [hk, List.getElem?_cons_succ]
        rw [List.head?_drop] at hd
        exact hd
      obtain ⟨l, hlst⟩ : ∃ l, (c :: r)[glen ctx (c :: r) - 1]? = some l := ⟨_, List.getElem?_eq_getElem (by omega)⟩
      have hg := glen_gap hlst hd2
      have e3 : endA x (c :: r.take k) = l.a + l.n := by
        rw [endA_last (by simp)]
        have : (c :: r.take k).getLastD zC = l := by
          rw [List.getLastD_eq_getLast?, List.getLast?_eq_getElem?, ← e1, List.length_take, List.getElem?_take]
          rw [show min (glen ctx (c :: r)) (c :: r).length - 1 = glen ctx (c :: r) - 1 by omega, if_pos (by omega), hlst]
          rfl
        rw [this]
      rw [e3]
      omega
theorem val_drop : ∀ (g r : List Ch) (x y n m : Int), val (g ++ r) x y n m = true → val r (endA x g) (endB y g) n m = true
  | [], r, x, y, n, m, h => h
  | c :: g, r, x, y, n, m, h => by
    obtain ⟨_, h2⟩ := Ed.val_cons.1 h
    exact val_drop g r (c.a + c.n) (c.b + c.m) n m h2
theorem prs_drop : ∀ (g r : List Ch) (x y n : Int), ∀ pr ∈ Ed.prs r n (endA x g) (endB y g), pr ∈ Ed.prs (g ++ r) n x y
  | [], r, x, y, n, pr, h => h
  | c :: g, r, x, y, n, pr, h => by
    rw [List.cons_append, Ed.prs_cons]
    exact List.mem_append_right _ (prs_drop g r (c.a + c.n) (c.b + c.m) n pr h)
theorem endA_any {g : List Ch} (hne : g ≠ []) (x x' : Int) : endA x g = endA x' g := by
  cases g with
  | nil => exact absurd rfl hne
  | cons c r => rfl
theorem endB_any {g : List Ch} (hne : g ≠ []) (x x' : Int) : endB x g = endB x' g := by
  cases g with
  | nil => exact absurd rfl hne
  | cons c r => rfl
theorem from_take {ctx : Int} {t : List Ch} {c : Ch} {k : Nat} (hc : t.head? = some c) (hk : 1 ≤ k) : fromG ctx (t.take k) = c.a - min ctx c.a ∧ fromH ctx (t.take k) = c.b - min ctx c.a := by
  cases t with
  | nil => simp at hc
  | cons d r =>
    simp at hc
    subst hc
    obtain ⟨j, rfl⟩ : ∃ j, k = j + 1 := ⟨k - 1, by omega⟩
    exact ⟨rfl, rfl⟩
/-- what the laws ask of each built hunk -/
structure Bh (ctx : Int) (a : List ByteArray) (h : Hk) : Prop where
  kd : ∀ r ∈ h.rows, r.k = 1 ∨ r.k = 2 ∨ r.k = 3
  n : h.n = (olds h.rows).length
  p0 : 0 ≤ plc h.a h.n
  p1 : plc h.a h.n + h.n ≤ a.length
  sides : olds h.rows = sl a (plc h.a h.n) (plc h.a h.n + h.n)
  none_ : ctx = 0 → ∀ r ∈ h.rows, r.k ≠ 1
theorem glen_zero {t : List Ch} {x y n m : Int} (hi : inc t x y n m) (ha : apart t) (hne : t ≠ []) : glen 0 t = 1 := by
  cases t with
  | nil => exact absurd rfl hne
  | cons c r =>
    cases r with
    | nil => rfl
    | cons d r =>
      obtain ⟨_, ⟨⟨p1, _, _⟩, _⟩, _⟩ := hi
      have := ha.1 d rfl
      rw [glen, if_neg (by omega)]
theorem rows_zero {a b : List ByteArray} {c : Ch} {p q : Int} (h1 : p = c.a) (h2 : q = c.a + c.n) : ∀ r ∈ rowsG a b p [c] q, r.k ≠ 1 := by
  subst h1 h2
  intro r hr
  rw [rowsG, rowsG, sl_none, sl_none] at hr
  simp only [mk, List.map_nil, List.nil_append, List.append_nil, List.mem_append, List.mem_map] at hr
  rcases hr with ⟨x, _, rfl⟩ | ⟨x, _, rfl⟩ <;> simp
theorem bld_all {ctx : Int} {a b : List ByteArray} (hva : valS a = true) (hvb : valS b = true) (hc0 : 0 ≤ ctx) (hla : a.length ≤ 4194304) (hlb : b.length ≤ 4194304) : ∀ (N : Nat) (t : List Ch) (x y X Y : Int), t.length ≤ N → val t x y a.length b.length = true → apart t → Ahead ctx t x y a.length b.length → (∀ pr ∈ Ed.prs t a.length x y, eqW a b pr = true) → (∀ c, t.head? = some c → X ≤ c.a - min ctx c.a) → X - Y = x - y →
    ordP (bld ctx a b t) X Y false false = true ∧ (bld ctx a b t).all vld = true ∧ scr (bld ctx a b t) = t ∧ (∀ h ∈ bld ctx a b t, Bh ctx a h) ∧ (2 ≤ (bld ctx a b t).length → ctx < a.length)
  | 0, t, x, y, X, Y, hN, _, _, _, _, _, _ => by
    have e : t = [] := List.length_eq_zero_iff.1 (by omega)
    subst e
    simp [bld, grp, ordP, scr]
  | N + 1, t, x, y, X, Y, hN, hv, hap, hA, hE, hX, hXY => by
    by_cases hne : t = []
    · subst hne; simp [bld, grp, ordP, scr]
    · obtain ⟨g1, g2, g3, g4, _⟩ := hA.group hne hc0
      have hnx := hA.next hne
      have hp := glen_pos ctx t hne
      have hl := glen_le ctx t
      have hlen : (t.drop (glen ctx t)).length = t.length - glen ctx t := List.length_drop
      obtain ⟨c, hc⟩ : ∃ c, t.head? = some c := by
        cases t with
        | nil => exact absurd rfl hne
        | cons c r => exact ⟨c, rfl⟩
      obtain ⟨f1, f2⟩ := from_take (ctx := ctx) (k := glen ctx t) hc hp
      have hsp : t.take (glen ctx t) ++ t.drop (glen ctx t) = t := List.take_append_drop _ _
      have hapg := apart_take hap (glen ctx t)
      have hapd := apart_drop hap (glen ctx t)
      have hz : ctx = 0 → ∀ r ∈ (ofG ctx a b (t.take (glen ctx t))).rows, r.k ≠ 1 := by
        intro h0
        subst h0
        have hi := hA.inc
        rw [glen_zero hi hap hne]
        cases t with
        | nil => exact absurd rfl hne
        | cons d r =>
          obtain ⟨⟨⟨p1, p2, p3⟩, ⟨p4, p5, p6⟩, p7, p8⟩, _⟩ := hi
          have := hA.x0
          refine rows_zero ?_ ?_
          · show d.a - min 0 d.a = d.a; omega
          · show min (d.a + d.n + 0) (a.length : Int) = d.a + d.n; omega
      have hbs := bld_step (ctx := ctx) (a := a) (b := b) hne
      have hv2 := val_drop (t.take (glen ctx t)) (t.drop (glen ctx t)) x y a.length b.length (by rw [hsp]; exact hv)
      have hE2 : ∀ pr ∈ Ed.prs (t.drop (glen ctx t)) a.length (endA x (t.take (glen ctx t))) (endB y (t.take (glen ctx t))), eqW a b pr = true := fun pr h => hE pr (by have := prs_drop (t.take (glen ctx t)) (t.drop (glen ctx t)) x y a.length pr h; rwa [hsp] at this)
      have hdg : c.a - x = c.b - y := by
        have hi := hA.inc
        cases t with
        | nil => exact absurd rfl hne
        | cons d r => simp at hc; subst hc; exact hi.1.2.2.2
      have hxP : x ≤ c.a - min ctx c.a := by
        have hx := hA.x0
        have hca : x ≤ c.a := by
          have hi := hA.inc
          cases t with
          | nil => exact absurd rfl hne
          | cons d r => simp at hc; subst hc; exact hi.1.1.1
        rcases hA.gap with ⟨k1, k2⟩ | k
        · omega
        · have := k c hc
          omega
      obtain ⟨q1, q2, q3, q4, q5, q6, q7⟩ := ofG_facts g1 g2 g3 g4 hc0 hla hlb
      have hge := endA_ge g2
      have eA := endA_any g1 (fromG ctx (t.take (glen ctx t))) x
      have eB := endB_any g1 (fromH ctx (t.take (glen ctx t))) y
      have hgap := hnx.gap
      have hto : toG ctx a.length (t.take (glen ctx t)) ≤ endA x (t.take (glen ctx t)) + ctx := by
        rw [endA_last g1]
        unfold toG
        omega
      have hd : ∀ d, (t.drop (glen ctx t)).head? = some d → toG ctx a.length (t.take (glen ctx t)) < d.a - min ctx d.a ∧ d.a ≤ a.length ∧ d.b ≤ b.length ∧ d.a - endA x (t.take (glen ctx t)) = d.b - endB y (t.take (glen ctx t)) ∧ 2 * ctx < d.a := by
        intro d hd
        have hgp : 2 * ctx < d.a - endA x (t.take (glen ctx t)) := by
          have hk := hnx.gap
          have hx0 := hA.x0
          rcases hk with ⟨k1, k2⟩ | k
          · -- the end of a group is behind its first change
            have hcn := hA.inc
            obtain ⟨j, hj⟩ : ∃ j, glen ctx t = j + 1 := ⟨glen ctx t - 1, by omega⟩
            obtain ⟨l, hl2⟩ : ∃ l, t[glen ctx t - 1]? = some l := ⟨_, List.getElem?_eq_getElem (by omega)⟩
            have hd2 : t[glen ctx t]? = some d := by rw [List.head?_drop] at hd; exact hd
            have := glen_gap hl2 hd2
            have e3 : endA x (t.take (glen ctx t)) = l.a + l.n := by
              rw [endA_last g1]
              have : (t.take (glen ctx t)).getLastD zC = l := by
                rw [List.getLastD_eq_getLast?, List.getLast?_eq_getElem?, List.length_take, List.getElem?_take, show min (glen ctx t) t.length - 1 = glen ctx t - 1 by omega, if_pos (by omega), hl2]
                rfl
              rw [this]
            omega
          · exact k d hd
        have hi := hnx.inc
        have hx2 := hnx.x0
        cases hr : t.drop (glen ctx t) with
        | nil => rw [hr] at hd; cases hd
        | cons e r =>
          rw [hr] at hd hi
          simp at hd
          subst hd
          obtain ⟨⟨⟨p1, p2, p3⟩, ⟨p4, p5, p6⟩, p7, p8⟩, _⟩ := hi
          omega
      have hY : endB (fromH ctx (t.take (glen ctx t))) (t.take (glen ctx t)) + (toG ctx a.length (t.take (glen ctx t)) - endA (fromG ctx (t.take (glen ctx t))) (t.take (glen ctx t))) ≤ b.length := by
        rw [eA, eB]
        cases hr : (t.drop (glen ctx t)).head? with
        | some d => have := hd d hr; omega
        | none =>
          have e : t.drop (glen ctx t) = [] := List.head?_eq_none_iff.1 hr
          rw [e] at hv2
          have : (a.length : Int) - endA x (t.take (glen ctx t)) = b.length - endB y (t.take (glen ctx t)) := by simpa [val] using hv2
          omega
      have hO := ofG_ok hva hvb g1 g2 g3 g4 hc0 hla hlb hY (fun pr h => hE pr (by
        have := prs_sub (t.take (glen ctx t)) (t.drop (glen ctx t)) x y (fromG ctx (t.take (glen ctx t))) (fromH ctx (t.take (glen ctx t))) (toG ctx a.length (t.take (glen ctx t))) a.length (by rw [f1]; exact hxP) (by rw [f1, f2]; omega) (fun d h => by have := hd d h; omega) (fun _ => q2) pr h
        rwa [hsp] at this))
      rw [eA, eB] at hO
      have ih := bld_all hva hvb hc0 hla hlb N (t.drop (glen ctx t)) (endA x (t.take (glen ctx t))) (endB y (t.take (glen ctx t))) (toG ctx a.length (t.take (glen ctx t))) (endB y (t.take (glen ctx t)) + (toG ctx a.length (t.take (glen ctx t)) - endA x (t.take (glen ctx t)))) (by omega) hv2 hapd hnx hE2 (fun d h => by have := hd d h; omega) (by omega)
      obtain ⟨i1, i2, i3, i4, i5⟩ := ih
      have hsc := scrH_ofG (ctx := ctx) (a := a) (b := b) g2 hapg g3 g4 q1 q2 (Int.le_refl _) (Int.le_refl _)
      have hXc := hX c hc
      rw [hbs]
      refine ⟨?_, ?_, ?_, ?_, ?_⟩
      · rw [ordP, if_neg (by
          rw [hO.pa, hO.pb, f1, f2]
          rintro (h | h | ⟨h, _⟩ | ⟨h, _⟩)
          · omega
          · exact h (by omega)
          · cases h
          · cases h), hO.pa, hO.pb, hO.n, hO.m, hO.olds, hO.like.lack]
        cases hr : (t.drop (glen ctx t)).head? with
        | none =>
          rw [List.head?_eq_none_iff.1 hr]
          simp [bld, grp, ordP]
        | some d =>
          have := hd d hr
          rw [lack_sl hva g3 q3 (by omega), lack_sl hvb g4 (by omega) (by omega)]
          exact i1
      · rw [List.all_cons, hO.vld, i2]
        rfl
      · show scrH _ ++ scr _ = t
        rw [hsc, i3, hsp]
      · intro h hh
        rcases List.mem_cons.1 hh with rfl | hh
        · have hn := hO.n
          refine ⟨fun r hr => Kd_rowsG' a b _ _ _ r hr, rfl, by rw [hO.pa]; exact g3, by rw [hO.pa]; omega, by rw [hO.pa, hO.olds, hn], hz⟩
        · exact i4 h hh
      · intro h2
        cases hr : (t.drop (glen ctx t)).head? with
        | none =>
          rw [List.head?_eq_none_iff.1 hr] at h2
          simp [bld, grp] at h2
        | some d =>
          have := hd d hr
          omega
end Go.Proofs.YthnibchlgcgalaaGreatDoor.Hu
/-
  The law's at, where the lines stand there.
-/
namespace Go.Proofs.YthnibchlgcgalaaGreatDoor
open Go.RowKit
open Hu (Rw Hk)
open Ed (Ch)

theorem own_arg {w : World} {B n size : Nat} {e : TypeId} {v : Value} {xs : List Value} (h : w.ownsRow B e size v n xs) : ArgS v := by
  rcases h.2 with ⟨hv, _⟩ | ⟨g, cap, cur, hv, _⟩
  · subst hv; exact .inl rfl
  · subst hv; exact .inr ⟨_, _, _, rfl⟩
theorem ownH_arg {w : World} {B : Nat} {v : Value} {l : List Hk} (h : OwnH w B v l) : ArgH w v l.length := by
  intro b o m c e k hk u hu
  obtain ⟨p, h1, h2, h3⟩ := h
  have hpl : p.length = l.length := by rw [← h1, List.length_map]
  obtain ⟨q, hq⟩ : ∃ q, p[k]? = some q := ⟨_, List.getElem?_eq_getElem (by omega)⟩
  rcases own_rd h2 with ⟨hn, _⟩ | ⟨b', o', c', hv, _, hb, hX⟩
  · omega
  · rw [e] at hv
    cases hv
    have := hX (k * 6 + 5) _ (hksC_get hq 5 (by omega))
    rw [← Nat.add_assoc] at this
    rw [this] at hu
    cases hu
    exact own_arg (h3 q (List.mem_of_getElem? hq))
/-- what is known of what Build answers -/
structure ArI (a b : List ByteArray) (ctx : Int) (J : List Hk) (t : List Ch) : Prop where
  ord : Hu.orderN J = 0
  scr : Hu.scr J = t
  val : Ed.validN t a.length b.length = 0
  nrm : Ed.normal t a.length b.length = t
  len : t.length ≤ 8388608
  each : ∀ h ∈ J, Hu.Bh ctx a h
  two : J.length < 2 ∨ ctx < a.length
theorem bldN_zero {s : List Ch} {a b : List ByteArray} {ctx : Int} (h : bldN s a b ctx = 0) : (0 ≤ ctx ∧ ctx ≤ 2147483647) ∧ Hu.valS a = true ∧ Hu.valS b = true ∧ Ed.validN s a.length b.length = 0 ∧ Hu.endsP (Ed.normal s a.length b.length) a b = true := by
  unfold bldN at h
  cases hc : ctxOk ctx with
  | false => rw [hc] at h; simp at h
  | true =>
    rw [hc, if_pos rfl] at h
    cases ha : Hu.valS a with
    | false => rw [ha] at h; simp at h
    | true =>
      cases hb : Hu.valS b with
      | false => rw [ha, hb] at h; simp at h
      | true =>
        rw [ha, hb, if_pos (show (true && true) = true from rfl)] at h
        by_cases hk : Ed.validN s a.length b.length = 0
        · rw [if_pos hk] at h
          cases he : Hu.endsP (Ed.normal s a.length b.length) a b with
          | false => rw [he] at h; simp at h
          | true => exact ⟨by simpa [ctxOk] using hc, rfl, rfl, hk, rfl⟩
        · rw [if_neg hk] at h
          exact absurd h hk
theorem bld_ar {s : List Ch} {a b : List ByteArray} {ctx : Int} (h : bldN s a b ctx = 0) : ArI a b ctx (bldA s a b ctx) (Ed.normal s a.length b.length) := by
  obtain ⟨hc, hva, hvb, hk, he⟩ := bldN_zero h
  have hV0 := Ed.validN_zero.1 hk
  obtain ⟨hV, hpr⟩ := Ed.normal_Val hV0
  have hn := Ed.cnt_iff.1 hV.1
  have hm := Ed.cnt_iff.1 hV.2.1
  have hall := Hu.endsP_all ⟨s, hV0, rfl⟩ hva hvb
  rw [he] at hall
  have hJ : bldA s a b ctx = Hu.bld ctx a b (Ed.normal s a.length b.length) := by unfold bldA; rw [if_pos h]
  obtain ⟨q1, q2, q3, q4, q5⟩ := Hu.bld_all (ctx := ctx) hva hvb hc.1 (by omega) (by omega) _ (Ed.normal s a.length b.length) 0 0 0 0 (Nat.le_refl _) hV.2.2 (normal_apart hV0) (Hu.Ahead.start hV) (fun pr hp => List.all_eq_true.1 hall.symm pr hp) (fun c hc' => by
    have := Hu.inc_in (Hu.inc_val hV.2.2 (by omega) (by omega)) c (by
      cases ht : Ed.normal s a.length b.length with
      | nil => rw [ht] at hc'; cases hc'
      | cons d r => rw [ht] at hc'; simp at hc'; rw [hc']; exact List.mem_cons_self)
    omega) rfl
  rw [hJ]
  refine ⟨?_, q3, Ed.validN_zero.2 hV, Ed.normal_twice hV0, Val_len hV, q4, ?_⟩
  · unfold Hu.orderN
    rw [q2, if_pos rfl, q1, if_pos rfl]
  · rcases Nat.lt_or_ge (Hu.bld ctx a b (Ed.normal s a.length b.length)).length 2 with h2 | h2
    · exact .inl h2
    · exact .inr (q5 h2)
end Go.Proofs.YthnibchlgcgalaaGreatDoor
