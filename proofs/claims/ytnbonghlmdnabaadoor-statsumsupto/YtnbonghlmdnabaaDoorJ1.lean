/-
  Hunks, plain: changes in groups, the hunk of a group, the hunks of a script. No program, no world.
-/
import Derived.Test.YtnbonghlmdnabaaDoorJ0
import Derived.Test.YtnbonghlmdnabaaDoorE0
namespace Go.Proofs.YtnbonghlmdnabaaDoor.Hu
open Go
open Ed (Ch Pr okC val)

/-- a text's lines from one place to another -/
def sl (l : List ByteArray) (x y : Int) : List ByteArray := (l.drop x.toNat).take (y - x).toNat
theorem sl_none (l : List ByteArray) (x : Int) : sl l x x = [] := by unfold sl; rw [Int.sub_self]; rfl
theorem sl_app {l : List ByteArray} {x y z : Int} (h0 : 0 ≤ x) (h1 : x ≤ y) (h2 : y ≤ z) : sl l x y ++ sl l y z = sl l x z := by
  unfold sl
  have e1 : (z - x).toNat = (y - x).toNat + (z - y).toNat := by omega
  have e2 : y.toNat = x.toNat + (y - x).toNat := by omega
  rw [e1, List.take_add, List.drop_drop, e2]
theorem sl_len {l : List ByteArray} {x y : Int} (h0 : 0 ≤ x) (h1 : x ≤ y) (h2 : y ≤ l.length) : ((sl l x y).length : Int) = y - x := by
  unfold sl
  rw [List.length_take, List.length_drop]
  omega
theorem sl_all (l : List ByteArray) : sl l 0 l.length = l := by unfold sl; simp
def mk (k : Int) (l : List ByteArray) : List Rw := l.map (Rw.mk k)
theorem mk_app (k : Int) (l m : List ByteArray) : mk k (l ++ m) = mk k l ++ mk k m := List.map_append
theorem mk_len (k : Int) (l : List ByteArray) : (mk k l).length = l.length := List.length_map _
theorem olds_mk1 (l : List ByteArray) : olds (mk 1 l) = l := by
  induction l with
  | nil => rfl
  | cons x l ih => show olds (⟨1, x⟩ :: mk 1 l) = _; rw [olds_cons, ih]; rfl
theorem fres_mk1 (l : List ByteArray) : fres (mk 1 l) = l := by
  induction l with
  | nil => rfl
  | cons x l ih => show fres (⟨1, x⟩ :: mk 1 l) = _; rw [fres_cons, ih]; rfl
theorem olds_mk2 (l : List ByteArray) : olds (mk 2 l) = l := by
  induction l with
  | nil => rfl
  | cons x l ih => show olds (⟨2, x⟩ :: mk 2 l) = _; rw [olds_cons, ih]; rfl
theorem fres_mk2 (l : List ByteArray) : fres (mk 2 l) = [] := by
  induction l with
  | nil => rfl
  | cons x l ih => show fres (⟨2, x⟩ :: mk 2 l) = _; rw [fres_cons, ih]; rfl
theorem olds_mk3 (l : List ByteArray) : olds (mk 3 l) = [] := by
  induction l with
  | nil => rfl
  | cons x l ih => show olds (⟨3, x⟩ :: mk 3 l) = _; rw [olds_cons, ih]; rfl
theorem fres_mk3 (l : List ByteArray) : fres (mk 3 l) = l := by
  induction l with
  | nil => rfl
  | cons x l ih => show fres (⟨3, x⟩ :: mk 3 l) = _; rw [fres_cons, ih]; rfl

/-! ### the hunk of a group -/
def rowsG (a b : List ByteArray) : Int → List Ch → Int → List Rw
  | p, [], q => mk 1 (sl a p q)
  | p, c :: r, q => mk 1 (sl a p c.a) ++ (mk 2 (sl a c.a (c.a + c.n)) ++ (mk 3 (sl b c.b (c.b + c.m)) ++ rowsG a b (c.a + c.n) r q))
def told (p : Int) (n : Nat) : Int := if 0 < n then p + 1 else p
def hunkAt (p q : Int) (rows : List Rw) : Hk := ⟨told p (olds rows).length, (olds rows).length, told q (fres rows).length, (fres rows).length, .empty, rows⟩
def zC : Ch := ⟨0, 0, 0, 0⟩
def fromG (ctx : Int) (g : List Ch) : Int := (g.headD zC).a - min ctx (g.headD zC).a
def fromH (ctx : Int) (g : List Ch) : Int := (g.headD zC).b - min ctx (g.headD zC).a
def toG (ctx : Int) (N : Int) (g : List Ch) : Int := min ((g.getLastD zC).a + (g.getLastD zC).n + ctx) N
def ofG (ctx : Int) (a b : List ByteArray) (g : List Ch) : Hk := hunkAt (fromG ctx g) (fromH ctx g) (rowsG a b (fromG ctx g) g (toG ctx a.length g))

/-! ### groups -/
def cons1 (ctx : Int) (c : Ch) : Option Ch → List (List Ch) → List (List Ch)
  | some d, g :: gs => if d.a - c.a - c.n ≤ 2 * ctx then (c :: g) :: gs else [c] :: g :: gs
  | _, gs => [c] :: gs
def grp (ctx : Int) : List Ch → List (List Ch)
  | [] => []
  | c :: r => cons1 ctx c r.head? (grp ctx r)
def glen (ctx : Int) : List Ch → Nat
  | [] => 0
  | [_] => 1
  | c :: d :: r => if d.a - c.a - c.n ≤ 2 * ctx then glen ctx (d :: r) + 1 else 1
theorem glen_le (ctx : Int) : ∀ t : List Ch, glen ctx t ≤ t.length
  | [] => Nat.le_refl _
  | [_] => Nat.le_refl _
  | c :: d :: r => by
    rw [glen]
    have := glen_le ctx (d :: r)
    split <;> simp at this ⊢ <;> omega
theorem glen_pos (ctx : Int) : ∀ t : List Ch, t ≠ [] → 1 ≤ glen ctx t
  | [], h => absurd rfl h
  | [_], _ => Nat.le_refl _
  | c :: d :: r, _ => by
    rw [glen]
    split <;> omega
theorem grp_glen (ctx : Int) : ∀ t : List Ch, t ≠ [] → grp ctx t = t.take (glen ctx t) :: grp ctx (t.drop (glen ctx t))
  | [], h => absurd rfl h
  | [c], _ => rfl
  | c :: d :: r, _ => by
    have ih := grp_glen ctx (d :: r) (by simp)
    rw [grp, ih, List.head?_cons, cons1, glen]
    split
    · rw [List.take_succ_cons, List.drop_succ_cons]
    · rw [List.take_succ_cons, List.drop_succ_cons, List.take_zero, List.drop_zero, ← ih]
theorem glen_more (ctx : Int) : ∀ (t : List Ch) (j : Nat) (c d : Ch), 1 ≤ j → j ≤ glen ctx t → t[j - 1]? = some c → t[j]? = some d → d.a - c.a - c.n ≤ 2 * ctx → j + 1 ≤ glen ctx t
  | [], j, c, d, _, _, h, _, _ => by simp at h
  | [x], j, c, d, h1, h2, _, h4, _ => by
    rw [glen] at h2
    obtain rfl : j = 1 := by omega
    simp at h4
  | x :: y :: r, j, c, d, h1, h2, h3, h4, h5 => by
    rw [glen] at h2 ⊢
    rcases Nat.eq_or_lt_of_le h1 with e | e
    · subst e
      simp at h3 h4
      subst h3 h4
      rw [if_pos h5]
      have := glen_pos ctx (y :: r) (by simp)
      omega
    · obtain ⟨i, rfl⟩ : ∃ i, j = i + 1 := ⟨j - 1, by omega⟩
      split at h2
      · next hc =>
        rw [if_pos hc]
        have := glen_more ctx (y :: r) i c d (by omega) (by omega) (by
          obtain ⟨i', rfl⟩ : ∃ i', i = i' + 1 := ⟨i - 1, by omega⟩
          simpa using h3) (by simpa using h4) h5
        omega
      · omega
theorem glen_end (ctx : Int) : ∀ (t : List Ch) (j : Nat), 1 ≤ j → j ≤ glen ctx t → (j = t.length ∨ ∃ c d, t[j - 1]? = some c ∧ t[j]? = some d ∧ ¬ d.a - c.a - c.n ≤ 2 * ctx) → glen ctx t = j
  | [], j, h1, h2, _ => by rw [glen] at h2; omega
  | [x], j, h1, h2, _ => by rw [glen] at h2 ⊢; omega
  | x :: y :: r, j, h1, h2, h3 => by
    rw [glen] at h2 ⊢
    rcases Nat.eq_or_lt_of_le h1 with e | e
    · subst e
      rcases h3 with h3 | ⟨c, d, h3, h4, h5⟩
      · simp at h3
      · simp at h3 h4
        subst h3 h4
        rw [if_neg h5]
    · obtain ⟨i, rfl⟩ : ∃ i, j = i + 1 := ⟨j - 1, by omega⟩
      split at h2
      · next hc =>
        rw [if_pos hc]
        have := glen_end ctx (y :: r) i (by omega) (by omega) (by
          rcases h3 with h3 | ⟨c, d, h3, h4, h5⟩
          · exact .inl (by simp at h3 ⊢; omega)
          · refine .inr ⟨c, d, ?_, by simpa using h4, h5⟩
            obtain ⟨i', rfl⟩ : ∃ i', i = i' + 1 := ⟨i - 1, by omega⟩
            simpa using h3)
        omega
      · omega
def bld (ctx : Int) (a b : List ByteArray) (t : List Ch) : List Hk := (grp ctx t).map (ofG ctx a b)

/-! ### changes one behind the other -/
def inc : List Ch → Int → Int → Int → Int → Prop
  | [], x, y, n, m => x ≤ n ∧ y ≤ m
  | c :: r, x, y, n, m => okC x y n m c ∧ inc r (c.a + c.n) (c.b + c.m) n m
theorem inc_val {t : List Ch} {x y n m : Int} (h : val t x y n m = true) (hx : x ≤ n) (hy : y ≤ m) : inc t x y n m := by
  induction t generalizing x y with
  | nil => exact ⟨hx, hy⟩
  | cons c r ih =>
    obtain ⟨h1, h2⟩ := Ed.val_cons.1 h
    exact ⟨h1, ih h2 (by have := h1.1; omega) (by have := h1.2.1; omega)⟩
def endA (x : Int) (g : List Ch) : Int := g.foldl (fun _ c => c.a + c.n) x
def endB (y : Int) (g : List Ch) : Int := g.foldl (fun _ c => c.b + c.m) y
theorem inc_app {g r : List Ch} {x y n m : Int} : inc (g ++ r) x y n m ↔ inc g x y n m ∧ inc r (endA x g) (endB y g) n m := by
  induction g generalizing x y with
  | nil =>
    constructor
    · intro h
      refine ⟨?_, h⟩
      show x ≤ n ∧ y ≤ m
      cases r with
      | nil => exact h
      | cons c r =>
        obtain ⟨⟨h1, h2, _⟩, _⟩ := h
        omega
    · exact fun h => h.2
  | cons c g ih =>
    show (okC x y n m c ∧ inc (g ++ r) (c.a + c.n) (c.b + c.m) n m) ↔ ((okC x y n m c ∧ inc g (c.a + c.n) (c.b + c.m) n m) ∧ inc r (endA (c.a + c.n) g) (endB (c.b + c.m) g) n m)
    rw [ih, and_assoc]
theorem endA_ge {g : List Ch} {x y n m : Int} (h : inc g x y n m) : x ≤ endA x g ∧ endA x g ≤ n ∧ y ≤ endB y g ∧ endB y g ≤ m := by
  induction g generalizing x y with
  | nil => obtain ⟨h1, h2⟩ := h; exact ⟨Int.le_refl _, h1, Int.le_refl _, h2⟩
  | cons c r ih =>
    obtain ⟨⟨⟨p1, p2, p3⟩, ⟨p4, p5, p6⟩, _, _⟩, h2⟩ := h
    obtain ⟨q1, q2, q3, q4⟩ := ih h2
    show x ≤ endA (c.a + c.n) r ∧ endA (c.a + c.n) r ≤ n ∧ y ≤ endB (c.b + c.m) r ∧ endB (c.b + c.m) r ≤ m
    omega
theorem endA_last {g : List Ch} {x : Int} (h : g ≠ []) : endA x g = (g.getLastD zC).a + (g.getLastD zC).n := by
  induction g generalizing x with
  | nil => exact absurd rfl h
  | cons c r ih =>
    cases r with
    | nil => rfl
    | cons d r => exact ih (x := c.a + c.n) (by simp)
theorem inc_in {g : List Ch} {x y n m : Int} (h : inc g x y n m) : ∀ c ∈ g, x ≤ c.a ∧ 0 ≤ c.n ∧ c.a + c.n ≤ n ∧ y ≤ c.b ∧ 0 ≤ c.m ∧ c.b + c.m ≤ m := by
  induction g generalizing x y with
  | nil => intro c hc; simp at hc
  | cons d r ih =>
    obtain ⟨⟨⟨p1, p2, p3⟩, ⟨p4, p5, p6⟩, _, _⟩, h2⟩ := h
    intro c hc
    rcases List.mem_cons.1 hc with rfl | hc
    · omega
    · have := ih h2 c hc
      omega
theorem inc_mono {g : List Ch} {x y n m x' y' : Int} (h : inc g x y n m) (hx : x' ≤ x) (hd : x - x' = y - y') : inc g x' y' n m := by
  cases g with
  | nil => obtain ⟨h1, h2⟩ := h; exact ⟨by omega, by omega⟩
  | cons c r =>
    obtain ⟨⟨⟨p1, p2, p3⟩, ⟨p4, p5, p6⟩, p7, p8⟩, h2⟩ := h
    exact ⟨⟨⟨by omega, p2, p3⟩, ⟨by omega, p5, p6⟩, p7, by omega⟩, h2⟩
/-- what a group costs -/
theorem cost_inc {s : List Ch} {a b n m x y : Int} (h : inc s a b n m) (ha : 0 ≤ a) (hb : 0 ≤ b) (hx : 0 ≤ x) (hy : 0 ≤ y) (hxa : x ≤ a) (hyb : y ≤ b) (hn : n ≤ 4194304) (hm : m ≤ 4194304) : Ed.costO s x y = some (x + Ed.goneS s, y + Ed.comeS s) := by
  induction s generalizing a b x y with
  | nil => simp [Ed.costO, Ed.goneS, Ed.comeS]
  | cons c r ih =>
    obtain ⟨⟨h1, h2, h3, h4⟩, hr⟩ := h
    rw [Ed.costO, if_neg (by omega), ih hr (by omega) (by omega) (by omega) (by omega) (by omega) (by omega)]
    simp only [Ed.goneS, Ed.comeS, List.map_cons, List.sum_cons, Option.some.injEq, Prod.mk.injEq]
    omega
theorem inc_come {s : List Ch} {a b n m : Int} (h : inc s a b n m) : 0 ≤ Ed.comeS s ∧ Ed.comeS s ≤ m - b ∧ 0 ≤ Ed.goneS s ∧ Ed.goneS s ≤ n - a := by
  induction s generalizing a b with
  | nil => obtain ⟨h1, h2⟩ := h; simp [Ed.comeS, Ed.goneS]; omega
  | cons c r ih =>
    obtain ⟨⟨h1, h2, h3, h4⟩, hr⟩ := h
    have := ih hr
    simp only [Ed.goneS, Ed.comeS, List.map_cons, List.sum_cons] at this ⊢
    omega
/-- the old lines of a group's rows -/
theorem olds_rowsG {a b : List ByteArray} {g : List Ch} {x y n m q : Int} (h : inc g x y n m) (hx : 0 ≤ x) (hq : endA x g ≤ q) : olds (rowsG a b x g q) = sl a x q := by
  induction g generalizing x y with
  | nil => rw [rowsG, olds_mk1]
  | cons c r ih =>
    obtain ⟨⟨⟨p1, p2, p3⟩, ⟨p4, p5, p6⟩, _, _⟩, h2⟩ := h
    have hq' : endA (c.a + c.n) r ≤ q := hq
    have := endA_ge h2
    rw [rowsG, olds_app, olds_app, olds_app, olds_mk1, olds_mk2, olds_mk3, ih h2 (by omega) hq', List.nil_append, ← List.append_assoc, sl_app hx p1 (by omega), sl_app hx (by omega) (by omega)]
theorem fres_rowsG {a b : List ByteArray} {g : List Ch} {x y n m q : Int} (h : inc g x y n m) (hx : 0 ≤ x) (hy : 0 ≤ y) (hq : endA x g ≤ q) (hqa : q ≤ a.length) (hm : m ≤ b.length) : ((fres (rowsG a b x g q)).length : Int) = q - x - Ed.goneS g + Ed.comeS g := by
  induction g generalizing x y with
  | nil =>
    have hq' : x ≤ q := hq
    rw [rowsG, fres_mk1, sl_len hx hq' hqa]
    simp [Ed.goneS, Ed.comeS]
  | cons c r ih =>
    obtain ⟨⟨⟨p1, p2, p3⟩, ⟨p4, p5, p6⟩, _, _⟩, h2⟩ := h
    have hq' : endA (c.a + c.n) r ≤ q := hq
    have := endA_ge h2
    have e := ih h2 (by omega) (by omega) hq'
    rw [rowsG, fres_app, fres_app, fres_app, fres_mk1, fres_mk2, fres_mk3, List.length_append, List.length_append, List.length_append]
    have e1 := sl_len (l := a) (x := x) (y := c.a) hx p1 (by omega)
    have e2 := sl_len (l := b) (x := c.b) (y := c.b + c.m) (by omega) (by omega) (by omega)
    simp only [Ed.goneS, Ed.comeS, List.map_cons, List.sum_cons] at e ⊢
    push_cast
    simp only [List.length_nil]
    omega
theorem len_rowsG {a b : List ByteArray} {g : List Ch} {x y n m q : Int} (h : inc g x y n m) (hx : 0 ≤ x) (hy : 0 ≤ y) (hq : endA x g ≤ q) (hqa : q ≤ a.length) (hm : m ≤ b.length) : ((rowsG a b x g q).length : Int) = q - x + Ed.comeS g := by
  induction g generalizing x y with
  | nil =>
    have hq' : x ≤ q := hq
    rw [rowsG, mk_len, sl_len hx hq' hqa]
    simp [Ed.comeS]
  | cons c r ih =>
    obtain ⟨⟨⟨p1, p2, p3⟩, ⟨p4, p5, p6⟩, _, _⟩, h2⟩ := h
    have hq' : endA (c.a + c.n) r ≤ q := hq
    have := endA_ge h2
    have e := ih h2 (by omega) (by omega) hq'
    rw [rowsG, List.length_append, List.length_append, List.length_append, mk_len, mk_len, mk_len]
    have e1 := sl_len (l := a) (x := x) (y := c.a) hx p1 (by omega)
    have e2 := sl_len (l := b) (x := c.b) (y := c.b + c.m) (by omega) (by omega) (by omega)
    have e3 := sl_len (l := a) (x := c.a) (y := c.a + c.n) (by omega) (by omega) (by omega)
    simp only [Ed.comeS, List.map_cons, List.sum_cons] at e ⊢
    push_cast
    omega
end Go.Proofs.YtnbonghlmdnabaaDoor.Hu
