/-
  The walk of the classes' table.
-/
import Derived.Test.YtfjhjhjdneihbaaGreatDoorRg
namespace Go.Proofs.YtfjhjhjdneihbaaGreatDoor
open Go.RowKit

theorem between_lit (lo hi : Int) (l h : Nat) (hl : l < 256) (hh : h < 256) (e1 : lo = l) (e2 : hi = h) (w : World) :
    Calls Tryz.prog 105 #[.int .u8 lo, .int .u8 hi] w fun e w' => ∃ g lb, e = .returned (.func (.func g) #[] lb) ∧ Tells w' (.func (.func g) #[] lb) (Pg.bt l h) ∧ Below w.heap.size w w' := by
  have hx := between_any (UInt8.ofNat l) (UInt8.ofNat h) w
  have el : (UInt8.ofNat l).toNat = l := by rw [UInt8.toNat_ofNat']; omega
  have eh : (UInt8.ofNat h).toNat = h := by rw [UInt8.toNat_ofNat']; omega
  rw [el, eh, ← e1, ← e2] at hx
  refine hx.mono ?_
  rintro e w' ⟨v, rfl, ht, hb⟩
  obtain ⟨g, lb, rfl, r⟩ := ht
  exact ⟨g, lb, rfl, ⟨g, lb, rfl, r⟩, hb⟩
theorem either_lit (vk : Value) (ps : List (UInt8 → Bool)) (p : UInt8 → Bool) (hp : anyP ps = p) (w : World) (h : Kinds w vk ps) (hn : ps.length ≤ 1000) :
    Calls Tryz.prog 106 #[vk] w fun e w' => ∃ g lb, e = .returned (.func (.func g) #[] lb) ∧ Tells w' (.func (.func g) #[] lb) p ∧ Below w.heap.size w w' := by
  subst hp
  refine (either_any vk ps w h hn).mono ?_
  rintro e w' ⟨v, rfl, ht, hb⟩
  obtain ⟨g, lb, rfl, r⟩ := ht
  exact ⟨g, lb, rfl, ⟨g, lb, rfl, r⟩, hb⟩
theorem kinds_new (w : World) (vs : List Value) (ps : List (UInt8 → Bool)) (T : TypeId) (hl : vs.length = ps.length) (h : ∀ (j : Nat) x p, vs[j]? = some x → ps[j]? = some p → Tells w x p) :
    Kinds (w.alloc (.cells vs.toArray T)) (.slice (some ⟨w.heap.size, 0, none⟩) ps.length ps.length) ps := by
  refine ⟨w.heap.size, vs, ps.length, rfl, Nat.le_refl _, by simp, hl, fun j x hj => ?_, fun j x p h1 h2 => (h j x p h1 h2).later ((Below.refl _ _).alloc (Nat.le_refl _) _)⟩
  simp [World.cell?_alloc_at, hj]
theorem two_at {α β : Type} {R : α → β → Prop} {a b : α} {c d : β} (h1 : R a c) (h2 : R b d) : ∀ (j : Nat) x p, [a, b][j]? = some x → [c, d][j]? = some p → R x p := by
  intro j x p hx hp
  match j, hx, hp with
  | 0, hx, hp => cases hx; cases hp; exact h1
  | 1, hx, hp => cases hx; cases hp; exact h2
  | j + 2, hx, _ => simp at hx
theorem three_at {α β : Type} {R : α → β → Prop} {a b e : α} {c d f : β} (h1 : R a c) (h2 : R b d) (h3 : R e f) : ∀ (j : Nat) x p, [a, b, e][j]? = some x → [c, d, f][j]? = some p → R x p := by
  intro j x p hx hp
  match j, hx, hp with
  | 0, hx, hp => cases hx; cases hp; exact h1
  | 1, hx, hp => cases hx; cases hp; exact h2
  | 2, hx, hp => cases hx; cases hp; exact h3
  | j + 3, hx, _ => simp at hx
theorem any_two (p q r : UInt8 → Bool) (h : ∀ c, r c = (p c || q c)) : anyP [p, q] = r := by
  funext c
  simp [anyP, h]
theorem any_three (p q s r : UInt8 → Bool) (h : ∀ c, r c = (p c || q c || s c)) : anyP [p, q, s] = r := by
  funext c
  simp [anyP, h, Bool.or_assoc]

/-- what an operation of the table leaves -/
inductive Sp where
  | tells (p : UInt8 → Bool)
  | row (nm : List UInt8) (p : UInt8 → Bool)
  | kinds (ps : List (UInt8 → Bool))
  | rows
/-- a row of the table -/
def RowV (w : World) (v : Value) (nm : List UInt8) (p : UInt8 → Bool) : Prop := ∃ x, v = .agg #[.string ⟨(Pg.full nm).toArray⟩, x] ∧ Tells w x p
/-- the table -/
def RowsAt (w : World) (v : Value) : Prop :=
  ∃ b, v = .slice (some ⟨b, 0, none⟩) 12 12 ∧ b < w.heap.size ∧ ∀ (j : Nat) nm p, Pg.rows[j]? = some (nm, p) → w.cell? ⟨b, 2 * j, none⟩ = some (.string ⟨(Pg.full nm).toArray⟩) ∧ ∃ x, w.cell? ⟨b, 2 * j + 1, none⟩ = some x ∧ Tells w x p
def Sp.At (w : World) (v : Value) : Sp → Prop
  | .tells p => Tells w v p
  | .row nm p => RowV w v nm p
  | .kinds ps => Kinds w v ps
  | .rows => RowsAt w v
theorem RowsAt.later {w w' : World} {v : Value} (h : RowsAt w v) (hb : Below w.heap.size w w') : RowsAt w' v := by
  obtain ⟨b, hv, hlt, h⟩ := h
  refine ⟨b, hv, Nat.lt_of_lt_of_le hlt hb.size, fun j nm p hj => ?_⟩
  obtain ⟨h1, x, h2, h3⟩ := h j nm p hj
  exact ⟨(hb.cell (p := ⟨b, 2 * j, none⟩) hlt).trans h1, x, (hb.cell (p := ⟨b, 2 * j + 1, none⟩) hlt).trans h2, h3.later hb⟩
theorem Sp.At.later {w w' : World} {v : Value} {s : Sp} (h : s.At w v) (hb : Below w.heap.size w w') : s.At w' v := by
  cases s with
  | tells p => exact Tells.later h hb
  | row nm p => obtain ⟨x, hv, ht⟩ := h; exact ⟨x, hv, ht.later hb⟩
  | kinds ps => exact Kinds.later h hb
  | rows => exact RowsAt.later h hb
def nmAt (j : Nat) : List UInt8 := (Pg.rows.getD j ([], Pg.no)).1
/-- each operation's, by its place -/
def specs : List Sp :=
  [.tells Pg.cAlpha, .row (nmAt 0) Pg.cAlpha, .tells Pg.cDigit, .row (nmAt 1) Pg.cDigit, .tells Pg.cAlnum, .row (nmAt 2) Pg.cAlnum, .tells Pg.cUpper, .row (nmAt 3) Pg.cUpper, .tells Pg.cLower, .row (nmAt 4) Pg.cLower,
   .tells Pg.cDigit, .tells (Pg.bt 97 102), .tells (Pg.bt 65 70), .kinds [Pg.cDigit, Pg.bt 97 102, Pg.bt 65 70], .tells Pg.cXdigit, .row (nmAt 5) Pg.cXdigit,
   .tells (Pg.bt 9 13), .tells (Pg.bt 32 32), .kinds [Pg.bt 9 13, Pg.bt 32 32], .tells Pg.cSpace, .row (nmAt 6) Pg.cSpace, .row (nmAt 7) Pg.cBlank, .tells Pg.cPunct, .row (nmAt 8) Pg.cPunct,
   .tells Pg.cPrint, .row (nmAt 9) Pg.cPrint, .tells Pg.cGraph, .row (nmAt 10) Pg.cGraph, .row (nmAt 11) Pg.cCntrl, .rows, .rows]
def spec (i : Nat) : Sp := specs.getD i .rows

/-- all operations, each with its place -/
def AllFrom (X : Nat → Oper → Prop) : List Oper → Nat → Prop
  | [], _ => True
  | o :: l, k => X k o ∧ AllFrom X l (k + 1)
theorem allFrom_at {X : Nat → Oper → Prop} : ∀ (l : List Oper) (k : Nat), AllFrom X l k → ∀ (i : Nat) (o : Oper), l[i]? = some o → X (k + i) o
  | [], k, _, i, o, ho => by simp at ho
  | o' :: l, k, h, 0, o, ho => by cases ho; exact h.1
  | o' :: l, k, h, i + 1, o, ho => by
    have := allFrom_at l (k + 1) h.2 i o (by simpa using ho)
    rw [show k + (i + 1) = k + 1 + i by omega]
    exact this
theorem allOps {X : Nat → Oper → Prop} {ops : Array Oper} (h : AllFrom X ops.toList 0) : ∀ (i : Nat) (o : Oper), ops[i]? = some o → X i o := by
  intro i o ho
  have := allFrom_at ops.toList 0 h i o (by rw [Array.getElem?_toList]; exact ho)
  rwa [Nat.zero_add] at this
theorem not_dst {ops : Array Oper} {t : Nat} (h : (ops.all fun o => o.dst != some t) = true) : ∀ (i : Nat) (o : Oper), ops[i]? = some o → o.dst ≠ some t := by
  intro i o ho
  rw [Array.all_eq_true'] at h
  have := h o (Array.mem_of_getElem? ho)
  simpa using this

theorem getD_at {a : Act} {t : Nat} {v : Value} (h : a.tmps.getD t undef = v) : a.tmps[t]?.getD undef = v := by rw [← Array.getD_eq_getD_getElem?]; exact h

section
variable {P : Program} {o : Oper} {a : Act} {w w' : World} {K : Act → World → Prop} {Q : Exit → Act → World → Prop}
theorem wp_value {v : Value} (h : (execOp a.eval o).run P w = .ok (.value v) w') (hk : K (a.put o.dst v) w') : o.wp P a w K Q := by
  unfold Oper.wp
  rw [h]
  exact hk
theorem wp_enter {f : Nat} {args : Array Value} (h : (execOp a.eval o).run P w = .ok (.enter f args) w') (hc : Calls P f args w' fun e w'' => ∃ v, e = .returned v ∧ K (a.put o.dst v) w'') : o.wp P a w K Q := by
  unfold Oper.wp
  rw [h]
  refine Calls.mono hc ?_
  rintro e w'' ⟨v, rfl, hk⟩
  exact hk
end

set_option maxRecDepth 100000 in
set_option maxHeartbeats 2000000 in
theorem classes_any (w : World) :
    Calls Tryz.prog 103 #[] w fun e w' => ∃ v, e = .returned v ∧ RowsAt w' v ∧ Below w.heap.size w w' := by
  go_enter Tryz.func103, Tryz.ntmps103
  go_wp2_with fail
  refine (between_lit _ _ 65 90 (by omega) (by omega) rfl rfl _).mono ?_
  rintro e w1 ⟨g1, lb1, rfl, t1, hb1⟩
  have T1 := hid t1
  clear t1
  go_wp2_with fail
  refine (between_lit _ _ 97 122 (by omega) (by omega) rfl rfl _).mono ?_
  rintro e w2 ⟨g2, lb2, rfl, t2, hb2⟩
  replace T1 := hid (T1.out.later hb2)
  have T2 := hid t2
  have hB2 := hb1.trans (hb2.mono hb1.size)
  clear t2 hb1 hb2
  go_wp2_with fail
  refine (between_lit _ _ 48 57 (by omega) (by omega) rfl rfl _).mono ?_
  rintro e w3 ⟨g3, lb3, rfl, t3, hb3⟩
  replace T1 := hid (T1.out.later hb3)
  replace T2 := hid (T2.out.later hb3)
  have T3 := hid t3
  have hB3 := hB2.trans (hb3.mono hB2.size)
  clear t3 hB2 hb3
  go_wp2_with fail
  refine (either_lit _ [Pg.bt 65 90, Pg.bt 97 122] Pg.cAlpha (any_two _ _ _ fun _ => rfl) _ (kinds_new w3 _ _ _ rfl (two_at T1.out T2.out)) (by simp)).mono ?_
  rintro e w4 ⟨g4, lb4, rfl, t4, hb4⟩
  have ha3 : Below w3.heap.size w3 (w3.alloc (.cells #[.func (.func g1) #[] lb1, .func (.func g2) #[] lb2] 107)) := (Below.refl _ _).alloc (Nat.le_refl _) _
  have hb4' := ha3.trans (hb4.mono ha3.size)
  replace T1 := hid (T1.out.later hb4')
  replace T2 := hid (T2.out.later hb4')
  replace T3 := hid (T3.out.later hb4')
  have T4 := hid t4
  have hB4 := hB3.trans (hb4'.mono hB3.size)
  clear t4 hB3 hb4 ha3 hb4'
  go_wp2_with fail
  refine (either_lit _ [Pg.cAlpha, Pg.bt 48 57] Pg.cAlnum (any_two _ _ _ fun _ => rfl) _ (kinds_new w4 _ _ _ rfl (two_at T4.out T3.out)) (by simp)).mono ?_
  rintro e w5 ⟨g5, lb5, rfl, t5, hb5⟩
  have ha4 : Below w4.heap.size w4 (w4.alloc (.cells #[.func (.func g4) #[] lb4, .func (.func g3) #[] lb3] 107)) := (Below.refl _ _).alloc (Nat.le_refl _) _
  have hb5' := ha4.trans (hb5.mono ha4.size)
  replace T1 := hid (T1.out.later hb5')
  replace T2 := hid (T2.out.later hb5')
  replace T3 := hid (T3.out.later hb5')
  replace T4 := hid (T4.out.later hb5')
  have T5 := hid t5
  have hB5 := hB4.trans (hb5'.mono hB4.size)
  clear t5 hB4 hb5 ha4 hb5'
  go_wp2_with fail
  refine (between_lit _ _ 33 126 (by omega) (by omega) rfl rfl _).mono ?_
  rintro e w6 ⟨g6, lb6, rfl, t6, hb6⟩
  have ha5 : Below w5.heap.size w5 (w5.alloc (.cells #[.func (.func g5) #[] lb5] 107)) := (Below.refl _ _).alloc (Nat.le_refl _) _
  have hb6' := ha5.trans (hb6.mono ha5.size)
  have ha6 : Below w6.heap.size w6 (w6.alloc (.cells #[.func (.func g6) #[] lb6] 107)) := (Below.refl _ _).alloc (Nat.le_refl _) _
  have hb7 := hb6'.trans (ha6.mono hb6'.size)
  have T1 : Hid (Tells (w6.alloc (.cells #[.func (.func g6) #[] lb6] 107)) _ Pg.cUpper) := hid (T1.out.later hb7)
  have T2 : Hid (Tells (w6.alloc (.cells #[.func (.func g6) #[] lb6] 107)) _ Pg.cLower) := hid (T2.out.later hb7)
  have T3 : Hid (Tells (w6.alloc (.cells #[.func (.func g6) #[] lb6] 107)) _ Pg.cDigit) := hid (T3.out.later hb7)
  have T4 := hid (T4.out.later hb7)
  have T5 := hid (T5.out.later hb7)
  have T6 : Hid (Tells (w6.alloc (.cells #[.func (.func g6) #[] lb6] 107)) _ Pg.cGraph) := hid (t6.later ha6)
  have hB7 := hB5.trans (hb7.mono hB5.size)
  have C5 : (w6.alloc (.cells #[.func (.func g6) #[] lb6] 107)).cell? ⟨w5.heap.size, 0, none⟩ = some (.func (.func g5) #[] lb5) := by
    have hlt : w5.heap.size < (w5.alloc (.cells #[.func (.func g5) #[] lb5] 107)).heap.size := by simp
    have hz := hb6.size
    rw [ha6.cell (p := ⟨w5.heap.size, 0, none⟩) (by simp at hz ⊢; omega), hb6.cell (p := ⟨w5.heap.size, 0, none⟩) hlt]
    simp
  have C6 : (w6.alloc (.cells #[.func (.func g6) #[] lb6] 107)).cell? ⟨w6.heap.size, 0, none⟩ = some (.func (.func g6) #[] lb6) := by simp
  have L5 : w5.heap.size < (w6.alloc (.cells #[.func (.func g6) #[] lb6] 107)).heap.size := by
    have hz := hb6'.size
    simp; omega
  have L6 : w6.heap.size < (w6.alloc (.cells #[.func (.func g6) #[] lb6] 107)).heap.size := by simp
  clear hb6 hb6' ha5 ha6 hb7 hB5 t6
  go_wp2
  generalize w6.alloc (.cells #[.func (.func g6) #[] lb6] 107) = W at *
  generalize w5.heap.size = b5 at *
  generalize w6.heap.size = b6 at *
  refine region_inv (by kernel_rfl) (by kernel_rfl) (fun w' => Below W.heap.size W w') (fun i v w' => (spec i).At w' v) (Below.refl _ _).drew ?_ ?_
  · refine allOps ?_
    refine ⟨?s0, ?s1, ?s2, ?s3, ?s4, ?s5, ?s6, ?s7, ?s8, ?s9, ?s10, ?s11, ?s12, ?s13, ?s14, ?s15, ?s16, ?s17, ?s18, ?s19, ?s20, ?s21, ?s22, ?s23, ?s24, ?s25, ?s26, ?s27, ?s28, ?s29, ?s30, trivial⟩
    case s0 =>
      intro a w' hS hR hA
      have h : a.tmps.getD 4 undef = .func (.func g4) #[] lb4 := hS.2.2 4 (not_dst (by kernel_rfl))
      refine wp_value rfl ⟨_, rfl, hR, ?_, fun _ _ h => h⟩
      show Tells w' (a.tmps.getD 4 undef) Pg.cAlpha
      rw [h]
      exact T4.out.later hR
    case s1 =>
      intro a w' hS hR hA
      have ht : Tells w' (a.tmps.getD 19 undef) Pg.cAlpha := hA ⟨0, .data⟩ (by simp) rfl _ 19 rfl rfl
      obtain ⟨x, hx⟩ : ∃ x, a.tmps.getD 19 undef = x := ⟨_, rfl⟩
      have hr : RowV w' (.agg #[.string ⟨(Pg.full (nmAt 0)).toArray⟩, x]) (nmAt 0) Pg.cAlpha := ⟨x, rfl, hx ▸ ht⟩
      refine wp_value (v := .agg #[.string ⟨(Pg.full (nmAt 0)).toArray⟩, x]) (w' := w') ?_ ?_
      · obtain ⟨g, lb, e, _⟩ := ht
        rw [hx] at e
        subst e
        have h := getD_at hx
        simp [execOp, Act.eval, go_sem, h]
        rfl
      · exact ⟨_, rfl, hR, hr, fun _ _ h => h⟩
    case s2 =>
      intro a w' hS hR hA
      have h : a.tmps.getD 3 undef = .func (.func g3) #[] lb3 := hS.2.2 3 (not_dst (by kernel_rfl))
      refine wp_value rfl ⟨_, rfl, hR, ?_, fun _ _ h => h⟩
      show Tells w' (a.tmps.getD 3 undef) Pg.cDigit
      rw [h]
      exact T3.out.later hR
    case s3 =>
      intro a w' hS hR hA
      have ht : Tells w' (a.tmps.getD 21 undef) Pg.cDigit := hA ⟨2, .data⟩ (by simp) rfl _ 21 rfl rfl
      obtain ⟨x, hx⟩ : ∃ x, a.tmps.getD 21 undef = x := ⟨_, rfl⟩
      have hr : RowV w' (.agg #[.string ⟨(Pg.full (nmAt 1)).toArray⟩, x]) (nmAt 1) Pg.cDigit := ⟨x, rfl, hx ▸ ht⟩
      refine wp_value (v := .agg #[.string ⟨(Pg.full (nmAt 1)).toArray⟩, x]) (w' := w') ?_ ?_
      · obtain ⟨g, lb, e, _⟩ := ht
        rw [hx] at e
        subst e
        have h := getD_at hx
        simp [execOp, Act.eval, go_sem, h]
        rfl
      · exact ⟨_, rfl, hR, hr, fun _ _ h => h⟩
    case s4 =>
      intro a w' hS hR hA
      have h := getD_at (hS.2.2 5 (not_dst (by kernel_rfl)) : a.tmps.getD 5 undef = .pointer (some ⟨b5, 0, none⟩))
      have c := (hR.cell (p := ⟨b5, 0, none⟩) L5).trans C5
      refine wp_value (v := .func (.func g5) #[] lb5) (w' := w') ?_ ⟨_, rfl, hR, T5.out.later hR, fun _ _ h => h⟩
      simp [execOp, Act.eval, go_sem, h, c]
    case s5 =>
      intro a w' hS hR hA
      have ht : Tells w' (a.tmps.getD 23 undef) Pg.cAlnum := hA ⟨4, .data⟩ (by simp) rfl _ 23 rfl rfl
      obtain ⟨x, hx⟩ : ∃ x, a.tmps.getD 23 undef = x := ⟨_, rfl⟩
      have hr : RowV w' (.agg #[.string ⟨(Pg.full (nmAt 2)).toArray⟩, x]) (nmAt 2) Pg.cAlnum := ⟨x, rfl, hx ▸ ht⟩
      refine wp_value (v := .agg #[.string ⟨(Pg.full (nmAt 2)).toArray⟩, x]) (w' := w') ?_ ?_
      · obtain ⟨g, lb, e, _⟩ := ht
        rw [hx] at e
        subst e
        have h := getD_at hx
        simp [execOp, Act.eval, go_sem, h]
        rfl
      · exact ⟨_, rfl, hR, hr, fun _ _ h => h⟩
    case s6 =>
      intro a w' hS hR hA
      have h : a.tmps.getD 1 undef = .func (.func g1) #[] lb1 := hS.2.2 1 (not_dst (by kernel_rfl))
      refine wp_value rfl ⟨_, rfl, hR, ?_, fun _ _ h => h⟩
      show Tells w' (a.tmps.getD 1 undef) Pg.cUpper
      rw [h]
      exact T1.out.later hR
    case s7 =>
      intro a w' hS hR hA
      have ht : Tells w' (a.tmps.getD 25 undef) Pg.cUpper := hA ⟨6, .data⟩ (by simp) rfl _ 25 rfl rfl
      obtain ⟨x, hx⟩ : ∃ x, a.tmps.getD 25 undef = x := ⟨_, rfl⟩
      have hr : RowV w' (.agg #[.string ⟨(Pg.full (nmAt 3)).toArray⟩, x]) (nmAt 3) Pg.cUpper := ⟨x, rfl, hx ▸ ht⟩
      refine wp_value (v := .agg #[.string ⟨(Pg.full (nmAt 3)).toArray⟩, x]) (w' := w') ?_ ?_
      · obtain ⟨g, lb, e, _⟩ := ht
        rw [hx] at e
        subst e
        have h := getD_at hx
        simp [execOp, Act.eval, go_sem, h]
        rfl
      · exact ⟨_, rfl, hR, hr, fun _ _ h => h⟩
    case s8 =>
      intro a w' hS hR hA
      have h : a.tmps.getD 2 undef = .func (.func g2) #[] lb2 := hS.2.2 2 (not_dst (by kernel_rfl))
      refine wp_value rfl ⟨_, rfl, hR, ?_, fun _ _ h => h⟩
      show Tells w' (a.tmps.getD 2 undef) Pg.cLower
      rw [h]
      exact T2.out.later hR
    case s9 =>
      intro a w' hS hR hA
      have ht : Tells w' (a.tmps.getD 27 undef) Pg.cLower := hA ⟨8, .data⟩ (by simp) rfl _ 27 rfl rfl
      obtain ⟨x, hx⟩ : ∃ x, a.tmps.getD 27 undef = x := ⟨_, rfl⟩
      have hr : RowV w' (.agg #[.string ⟨(Pg.full (nmAt 4)).toArray⟩, x]) (nmAt 4) Pg.cLower := ⟨x, rfl, hx ▸ ht⟩
      refine wp_value (v := .agg #[.string ⟨(Pg.full (nmAt 4)).toArray⟩, x]) (w' := w') ?_ ?_
      · obtain ⟨g, lb, e, _⟩ := ht
        rw [hx] at e
        subst e
        have h := getD_at hx
        simp [execOp, Act.eval, go_sem, h]
        rfl
      · exact ⟨_, rfl, hR, hr, fun _ _ h => h⟩
    case s10 =>
      intro a w' hS hR hA
      have h : a.tmps.getD 3 undef = .func (.func g3) #[] lb3 := hS.2.2 3 (not_dst (by kernel_rfl))
      refine wp_value rfl ⟨_, rfl, hR, ?_, fun _ _ h => h⟩
      show Tells w' (a.tmps.getD 3 undef) Pg.cDigit
      rw [h]
      exact T3.out.later hR
    case s11 =>
      intro a w' hS hR hA
      refine wp_enter (f := 105) (args := #[.int .u8 97, .int .u8 102]) (w' := w') ?_ ?_
      · simp [Act.eval, go_sem]
      · refine (between_lit _ _ 97 102 (by omega) (by omega) rfl rfl _).mono ?_
        rintro e w'' ⟨g, lb, rfl, t, hb⟩
        exact ⟨_, rfl, _, rfl, hR.trans (hb.mono hR.size), t, fun _ _ h => h.later hb⟩
    case s12 =>
      intro a w' hS hR hA
      refine wp_enter (f := 105) (args := #[.int .u8 65, .int .u8 70]) (w' := w') ?_ ?_
      · simp [Act.eval, go_sem]
      · refine (between_lit _ _ 65 70 (by omega) (by omega) rfl rfl _).mono ?_
        rintro e w'' ⟨g, lb, rfl, t, hb⟩
        exact ⟨_, rfl, _, rfl, hR.trans (hb.mono hR.size), t, fun _ _ h => h.later hb⟩
    case s13 =>
      intro a w' hS hR hA
      have h0 : Tells w' (a.tmps.getD 29 undef) Pg.cDigit := hA ⟨10, .data⟩ (by simp) rfl _ 29 rfl rfl
      have h1 : Tells w' (a.tmps.getD 30 undef) (Pg.bt 97 102) := hA ⟨11, .data⟩ (by simp) rfl _ 30 rfl rfl
      have h2 : Tells w' (a.tmps.getD 31 undef) (Pg.bt 65 70) := hA ⟨12, .data⟩ (by simp) rfl _ 31 rfl rfl
      obtain ⟨x0, e0⟩ : ∃ x, a.tmps.getD 29 undef = x := ⟨_, rfl⟩
      rw [e0] at h0
      obtain ⟨x1, e1⟩ : ∃ x, a.tmps.getD 30 undef = x := ⟨_, rfl⟩
      rw [e1] at h1
      obtain ⟨x2, e2⟩ : ∃ x, a.tmps.getD 31 undef = x := ⟨_, rfl⟩
      rw [e2] at h2
      have hb : Below w'.heap.size w' (w'.alloc (.cells [x0, x1, x2].toArray 107)) := (Below.refl _ _).alloc (Nat.le_refl _) _
      have hk := kinds_new w' [x0, x1, x2] [Pg.cDigit, (Pg.bt 97 102), (Pg.bt 65 70)] 107 rfl (three_at h0 h1 h2)
      refine wp_value (v := .slice (some ⟨w'.heap.size, 0, none⟩) 3 3) (w' := w'.alloc (.cells [x0, x1, x2].toArray 107)) ?_ ?_
      · obtain ⟨g0, lb0, r0, _⟩ := h0
        subst r0
        have f0 := getD_at e0
        obtain ⟨g1, lb1, r1, _⟩ := h1
        subst r1
        have f1 := getD_at e1
        obtain ⟨g2, lb2, r2, _⟩ := h2
        subst r2
        have f2 := getD_at e2
        simp [execOp, Act.eval, go_sem, f0, f1, f2]
      · exact ⟨_, rfl, hR.trans (hb.mono hR.size), hk, fun _ _ h => h.later hb⟩
    case s14 =>
      intro a w' hS hR hA
      have hk : Kinds w' (a.tmps.getD 32 undef) [Pg.cDigit, Pg.bt 97 102, Pg.bt 65 70] := hA ⟨13, .data⟩ (by simp) rfl _ 32 rfl rfl
      obtain ⟨x, hx⟩ : ∃ x, a.tmps.getD 32 undef = x := ⟨_, rfl⟩
      rw [hx] at hk
      have h := getD_at hx
      refine wp_enter (f := 106) (args := #[x]) (w' := w') ?_ ?_
      · simp [Act.eval, go_sem, h]
      · refine (either_lit _ [Pg.cDigit, Pg.bt 97 102, Pg.bt 65 70] Pg.cXdigit (any_three _ _ _ _ fun _ => rfl) _ hk (by simp)).mono ?_
        rintro e w'' ⟨g, lb, rfl, t, hb⟩
        exact ⟨_, rfl, _, rfl, hR.trans (hb.mono hR.size), t, fun _ _ h => h.later hb⟩
    case s15 =>
      intro a w' hS hR hA
      have ht : Tells w' (a.tmps.getD 33 undef) Pg.cXdigit := hA ⟨14, .data⟩ (by simp) rfl _ 33 rfl rfl
      obtain ⟨x, hx⟩ : ∃ x, a.tmps.getD 33 undef = x := ⟨_, rfl⟩
      have hr : RowV w' (.agg #[.string ⟨(Pg.full (nmAt 5)).toArray⟩, x]) (nmAt 5) Pg.cXdigit := ⟨x, rfl, hx ▸ ht⟩
      refine wp_value (v := .agg #[.string ⟨(Pg.full (nmAt 5)).toArray⟩, x]) (w' := w') ?_ ?_
      · obtain ⟨g, lb, e, _⟩ := ht
        rw [hx] at e
        subst e
        have h := getD_at hx
        simp [execOp, Act.eval, go_sem, h]
        rfl
      · exact ⟨_, rfl, hR, hr, fun _ _ h => h⟩
    case s16 =>
      intro a w' hS hR hA
      refine wp_enter (f := 105) (args := #[.int .u8 9, .int .u8 13]) (w' := w') ?_ ?_
      · simp [Act.eval, go_sem]
      · refine (between_lit _ _ 9 13 (by omega) (by omega) rfl rfl _).mono ?_
        rintro e w'' ⟨g, lb, rfl, t, hb⟩
        exact ⟨_, rfl, _, rfl, hR.trans (hb.mono hR.size), t, fun _ _ h => h.later hb⟩
    case s17 =>
      intro a w' hS hR hA
      refine wp_enter (f := 105) (args := #[.int .u8 32, .int .u8 32]) (w' := w') ?_ ?_
      · simp [Act.eval, go_sem]
      · refine (between_lit _ _ 32 32 (by omega) (by omega) rfl rfl _).mono ?_
        rintro e w'' ⟨g, lb, rfl, t, hb⟩
        exact ⟨_, rfl, _, rfl, hR.trans (hb.mono hR.size), t, fun _ _ h => h.later hb⟩
    case s18 =>
      intro a w' hS hR hA
      have h0 : Tells w' (a.tmps.getD 35 undef) (Pg.bt 9 13) := hA ⟨16, .data⟩ (by simp) rfl _ 35 rfl rfl
      have h1 : Tells w' (a.tmps.getD 36 undef) (Pg.bt 32 32) := hA ⟨17, .data⟩ (by simp) rfl _ 36 rfl rfl
      obtain ⟨x0, e0⟩ : ∃ x, a.tmps.getD 35 undef = x := ⟨_, rfl⟩
      rw [e0] at h0
      obtain ⟨x1, e1⟩ : ∃ x, a.tmps.getD 36 undef = x := ⟨_, rfl⟩
      rw [e1] at h1
      have hb : Below w'.heap.size w' (w'.alloc (.cells [x0, x1].toArray 107)) := (Below.refl _ _).alloc (Nat.le_refl _) _
      have hk := kinds_new w' [x0, x1] [(Pg.bt 9 13), (Pg.bt 32 32)] 107 rfl (two_at h0 h1)
      refine wp_value (v := .slice (some ⟨w'.heap.size, 0, none⟩) 2 2) (w' := w'.alloc (.cells [x0, x1].toArray 107)) ?_ ?_
      · obtain ⟨g0, lb0, r0, _⟩ := h0
        subst r0
        have f0 := getD_at e0
        obtain ⟨g1, lb1, r1, _⟩ := h1
        subst r1
        have f1 := getD_at e1
        simp [execOp, Act.eval, go_sem, f0, f1]
      · exact ⟨_, rfl, hR.trans (hb.mono hR.size), hk, fun _ _ h => h.later hb⟩
    case s19 =>
      intro a w' hS hR hA
      have hk : Kinds w' (a.tmps.getD 37 undef) [Pg.bt 9 13, Pg.bt 32 32] := hA ⟨18, .data⟩ (by simp) rfl _ 37 rfl rfl
      obtain ⟨x, hx⟩ : ∃ x, a.tmps.getD 37 undef = x := ⟨_, rfl⟩
      rw [hx] at hk
      have h := getD_at hx
      refine wp_enter (f := 106) (args := #[x]) (w' := w') ?_ ?_
      · simp [Act.eval, go_sem, h]
      · refine (either_lit _ [Pg.bt 9 13, Pg.bt 32 32] Pg.cSpace (any_two _ _ _ fun _ => rfl) _ hk (by simp)).mono ?_
        rintro e w'' ⟨g, lb, rfl, t, hb⟩
        exact ⟨_, rfl, _, rfl, hR.trans (hb.mono hR.size), t, fun _ _ h => h.later hb⟩
    case s20 =>
      intro a w' hS hR hA
      have ht : Tells w' (a.tmps.getD 38 undef) Pg.cSpace := hA ⟨19, .data⟩ (by simp) rfl _ 38 rfl rfl
      obtain ⟨x, hx⟩ : ∃ x, a.tmps.getD 38 undef = x := ⟨_, rfl⟩
      have hr : RowV w' (.agg #[.string ⟨(Pg.full (nmAt 6)).toArray⟩, x]) (nmAt 6) Pg.cSpace := ⟨x, rfl, hx ▸ ht⟩
      refine wp_value (v := .agg #[.string ⟨(Pg.full (nmAt 6)).toArray⟩, x]) (w' := w') ?_ ?_
      · obtain ⟨g, lb, e, _⟩ := ht
        rw [hx] at e
        subst e
        have h := getD_at hx
        simp [execOp, Act.eval, go_sem, h]
        rfl
      · exact ⟨_, rfl, hR, hr, fun _ _ h => h⟩
    case s21 =>
      intro a w' hS hR hA
      have hr : RowV w' (.agg #[.string ⟨(Pg.full (nmAt 7)).toArray⟩, .func (.func 107) #[] #[]]) (nmAt 7) Pg.cBlank := ⟨_, rfl, _, _, rfl, enters_of Tryz.func107 (by kernel_rfl) rfl, fun W c _ => blank_any c W⟩
      refine wp_value (v := .agg #[.string ⟨(Pg.full (nmAt 7)).toArray⟩, .func (.func 107) #[] #[]]) (w' := w') ?_ ?_
      · simp [execOp, Act.eval, go_sem]
        rfl
      · exact ⟨_, rfl, hR, hr, fun _ _ h => h⟩
    case s22 =>
      intro a w' hS hR hA
      have h6 := getD_at (hS.2.2 6 (not_dst (by kernel_rfl)) : a.tmps.getD 6 undef = .pointer (some ⟨b6, 0, none⟩))
      have h5 := getD_at (hS.2.2 5 (not_dst (by kernel_rfl)) : a.tmps.getD 5 undef = .pointer (some ⟨b5, 0, none⟩))
      have ht : Tells w' (.func (.func 108) #[] #[.pointer (some ⟨b6, 0, none⟩), .pointer (some ⟨b5, 0, none⟩)]) Pg.cPunct := by
        refine ⟨_, _, rfl, enters_of Tryz.func108 (by kernel_rfl) rfl, fun W2 c hb => ?_⟩
        have hb2 := hR.trans (hb.mono hR.size)
        exact punct_any b6 b5 _ _ c W2 ((hb2.cell (p := ⟨b6, 0, none⟩) L6).trans C6) ((hb2.cell (p := ⟨b5, 0, none⟩) L5).trans C5) (T6.out.later hb2) (T5.out.later hb2)
      refine wp_value (v := .func (.func 108) #[] #[.pointer (some ⟨b6, 0, none⟩), .pointer (some ⟨b5, 0, none⟩)]) (w' := w') ?_ ⟨_, rfl, hR, ht, fun _ _ h => h⟩
      simp [execOp, Act.eval, go_sem, h5, h6]
    case s23 =>
      intro a w' hS hR hA
      have ht : Tells w' (a.tmps.getD 41 undef) Pg.cPunct := hA ⟨22, .data⟩ (by simp) rfl _ 41 rfl rfl
      obtain ⟨x, hx⟩ : ∃ x, a.tmps.getD 41 undef = x := ⟨_, rfl⟩
      have hr : RowV w' (.agg #[.string ⟨(Pg.full (nmAt 8)).toArray⟩, x]) (nmAt 8) Pg.cPunct := ⟨x, rfl, hx ▸ ht⟩
      refine wp_value (v := .agg #[.string ⟨(Pg.full (nmAt 8)).toArray⟩, x]) (w' := w') ?_ ?_
      · obtain ⟨g, lb, e, _⟩ := ht
        rw [hx] at e
        subst e
        have h := getD_at hx
        simp [execOp, Act.eval, go_sem, h]
        rfl
      · exact ⟨_, rfl, hR, hr, fun _ _ h => h⟩
    case s24 =>
      intro a w' hS hR hA
      refine wp_enter (f := 105) (args := #[.int .u8 32, .int .u8 126]) (w' := w') ?_ ?_
      · simp [Act.eval, go_sem]
      · refine (between_lit _ _ 32 126 (by omega) (by omega) rfl rfl _).mono ?_
        rintro e w'' ⟨g, lb, rfl, t, hb⟩
        exact ⟨_, rfl, _, rfl, hR.trans (hb.mono hR.size), t, fun _ _ h => h.later hb⟩
    case s25 =>
      intro a w' hS hR hA
      have ht : Tells w' (a.tmps.getD 43 undef) Pg.cPrint := hA ⟨24, .data⟩ (by simp) rfl _ 43 rfl rfl
      obtain ⟨x, hx⟩ : ∃ x, a.tmps.getD 43 undef = x := ⟨_, rfl⟩
      have hr : RowV w' (.agg #[.string ⟨(Pg.full (nmAt 9)).toArray⟩, x]) (nmAt 9) Pg.cPrint := ⟨x, rfl, hx ▸ ht⟩
      refine wp_value (v := .agg #[.string ⟨(Pg.full (nmAt 9)).toArray⟩, x]) (w' := w') ?_ ?_
      · obtain ⟨g, lb, e, _⟩ := ht
        rw [hx] at e
        subst e
        have h := getD_at hx
        simp [execOp, Act.eval, go_sem, h]
        rfl
      · exact ⟨_, rfl, hR, hr, fun _ _ h => h⟩
    case s26 =>
      intro a w' hS hR hA
      have h := getD_at (hS.2.2 6 (not_dst (by kernel_rfl)) : a.tmps.getD 6 undef = .pointer (some ⟨b6, 0, none⟩))
      have c := (hR.cell (p := ⟨b6, 0, none⟩) L6).trans C6
      refine wp_value (v := .func (.func g6) #[] lb6) (w' := w') ?_ ⟨_, rfl, hR, T6.out.later hR, fun _ _ h => h⟩
      simp [execOp, Act.eval, go_sem, h, c]
    case s27 =>
      intro a w' hS hR hA
      have ht : Tells w' (a.tmps.getD 45 undef) Pg.cGraph := hA ⟨26, .data⟩ (by simp) rfl _ 45 rfl rfl
      obtain ⟨x, hx⟩ : ∃ x, a.tmps.getD 45 undef = x := ⟨_, rfl⟩
      have hr : RowV w' (.agg #[.string ⟨(Pg.full (nmAt 10)).toArray⟩, x]) (nmAt 10) Pg.cGraph := ⟨x, rfl, hx ▸ ht⟩
      refine wp_value (v := .agg #[.string ⟨(Pg.full (nmAt 10)).toArray⟩, x]) (w' := w') ?_ ?_
      · obtain ⟨g, lb, e, _⟩ := ht
        rw [hx] at e
        subst e
        have h := getD_at hx
        simp [execOp, Act.eval, go_sem, h]
        rfl
      · exact ⟨_, rfl, hR, hr, fun _ _ h => h⟩
    case s28 =>
      intro a w' hS hR hA
      have hr : RowV w' (.agg #[.string ⟨(Pg.full (nmAt 11)).toArray⟩, .func (.func 109) #[] #[]]) (nmAt 11) Pg.cCntrl := ⟨_, rfl, _, _, rfl, enters_of Tryz.func109 (by kernel_rfl) rfl, fun W c _ => cntrl_any c W⟩
      refine wp_value (v := .agg #[.string ⟨(Pg.full (nmAt 11)).toArray⟩, .func (.func 109) #[] #[]]) (w' := w') ?_ ?_
      · simp [execOp, Act.eval, go_sem]
        rfl
      · exact ⟨_, rfl, hR, hr, fun _ _ h => h⟩
    case s29 =>
      intro a w' hS hR hA
      obtain ⟨x0, hx0, ht0⟩ : RowV w' (a.tmps.getD 20 undef) (nmAt 0) Pg.cAlpha := hA ⟨1, .data⟩ (by simp) rfl _ 20 rfl rfl
      obtain ⟨x1, hx1, ht1⟩ : RowV w' (a.tmps.getD 22 undef) (nmAt 1) Pg.cDigit := hA ⟨3, .data⟩ (by simp) rfl _ 22 rfl rfl
      obtain ⟨x2, hx2, ht2⟩ : RowV w' (a.tmps.getD 24 undef) (nmAt 2) Pg.cAlnum := hA ⟨5, .data⟩ (by simp) rfl _ 24 rfl rfl
      obtain ⟨x3, hx3, ht3⟩ : RowV w' (a.tmps.getD 26 undef) (nmAt 3) Pg.cUpper := hA ⟨7, .data⟩ (by simp) rfl _ 26 rfl rfl
      obtain ⟨x4, hx4, ht4⟩ : RowV w' (a.tmps.getD 28 undef) (nmAt 4) Pg.cLower := hA ⟨9, .data⟩ (by simp) rfl _ 28 rfl rfl
      obtain ⟨x5, hx5, ht5⟩ : RowV w' (a.tmps.getD 34 undef) (nmAt 5) Pg.cXdigit := hA ⟨15, .data⟩ (by simp) rfl _ 34 rfl rfl
      obtain ⟨x6, hx6, ht6⟩ : RowV w' (a.tmps.getD 39 undef) (nmAt 6) Pg.cSpace := hA ⟨20, .data⟩ (by simp) rfl _ 39 rfl rfl
      obtain ⟨x7, hx7, ht7⟩ : RowV w' (a.tmps.getD 40 undef) (nmAt 7) Pg.cBlank := hA ⟨21, .data⟩ (by simp) rfl _ 40 rfl rfl
      obtain ⟨x8, hx8, ht8⟩ : RowV w' (a.tmps.getD 42 undef) (nmAt 8) Pg.cPunct := hA ⟨23, .data⟩ (by simp) rfl _ 42 rfl rfl
      obtain ⟨x9, hx9, ht9⟩ : RowV w' (a.tmps.getD 44 undef) (nmAt 9) Pg.cPrint := hA ⟨25, .data⟩ (by simp) rfl _ 44 rfl rfl
      obtain ⟨x10, hx10, ht10⟩ : RowV w' (a.tmps.getD 46 undef) (nmAt 10) Pg.cGraph := hA ⟨27, .data⟩ (by simp) rfl _ 46 rfl rfl
      obtain ⟨x11, hx11, ht11⟩ : RowV w' (a.tmps.getD 47 undef) (nmAt 11) Pg.cCntrl := hA ⟨28, .data⟩ (by simp) rfl _ 47 rfl rfl
      have hb : Below w'.heap.size w' (w'.alloc (.cells [.string ⟨(Pg.full (nmAt 0)).toArray⟩, x0, .string ⟨(Pg.full (nmAt 1)).toArray⟩, x1, .string ⟨(Pg.full (nmAt 2)).toArray⟩, x2, .string ⟨(Pg.full (nmAt 3)).toArray⟩, x3, .string ⟨(Pg.full (nmAt 4)).toArray⟩, x4, .string ⟨(Pg.full (nmAt 5)).toArray⟩, x5, .string ⟨(Pg.full (nmAt 6)).toArray⟩, x6, .string ⟨(Pg.full (nmAt 7)).toArray⟩, x7, .string ⟨(Pg.full (nmAt 8)).toArray⟩, x8, .string ⟨(Pg.full (nmAt 9)).toArray⟩, x9, .string ⟨(Pg.full (nmAt 10)).toArray⟩, x10, .string ⟨(Pg.full (nmAt 11)).toArray⟩, x11].toArray 185)) := (Below.refl _ _).alloc (Nat.le_refl _) _
      have hk : RowsAt (w'.alloc (.cells [.string ⟨(Pg.full (nmAt 0)).toArray⟩, x0, .string ⟨(Pg.full (nmAt 1)).toArray⟩, x1, .string ⟨(Pg.full (nmAt 2)).toArray⟩, x2, .string ⟨(Pg.full (nmAt 3)).toArray⟩, x3, .string ⟨(Pg.full (nmAt 4)).toArray⟩, x4, .string ⟨(Pg.full (nmAt 5)).toArray⟩, x5, .string ⟨(Pg.full (nmAt 6)).toArray⟩, x6, .string ⟨(Pg.full (nmAt 7)).toArray⟩, x7, .string ⟨(Pg.full (nmAt 8)).toArray⟩, x8, .string ⟨(Pg.full (nmAt 9)).toArray⟩, x9, .string ⟨(Pg.full (nmAt 10)).toArray⟩, x10, .string ⟨(Pg.full (nmAt 11)).toArray⟩, x11].toArray 185)) (.slice (some ⟨w'.heap.size, 0, none⟩) 12 12) := by
        refine ⟨_, rfl, by simp, fun j nm p hj => ?_⟩
        match j, hj with
        | 0, hj => cases hj; exact ⟨by simp [World.cell?_alloc_at]; rfl, x0, by simp [World.cell?_alloc_at], ht0.later hb⟩
        | 1, hj => cases hj; exact ⟨by simp [World.cell?_alloc_at]; rfl, x1, by simp [World.cell?_alloc_at], ht1.later hb⟩
        | 2, hj => cases hj; exact ⟨by simp [World.cell?_alloc_at]; rfl, x2, by simp [World.cell?_alloc_at], ht2.later hb⟩
        | 3, hj => cases hj; exact ⟨by simp [World.cell?_alloc_at]; rfl, x3, by simp [World.cell?_alloc_at], ht3.later hb⟩
        | 4, hj => cases hj; exact ⟨by simp [World.cell?_alloc_at]; rfl, x4, by simp [World.cell?_alloc_at], ht4.later hb⟩
        | 5, hj => cases hj; exact ⟨by simp [World.cell?_alloc_at]; rfl, x5, by simp [World.cell?_alloc_at], ht5.later hb⟩
        | 6, hj => cases hj; exact ⟨by simp [World.cell?_alloc_at]; rfl, x6, by simp [World.cell?_alloc_at], ht6.later hb⟩
        | 7, hj => cases hj; exact ⟨by simp [World.cell?_alloc_at]; rfl, x7, by simp [World.cell?_alloc_at], ht7.later hb⟩
        | 8, hj => cases hj; exact ⟨by simp [World.cell?_alloc_at]; rfl, x8, by simp [World.cell?_alloc_at], ht8.later hb⟩
        | 9, hj => cases hj; exact ⟨by simp [World.cell?_alloc_at]; rfl, x9, by simp [World.cell?_alloc_at], ht9.later hb⟩
        | 10, hj => cases hj; exact ⟨by simp [World.cell?_alloc_at]; rfl, x10, by simp [World.cell?_alloc_at], ht10.later hb⟩
        | 11, hj => cases hj; exact ⟨by simp [World.cell?_alloc_at]; rfl, x11, by simp [World.cell?_alloc_at], ht11.later hb⟩
        | j + 12, hj => simp [Pg.rows] at hj
      refine wp_value (v := .slice (some ⟨w'.heap.size, 0, none⟩) 12 12) (w' := w'.alloc (.cells [.string ⟨(Pg.full (nmAt 0)).toArray⟩, x0, .string ⟨(Pg.full (nmAt 1)).toArray⟩, x1, .string ⟨(Pg.full (nmAt 2)).toArray⟩, x2, .string ⟨(Pg.full (nmAt 3)).toArray⟩, x3, .string ⟨(Pg.full (nmAt 4)).toArray⟩, x4, .string ⟨(Pg.full (nmAt 5)).toArray⟩, x5, .string ⟨(Pg.full (nmAt 6)).toArray⟩, x6, .string ⟨(Pg.full (nmAt 7)).toArray⟩, x7, .string ⟨(Pg.full (nmAt 8)).toArray⟩, x8, .string ⟨(Pg.full (nmAt 9)).toArray⟩, x9, .string ⟨(Pg.full (nmAt 10)).toArray⟩, x10, .string ⟨(Pg.full (nmAt 11)).toArray⟩, x11].toArray 185)) ?_ ?_
      · obtain ⟨g0, lb0, r0, _⟩ := ht0
        subst r0
        have f0 := getD_at hx0
        obtain ⟨g1, lb1, r1, _⟩ := ht1
        subst r1
        have f1 := getD_at hx1
        obtain ⟨g2, lb2, r2, _⟩ := ht2
        subst r2
        have f2 := getD_at hx2
        obtain ⟨g3, lb3, r3, _⟩ := ht3
        subst r3
        have f3 := getD_at hx3
        obtain ⟨g4, lb4, r4, _⟩ := ht4
        subst r4
        have f4 := getD_at hx4
        obtain ⟨g5, lb5, r5, _⟩ := ht5
        subst r5
        have f5 := getD_at hx5
        obtain ⟨g6, lb6, r6, _⟩ := ht6
        subst r6
        have f6 := getD_at hx6
        obtain ⟨g7, lb7, r7, _⟩ := ht7
        subst r7
        have f7 := getD_at hx7
        obtain ⟨g8, lb8, r8, _⟩ := ht8
        subst r8
        have f8 := getD_at hx8
        obtain ⟨g9, lb9, r9, _⟩ := ht9
        subst r9
        have f9 := getD_at hx9
        obtain ⟨g10, lb10, r10, _⟩ := ht10
        subst r10
        have f10 := getD_at hx10
        obtain ⟨g11, lb11, r11, _⟩ := ht11
        subst r11
        have f11 := getD_at hx11
        simp [execOp, Act.eval, go_sem, f0, f1, f2, f3, f4, f5, f6, f7, f8, f9, f10, f11]
      · exact ⟨_, rfl, hR.trans (hb.mono hR.size), hk, fun _ _ h => h.later hb⟩
    case s30 =>
      intro a w' hS hR hA
      have hk : RowsAt w' (a.tmps.getD 48 undef) := hA ⟨29, .data⟩ (by simp) rfl _ 48 rfl rfl
      exact wp_value rfl ⟨_, rfl, hR, hk, fun _ _ h => h⟩
  · intro a w' hS hR hG
    have hk : RowsAt w' (a.tmps.getD 0 undef) := hG 30 _ 0 rfl rfl
    have hB8 := hB7.trans (hR.mono hB7.size)
    have hd : a.defers = [] := hS.2.1
    clear hG hS
    go_wp2
    obtain ⟨v, hv⟩ : ∃ v, a.tmps.getD 0 undef = v := ⟨_, rfl⟩
    rw [hv] at hk
    have h0 := getD_at hv
    exact bodyPost_ret (v := v) (by simp [results, Tryz.results103, go_sem, h0]) hd ⟨_, rfl, hk, hB8⟩
end Go.Proofs.YtfjhjhjdneihbaaGreatDoor
