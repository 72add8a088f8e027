/-
  Plain: the sides, the script by marks, the whole.
-/
import Derived.Test.YtdilmgcdebobaaaM4
namespace Go.Proofs.Ytdilmgcdebobaaa.My
open Ed (Ch Pr)

/-! ### marks by place -/
def spread (p : Int → Bool) : List Int → List Bool → List Bool
  | [], _ => []
  | x :: l, m => if p x then m.headD false :: spread p l m.tail else true :: spread p l m
theorem spread_len (p : Int → Bool) : ∀ (l : List Int) (m : List Bool), (spread p l m).length = l.length
  | [], _ => rfl
  | x :: l, m => by
    rw [spread]
    split
    · rw [List.length_cons, List.length_cons, spread_len p l]
    · rw [List.length_cons, List.length_cons, spread_len p l]
theorem spread_kept (p : Int → Bool) : ∀ (l : List Int) (m : List Bool), m.length = (l.filter p).length → kept l (spread p l m) = kept (l.filter p) m
  | [], m, _ => by cases m <;> rfl
  | x :: l, m, h => by
    rw [spread]
    by_cases hp : p x = true
    · rw [if_pos hp, List.filter_cons_of_pos hp]
      rw [List.filter_cons_of_pos hp, List.length_cons] at h
      cases m with
      | nil => simp at h
      | cons v r =>
        have ih := spread_kept p l r (by simpa using h)
        rw [List.headD_cons, List.tail_cons, kept, kept, ih]
    · rw [if_neg hp, List.filter_cons_of_neg hp, kept, if_pos rfl]
      rw [List.filter_cons_of_neg hp] at h
      exact spread_kept p l m h

/-! ### the script by marks -/
def mk0 : List Bool → Nat
  | true :: l => mk0 l + 1
  | _ => 0
def fpos : List Bool → Int → List Int
  | [], _ => []
  | m :: l, x => if m then fpos l (x + 1) else x :: fpos l (x + 1)
def scr : Nat → List Bool → List Bool → Int → Int → List Ch
  | 0, _, _, _, _ => []
  | f + 1, g, c, x, y =>
    if g.length = 0 ∧ c.length = 0 then []
    else if mk0 g = 0 ∧ mk0 c = 0 then scr f (g.drop 1) (c.drop 1) (x + 1) (y + 1)
    else ⟨x, mk0 g, y, mk0 c⟩ :: scr f (g.drop (mk0 g)) (c.drop (mk0 c)) (x + mk0 g) (y + mk0 c)
theorem mk0_le : ∀ l : List Bool, mk0 l ≤ l.length
  | [] => Nat.le_refl _
  | true :: l => by rw [mk0, List.length_cons]; have := mk0_le l; omega
  | false :: l => by simp [mk0]
theorem fpos_skip : ∀ (l : List Bool) (x : Int), fpos l x = fpos (l.drop (mk0 l)) (x + mk0 l)
  | [], x => by simp [fpos]
  | true :: l, x => by
    rw [mk0, List.drop_succ_cons, fpos, if_pos rfl, fpos_skip l (x + 1)]
    congr 1; omega
  | false :: l, x => by simp [mk0]
theorem mk0_drop : ∀ l : List Bool, mk0 (l.drop (mk0 l)) = 0
  | [] => rfl
  | true :: l => by rw [mk0, List.drop_succ_cons]; exact mk0_drop l
  | false :: l => by simp [mk0]
theorem fpos_head : ∀ (l : List Bool) (x : Int), mk0 l = 0 → (l = [] ∧ fpos l x = []) ∨ fpos l x = x :: fpos (l.drop 1) (x + 1)
  | [], _, _ => .inl ⟨rfl, rfl⟩
  | true :: l, x, h => by simp [mk0] at h
  | false :: l, x, _ => by right; simp [fpos]
theorem fpos_len0 : ∀ (l : List Bool) (x x' : Int), (fpos l x).length = (fpos l x').length
  | [], _, _ => rfl
  | true :: l, x, x' => by rw [fpos, fpos, if_pos rfl, if_pos rfl]; exact fpos_len0 l _ _
  | false :: l, x, x' => by rw [fpos, fpos, if_neg (by decide), if_neg (by decide), List.length_cons, List.length_cons, fpos_len0 l]
theorem scr_eq : ∀ (f : Nat) (g c : List Bool) (x y : Int), 2 * (g.length + c.length) + (if mk0 g = 0 ∧ mk0 c = 0 then 0 else 1) < f → (fpos g x).length = (fpos c y).length →
    scr f g c x y = Ed.ofL ((fpos g x).zip (fpos c y)) x y (x + g.length) (y + c.length)
  | 0, g, c, x, y, h, _ => by omega
  | f + 1, g, c, x, y, h, hl => by
    rw [scr]
    by_cases h0 : g.length = 0 ∧ c.length = 0
    · rw [if_pos h0]
      obtain ⟨e1, e2⟩ := h0
      rw [List.length_eq_zero_iff] at e1 e2
      subst e1 e2
      simp [fpos, Ed.ofL, Ed.gap_same]
    · rw [if_neg h0]
      by_cases hz : mk0 g = 0 ∧ mk0 c = 0
      · rw [if_pos hz]
        rw [if_pos hz] at h
        rcases fpos_head g x hz.1 with ⟨e1, e2⟩ | e2
        · rcases fpos_head c y hz.2 with ⟨e3, e4⟩ | e4
          · subst e1 e3; exact absurd ⟨rfl, rfl⟩ h0
          · rw [e2, e4] at hl; simp at hl
        · rcases fpos_head c y hz.2 with ⟨e3, e4⟩ | e4
          · rw [e2, e4] at hl; simp at hl
          · have hg : 0 < g.length := by
              rcases Nat.eq_zero_or_pos g.length with q | q
              · rw [List.length_eq_zero_iff] at q; subst q; simp [fpos] at e2
              · exact q
            have hc : 0 < c.length := by
              rcases Nat.eq_zero_or_pos c.length with q | q
              · rw [List.length_eq_zero_iff] at q; subst q; simp [fpos] at e4
              · exact q
            rw [e2, e4] at hl
            have ih := scr_eq f (g.drop 1) (c.drop 1) (x + 1) (y + 1) (by rw [List.length_drop, List.length_drop]; split <;> omega) (by simpa using hl)
            rw [ih, e2, e4, List.zip_cons_cons, Ed.ofL, Ed.gap_same, List.nil_append, List.length_drop, List.length_drop]
            congr 1 <;> omega
      · rw [if_neg hz]
        rw [if_neg hz] at h
        have l1 := mk0_le g
        have l2 := mk0_le c
        have hsk : (fpos (g.drop (mk0 g)) (x + mk0 g)).length = (fpos (c.drop (mk0 c)) (y + mk0 c)).length := by rw [← fpos_skip, ← fpos_skip]; exact hl
        have ih := scr_eq f (g.drop (mk0 g)) (c.drop (mk0 c)) (x + mk0 g) (y + mk0 c) (by rw [List.length_drop, List.length_drop, if_pos ⟨mk0_drop g, mk0_drop c⟩]; omega) hsk
        rw [ih, fpos_skip g x, fpos_skip c y, List.length_drop, List.length_drop]
        have e5 : x + (mk0 g : Int) + ((g.length - mk0 g : Nat) : Int) = x + g.length := by omega
        have e6 : y + (mk0 c : Int) + ((c.length - mk0 c : Nat) : Int) = y + c.length := by omega
        rw [e5, e6]
        rcases fpos_head (g.drop (mk0 g)) (x + mk0 g) (mk0_drop g) with ⟨q1, q2⟩ | q2
        · rcases fpos_head (c.drop (mk0 c)) (y + mk0 c) (mk0_drop c) with ⟨q3, q4⟩ | q4
          · have z1 : mk0 g = g.length := by have := congrArg List.length q1; rw [List.length_drop, List.length_nil] at this; omega
            have z2 : mk0 c = c.length := by have := congrArg List.length q3; rw [List.length_drop, List.length_nil] at this; omega
            rw [q2, q4, List.zip_nil_left, Ed.ofL, Ed.ofL, z1, z2, Ed.gap_same]
            unfold Ed.gap
            rw [if_pos (by omega)]
            congr 2 <;> omega
          · rw [q2, q4] at hsk; simp at hsk
        · rcases fpos_head (c.drop (mk0 c)) (y + mk0 c) (mk0_drop c) with ⟨q3, q4⟩ | q4
          · rw [q2, q4] at hsk; simp at hsk
          · rw [q2, q4, List.zip_cons_cons, Ed.ofL, Ed.ofL, Ed.gap_same, List.nil_append]
            unfold Ed.gap
            rw [if_pos (by omega), List.singleton_append]
            congr 2 <;> omega
/-! ### places and numbers -/
theorem fpos_rise : ∀ (g c : List Bool) (x y n m : Int), x + g.length ≤ n → y + c.length ≤ m → ∀ (x' y' : Int), x' ≤ x → y' ≤ y → Ed.rise ((fpos g x).zip (fpos c y)) x' y' n m = true := by
  -- by the places on both sides at once
  have key : ∀ (g : List Bool) (x : Int), (fpos g x).Pairwise (· < ·) ∧ ∀ z ∈ fpos g x, x ≤ z ∧ z < x + g.length := by
    intro g
    induction g with
    | nil => intro x; simp [fpos]
    | cons m l ih =>
      intro x
      obtain ⟨h1, h2⟩ := ih (x + 1)
      rw [fpos]
      split
      · exact ⟨h1, fun z hz => by have := h2 z hz; rw [List.length_cons]; omega⟩
      · refine ⟨List.pairwise_cons.2 ⟨fun z hz => by have := h2 z hz; omega, h1⟩, fun z hz => ?_⟩
        rcases List.mem_cons.1 hz with rfl | hz
        · rw [List.length_cons]; omega
        · have := h2 z hz; rw [List.length_cons]; omega
  have zipR : ∀ (p q : List Int), p.Pairwise (· < ·) → q.Pairwise (· < ·) → ∀ (n m x' y' : Int), (∀ z ∈ p, x' ≤ z ∧ z < n) → (∀ z ∈ q, y' ≤ z ∧ z < m) → Ed.rise (p.zip q) x' y' n m = true := by
    intro p
    induction p with
    | nil => intro q _ _ n m x' y' _ _; rfl
    | cons z p ih =>
      intro q hp hq n m x' y' h1 h2
      cases q with
      | nil => rfl
      | cons w q =>
        rw [List.zip_cons_cons, Ed.rise_cons]
        obtain ⟨a1, a2⟩ := List.pairwise_cons.1 hp
        obtain ⟨b1, b2⟩ := List.pairwise_cons.1 hq
        have c1 := h1 z (List.mem_cons_self ..)
        have c2 := h2 w (List.mem_cons_self ..)
        exact ⟨⟨⟨c1.1, c1.2⟩, c2.1, c2.2⟩, ih q a2 b2 n m _ _ (fun u hu => ⟨by have := a1 u hu; omega, (h1 u (List.mem_cons_of_mem _ hu)).2⟩) (fun u hu => ⟨by have := b1 u hu; omega, (h2 u (List.mem_cons_of_mem _ hu)).2⟩)⟩
  intro g c x y n m hn hm x' y' hx hy
  obtain ⟨g1, g2⟩ := key g x
  obtain ⟨k1, k2⟩ := key c y
  exact zipR _ _ g1 k1 n m x' y' (fun z hz => by have := g2 z hz; omega) (fun z hz => by have := k2 z hz; omega)
/-- the numbers that stay, by their places in a longer row -/
theorem fpos_kept : ∀ (g : List Bool) (A pre suf : List Int), g.length = A.length → (fpos g pre.length).map (fun z => (pre ++ (A ++ suf))[z.toNat]?) = (kept A g).map some
  | [], A, pre, suf, h => by
    have : A = [] := List.length_eq_zero_iff.1 h.symm
    subst this; rfl
  | m :: g, [], pre, suf, h => by simp at h
  | m :: g, u :: A, pre, suf, h => by
    have ih := fpos_kept g A (pre ++ [u]) suf (by simpa using h)
    rw [List.length_append, List.length_singleton] at ih
    have e : (pre ++ [u]) ++ (A ++ suf) = pre ++ (u :: A ++ suf) := by simp
    rw [e] at ih
    have e2 : (((pre.length + 1 : Nat)) : Int) = (pre.length : Int) + 1 := by omega
    rw [e2] at ih
    rw [fpos, kept]
    cases m with
    | true => rw [if_pos rfl, if_pos rfl]; exact ih
    | false =>
      rw [if_neg (by decide), if_neg (by decide), List.map_cons, List.map_cons, ih]
      congr 1
      simp
theorem fpos_count : ∀ (g : List Bool) (A : List Int) (x : Int), g.length = A.length → (fpos g x).length = (kept A g).length
  | [], A, x, h => by
    have : A = [] := List.length_eq_zero_iff.1 h.symm
    subst this; rfl
  | m :: g, [], x, h => by simp at h
  | m :: g, u :: A, x, h => by
    have ih := fpos_count g A (x + 1) (by simpa using h)
    rw [fpos, kept]
    cases m with
    | true => rw [if_pos rfl, if_pos rfl]; exact ih
    | false => rw [if_neg (by decide), if_neg (by decide), List.length_cons, List.length_cons, ih]
theorem zip_fits {a b : List Int} : ∀ (p q : List Int), p.map (fun z => a[z.toNat]?) = q.map (fun z => b[z.toNat]?) → Ed.fitsP a b (p.zip q) = true
  | [], _, _ => rfl
  | z :: p, [], h => by simp at h
  | z :: p, w :: q, h => by
    rw [List.map_cons, List.map_cons] at h
    obtain ⟨h1, h2⟩ := List.cons.inj h
    show (Ed.eqP a b (z, w) && Ed.fitsP a b (p.zip q)) = true
    rw [zip_fits p q h2, Bool.and_true]
    unfold Ed.eqP
    rw [beq_iff_eq]
    exact h1
/-! ### the ends -/
theorem ofL_tail {t : Nat} {X Y : Int} : ∀ (P : List Pr) (x y : Int), Ed.ofL (P ++ Ed.exN X Y t) x y (X + t) (Y + t) = Ed.ofL P x y X Y
  | [], x, y => by
    rw [List.nil_append]
    rcases Nat.eq_zero_or_pos t with rfl | ht
    · simp [Ed.exN]
    · have := Ed.ofL_exN (x := X) (y := Y) (a := x) (b := y) (n := X + t) (m := Y + t) (P := []) ht
      rw [List.append_nil] at this
      rw [this, Ed.ofL, Ed.ofL, Ed.gap_same, List.append_nil]
  | p :: P, x, y => by rw [List.cons_append, Ed.ofL, Ed.ofL, ofL_tail P]
theorem ofL_headE {h : Nat} {P : List Pr} {n m : Int} : Ed.ofL (Ed.exN 0 0 h ++ P) 0 0 n m = Ed.ofL P h h n m := by
  rcases Nat.eq_zero_or_pos h with rfl | hh
  · simp [Ed.exN]
  · rw [Ed.ofL_exN hh, Ed.gap_same, List.nil_append, Int.zero_add]

/-! ### the whole -/
def inL (l : List Int) (x : Int) : Bool := decide (x ∈ l)
def nA (A B : List Int) : List Int := A.filter (inL B)
def nB (A B : List Int) : List Int := B.filter (inL (nA A B))
def mks (A B : List Int) : List Bool × List Bool := mkM ((nA A B).length + (nB A B).length + 1) (nA A B) (nB A B)
def gA (A B : List Int) : List Bool := spread (inL B) A (mks A B).1
def gB (A B : List Int) : List Bool := spread (inL (nA A B)) B (mks A B).2
def myD (a b : List Int) : List Ch := scr (2 * (a.length + b.length) + 2) (gA (cm a b a) (cm a b b)) (gB (cm a b a) (cm a b b)) (hd a b) (hd a b)
def myP (a b : List Int) : List Pr :=
  Ed.exN 0 0 (hd a b) ++ (((fpos (gA (cm a b a) (cm a b b)) (hd a b)).zip (fpos (gB (cm a b a) (cm a b b)) (hd a b))) ++ Ed.exN ((a.length : Int) - tl a b (hd a b)) ((b.length : Int) - tl a b (hd a b)) (tl a b (hd a b)))
theorem marks_spec (A B : List Int) : (gA A B).length = A.length ∧ (gB A B).length = B.length ∧ kept A (gA A B) = kept B (gB A B) ∧ (kept A (gA A B)).length = lcs A B := by
  obtain ⟨h1, h2, h3, h4⟩ := mk_spec ((nA A B).length + (nB A B).length + 1) (nA A B) (nB A B) (Nat.lt_succ_self _)
  unfold gA gB mks
  rw [spread_kept _ _ _ h1, spread_kept _ _ _ h2]
  refine ⟨spread_len _ _ _, spread_len _ _ _, h3, ?_⟩
  have e1 : lcs (nA A B) (nB A B) = lcs (nA A B) B := by
    rw [lcs_comm, lcs_comm (nA A B) B]
    exact lcs_filter _ B (nA A B) (fun x hx => decide_eq_true hx)
  have e2 : lcs (nA A B) B = lcs A B := lcs_filter _ A B (fun x hx => decide_eq_true hx)
  show (kept (nA A B) _).length = _
  rw [h4, e1, e2]
theorem exN_fits {a b : List Int} : ∀ (k : Nat) (x y : Nat), (∀ i, i < k → a[x + i]? = b[y + i]?) → Ed.fitsP a b (Ed.exN x y k) = true := by
  intro k x y h
  rw [Ed.exN_all]
  intro i hi
  rw [show ((x : Int) + (i : Int)).toNat = x + i by omega, show ((y : Int) + (i : Int)).toNat = y + i by omega]
  exact h i hi
theorem myD_eq (a b : List Int) : myD a b = Ed.ofL (myP a b) 0 0 a.length b.length := by
  have h1 := hd_le a b
  have h2 := tl_le a b (hd a b)
  obtain ⟨c1, c2⟩ := cm_len a b
  obtain ⟨m1, m2, m3, m4⟩ := marks_spec (cm a b a) (cm a b b)
  unfold myD myP
  rw [scr_eq _ _ _ _ _ (by split <;> omega) (by rw [fpos_count _ _ _ m1, fpos_count _ _ _ m2, m3]), ofL_headE]
  have e1 : (a.length : Int) = (a.length : Int) - tl a b (hd a b) + tl a b (hd a b) := by omega
  have e2 : (b.length : Int) = (b.length : Int) - tl a b (hd a b) + tl a b (hd a b) := by omega
  have ht := ofL_tail (t := tl a b (hd a b)) (X := (a.length : Int) - tl a b (hd a b)) (Y := (b.length : Int) - tl a b (hd a b)) ((fpos (gA (cm a b a) (cm a b b)) (hd a b)).zip (fpos (gB (cm a b a) (cm a b b)) (hd a b))) (hd a b) (hd a b)
  rw [← e1, ← e2] at ht
  rw [ht]
  congr 1 <;> omega
theorem myP_spec (a b : List Int) : Ed.rise (myP a b) 0 0 a.length b.length = true ∧ Ed.fitsP a b (myP a b) = true ∧ (myP a b).length = lcs a b := by
  have h1 := hd_le a b
  have h2 := tl_le a b (hd a b)
  obtain ⟨c1, c2⟩ := cm_len a b
  obtain ⟨m1, m2, m3, m4⟩ := marks_spec (cm a b a) (cm a b b)
  have ea := cm_a a b
  have eb := cm_b a b
  have hpl : (a.take (hd a b)).length = hd a b := by rw [List.length_take]; omega
  have hpf := fpos_kept (gA (cm a b a) (cm a b b)) (cm a b a) (a.take (hd a b)) (a.drop (a.length - tl a b (hd a b))) m1
  have hqf := fpos_kept (gB (cm a b a) (cm a b b)) (cm a b b) (a.take (hd a b)) (a.drop (a.length - tl a b (hd a b))) m2
  rw [hpl, ← ea] at hpf
  rw [hpl, ← eb] at hqf
  have n1 := fpos_count _ _ (hd a b : Int) m1
  have n2 := fpos_count _ _ (hd a b : Int) m2
  have hL := cm_lcs a b
  unfold myP
  generalize gA (cm a b a) (cm a b b) = G at *
  generalize gB (cm a b a) (cm a b b) = C at *
  refine ⟨?_, ?_, ?_⟩
  · refine Ed.rise_exN (Int.le_refl _) (Int.le_refl _) (by omega) ?_
    rw [Int.zero_add]
    have key : ∀ (P : List Pr) (x y X Y : Int) (t : Nat), Ed.rise P x y X Y = true → x ≤ X → y ≤ Y → Ed.rise (P ++ Ed.exN X Y t) x y (X + t) (Y + t) = true := by
      intro P
      induction P with
      | nil =>
        intro x y X Y t _ hx hy
        rw [List.nil_append]
        have := Ed.rise_exN (x := X) (y := Y) (a := x) (b := y) (n := X + t) (m := Y + t) (k := t) (P := []) hx hy (by omega) rfl
        rwa [List.append_nil] at this
      | cons p P ih =>
        intro x y X Y t h hx hy
        rw [Ed.rise_cons] at h
        rw [List.cons_append, Ed.rise_cons]
        exact ⟨by omega, ih _ _ X Y t h.2 (by omega) (by omega)⟩
    have := key _ (hd a b) (hd a b) _ _ (tl a b (hd a b)) (fpos_rise G C (hd a b) (hd a b) ((a.length : Int) - tl a b (hd a b)) ((b.length : Int) - tl a b (hd a b)) (by omega) (by omega) (hd a b) (hd a b) (Int.le_refl _) (Int.le_refl _)) (by omega) (by omega)
    rwa [show (a.length : Int) - tl a b (hd a b) + tl a b (hd a b) = a.length by omega, show (b.length : Int) - tl a b (hd a b) + tl a b (hd a b) = b.length by omega] at this
  · unfold Ed.fitsP
    rw [List.all_append, List.all_append]
    have f1 : (Ed.exN 0 0 (hd a b)).all (Ed.eqP a b) = true := exN_fits (hd a b) 0 0 (fun i hi => by
      have := hd_all a b i hi
      unfold eqAt at this
      rw [Nat.zero_add]
      cases hx : a[i]? with
      | none => rw [hx] at this; simp at this
      | some u =>
        cases hy : b[i]? with
        | none => rw [hx, hy] at this; simp at this
        | some v => rw [hx, hy] at this; simp at this; rw [this])
    have f2 : ((fpos G (hd a b)).zip (fpos C (hd a b))).all (Ed.eqP a b) = true := zip_fits _ _ (by rw [hpf, hqf, m3])
    have f3 : (Ed.exN ((a.length : Int) - tl a b (hd a b)) ((b.length : Int) - tl a b (hd a b)) (tl a b (hd a b))).all (Ed.eqP a b) = true := by
      have := exN_fits (a := a) (b := b) (tl a b (hd a b)) (a.length - tl a b (hd a b)) (b.length - tl a b (hd a b)) (fun i hi => by
        have g1 : a[a.length - tl a b (hd a b) + i]? = (a.drop (a.length - tl a b (hd a b)))[i]? := by rw [List.getElem?_drop]
        have g2 : b[b.length - tl a b (hd a b) + i]? = (a.drop (a.length - tl a b (hd a b)))[i]? := by
          have q := suf_eq a b
          rw [q, List.getElem?_drop]
        rw [g1, g2])
      rwa [show (((a.length - tl a b (hd a b) : Nat)) : Int) = (a.length : Int) - tl a b (hd a b) by omega, show (((b.length - tl a b (hd a b) : Nat)) : Int) = (b.length : Int) - tl a b (hd a b) by omega] at this
    rw [f1, f2, f3]
    rfl
  · rw [List.length_append, List.length_append, Ed.exN_length, Ed.exN_length, List.length_zip, n1, n2, ← m3, m4, hL]
    omega
end Go.Proofs.Ytdilmgcdebobaaa.My
