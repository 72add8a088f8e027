/-
  Plain laws on changes that are slid on: no program, no world.
-/
import Derived.Test.YtmomeemkdfoklaaDoorE2
namespace Go.Proofs.YtmomeemkdfoklaaDoor.Ed

/-- by how many places a block of n numbers from the place p on slides, ahead of lim -/
def go1 (row : List Int) (n : Int) : Nat → Int → Int → Nat
  | 0, _, _ => 0
  | f + 1, p, lim => if p + n < lim ∧ row[p.toNat]? = row[(p + n).toNat]? then go1 row n f (p + 1) lim + 1 else 0
def farI (row : List Int) (p n lim : Int) : Nat := go1 row n (lim - p - n).toNat p lim
def Far (row : List Int) (p n lim : Int) (k : Nat) : Prop := (∀ i : Nat, i < k → p + i + n < lim ∧ row[(p + i).toNat]? = row[(p + i + n).toNat]?) ∧ ¬(p + k + n < lim ∧ row[(p + k).toNat]? = row[(p + k + n).toNat]?)
theorem go1_far (row : List Int) (n : Int) : ∀ (f : Nat) (p lim : Int), lim - p - n ≤ f → Far row p n lim (go1 row n f p lim)
  | 0, p, lim, h => ⟨fun i hi => absurd hi (by simp [go1]), fun h' => by have := h'.1; simp [go1] at this; omega⟩
  | f + 1, p, lim, h => by
    unfold go1
    split
    · rename_i hc
      obtain ⟨h1, h2⟩ := go1_far row n f (p + 1) lim (by omega)
      refine ⟨fun i hi => ?_, ?_⟩
      · cases i with
        | zero => simpa using hc
        | succ i =>
          have := h1 i (by omega)
          rw [show p + ((i + 1 : Nat) : Int) = p + 1 + i by omega]
          exact this
      · rw [show p + ((go1 row n f (p + 1) lim + 1 : Nat) : Int) = p + 1 + (go1 row n f (p + 1) lim : Nat) by omega]
        exact h2
    · rename_i hc
      exact ⟨fun i hi => absurd hi (by simp), by simpa using hc⟩
theorem farI_far (row : List Int) (p n lim : Int) : Far row p n lim (farI row p n lim) := go1_far row n _ p lim (by omega)
theorem Far.uniq {row : List Int} {p n lim : Int} {j k : Nat} (hj : Far row p n lim j) (hk : Far row p n lim k) : j = k := by
  rcases Nat.lt_trichotomy j k with h | h | h
  · exact absurd (hk.1 j h) hj.2
  · exact h
  · exact absurd (hj.1 k h) hk.2
theorem Far.le {row : List Int} {p n lim : Int} {k : Nat} (h : Far row p n lim k) (h0 : 0 ≤ n) : p + k ≤ lim ∨ k = 0 := by
  rcases Nat.eq_zero_or_pos k with e | e
  · exact .inr e
  · have := (h.1 (k - 1) (by omega)).1
    exact .inl (by omega)
def mv (c : Ch) (k : Nat) : Ch := ⟨c.a + k, c.n, c.b + k, c.m⟩
def nxt (out : List Ch) (n m : Int) : Int × Int := match out with
  | [] => (n, m)
  | d :: _ => (d.a, d.b)
def slid (a b : List Int) (na nb : Int) (c : Ch) : Ch := if c.m = 0 then mv c (farI a c.a c.n na) else if c.n = 0 then mv c (farI b c.b c.m nb) else c
def put1 (c : Ch) (out : List Ch) : List Ch := match out with
  | [] => [c]
  | d :: t => if c.a + c.n = d.a then ⟨c.a, c.n + d.n, c.b, c.m + d.m⟩ :: t else c :: d :: t
theorem put1_yes {c d : Ch} {t : List Ch} (h : c.a + c.n = d.a) : put1 c (d :: t) = ⟨c.a, c.n + d.n, c.b, c.m + d.m⟩ :: t := if_pos h
theorem put1_no {c d : Ch} {t : List Ch} (h : ¬c.a + c.n = d.a) : put1 c (d :: t) = c :: d :: t := if_neg h
def slideL (a b : List Int) : List Ch → List Ch
  | [] => []
  | c :: r => put1 (slid a b (nxt (slideL a b r) a.length b.length).1 (nxt (slideL a b r) a.length b.length).2 c) (slideL a b r)

/-! ### what stays so -/
theorem val_next {out : List Ch} {x y n m : Int} (h : val out x y n m = true) (hx : x ≤ n) : x ≤ (nxt out n m).1 ∧ (nxt out n m).1 - x = (nxt out n m).2 - y ∧ (nxt out n m).1 ≤ n ∧ (nxt out n m).2 ≤ m := by
  cases out with
  | nil =>
    have : n - x = m - y := by simpa [val] using h
    simp only [nxt]; omega
  | cons d t =>
    obtain ⟨⟨h1, h2, h3, h4⟩, _⟩ := val_cons.1 h
    simp only [nxt]; omega
theorem val_on {out : List Ch} {x y n m : Int} (h : val out x y n m = true) (k : Nat) (hk : x + k ≤ (nxt out n m).1) : val out (x + k) (y + k) n m = true := by
  cases out with
  | nil =>
    have : n - x = m - y := by simpa [val] using h
    simp only [val, decide_eq_true_eq]; omega
  | cons d t =>
    obtain ⟨⟨h1, h2, h3, h4⟩, h5⟩ := val_cons.1 h
    simp only [nxt] at hk
    exact val_cons.2 ⟨⟨⟨by omega, h1.2⟩, ⟨by omega, h2.2⟩, h3, by omega⟩, h5⟩
theorem prs_on {out : List Ch} {x y n m : Int} (k : Nat) (hk : x + k ≤ (nxt out n m).1) : prs out n x y = exN x y k ++ prs out n (x + k) (y + k) := by
  cases out with
  | nil =>
    simp only [nxt] at hk
    rw [prs_nil, prs_nil, show (n - x).toNat = k + (n - (x + k)).toNat by omega, exN_add]
  | cons d t =>
    simp only [nxt] at hk
    rw [prs_cons, prs_cons, show (d.a - x).toNat = k + (d.a - (x + k)).toNat by omega, exN_add, List.append_assoc]
theorem fitsP_app {a b : List Int} {P Q : List Pr} : fitsP a b (P ++ Q) = true ↔ fitsP a b P = true ∧ fitsP a b Q = true := by
  unfold fitsP
  rw [List.all_append, Bool.and_eq_true]
/-- slid by k places, over numbers that are alike -/
theorem mv_fine {a b : List Int} {c : Ch} {out : List Ch} {x y : Int} {k : Nat} (hv : val (c :: out) x y a.length b.length = true) (hf : fitsP a b (prs (c :: out) a.length x y) = true)
    (hk : c.a + c.n + k ≤ (nxt out a.length b.length).1) (he : (c.m = 0 ∧ ∀ i : Nat, i < k → a[(c.a + i).toNat]? = a[(c.a + i + c.n).toNat]?) ∨ (c.n = 0 ∧ ∀ i : Nat, i < k → b[(c.b + i).toNat]? = b[(c.b + i + c.m).toNat]?)) :
    val (mv c k :: out) x y a.length b.length = true ∧ fitsP a b (prs (mv c k :: out) a.length x y) = true := by
  obtain ⟨⟨h1, h2, h3, h4⟩, hr⟩ := val_cons.1 hv
  have hn := val_next hr (by omega)
  have hr' := val_on hr k hk
  rw [prs_cons, fitsP_app] at hf
  obtain ⟨f1, f2⟩ := hf
  rw [prs_on (m := b.length) k hk, fitsP_app, exN_all] at f2
  obtain ⟨f2, f3⟩ := f2
  refine ⟨val_cons.2 ⟨⟨⟨by simp only [mv]; omega, by simp only [mv]; omega⟩, ⟨by simp only [mv]; omega, by simp only [mv]; omega⟩, h3, by simp only [mv]; omega⟩, ?_⟩, ?_⟩
  · simp only [mv]
    rw [show c.a + (k : Int) + c.n = c.a + c.n + k by omega, show c.b + (k : Int) + c.m = c.b + c.m + k by omega]
    exact hr'
  · rw [prs_cons, fitsP_app]
    simp only [mv]
    rw [show c.a + (k : Int) + c.n = c.a + c.n + k by omega, show c.b + (k : Int) + c.m = c.b + c.m + k by omega]
    refine ⟨?_, f3⟩
    rw [show (c.a + (k : Int) - x).toNat = (c.a - x).toNat + k by omega, exN_add, fitsP_app]
    refine ⟨f1, ?_⟩
    rw [exN_all]
    intro i hi
    rw [show x + ((c.a - x).toNat : Int) + (i : Int) = c.a + i by omega, show y + ((c.a - x).toNat : Int) + (i : Int) = c.b + i by omega]
    have e := f2 i hi
    rcases he with ⟨e0, e1⟩ | ⟨e0, e1⟩
    · rw [e1 i hi, show c.a + (i : Int) + c.n = c.a + c.n + i by omega, e, show c.b + c.m + (i : Int) = c.b + i by omega]
    · rw [e1 i hi, show c.b + (i : Int) + c.m = c.b + c.m + i by omega, ← e, show c.a + c.n + (i : Int) = c.a + i by omega]
theorem slid_fine {a b : List Int} {c : Ch} {out : List Ch} {x y : Int} (hv : val (c :: out) x y a.length b.length = true) (hf : fitsP a b (prs (c :: out) a.length x y) = true) :
    let c' := slid a b (nxt out a.length b.length).1 (nxt out a.length b.length).2 c
    (∃ k, c' = mv c k) ∧ val (c' :: out) x y a.length b.length = true ∧ fitsP a b (prs (c' :: out) a.length x y) = true := by
  obtain ⟨⟨h1, h2, h3, h4⟩, hr⟩ := val_cons.1 hv
  have hn := val_next hr (by omega)
  intro c'
  have e0 : mv c 0 = c := by simp [mv]
  have hc' : c' = slid a b (nxt out a.length b.length).1 (nxt out a.length b.length).2 c := rfl
  unfold slid at hc'
  split at hc'
  · have hfar := farI_far a c.a c.n (nxt out a.length b.length).1
    rw [hc']
    refine ⟨⟨_, rfl⟩, mv_fine hv hf ?_ (.inl ⟨by assumption, fun i hi => (hfar.1 i hi).2⟩)⟩
    rcases Nat.eq_zero_or_pos (farI a c.a c.n (nxt out a.length b.length).1) with e | e
    · rw [e]; simp; exact hn.1
    · have := (hfar.1 (farI a c.a c.n (nxt out a.length b.length).1 - 1) (by omega)).1; omega
  · split at hc'
    · have hfar := farI_far b c.b c.m (nxt out a.length b.length).2
      rw [hc']
      refine ⟨⟨_, rfl⟩, mv_fine hv hf ?_ (.inr ⟨by assumption, fun i hi => (hfar.1 i hi).2⟩)⟩
      rcases Nat.eq_zero_or_pos (farI b c.b c.m (nxt out a.length b.length).2) with e | e
      · rw [e]; simp; exact hn.1
      · have := (hfar.1 (farI b c.b c.m (nxt out a.length b.length).2 - 1) (by omega)).1; omega
    · rw [hc']
      exact ⟨⟨0, e0.symm⟩, hv, hf⟩
theorem slide_fine {a b : List Int} : ∀ (s : List Ch) {x y : Int}, 0 ≤ x → 0 ≤ y → x ≤ a.length → val s x y a.length b.length = true → fitsP a b (prs s a.length x y) = true →
    val (slideL a b s) x y a.length b.length = true ∧ fitsP a b (prs (slideL a b s) a.length x y) = true ∧ apart (slideL a b s) ∧ goneS (slideL a b s) = goneS s ∧ comeS (slideL a b s) = comeS s
  | [], x, y, _, _, _, hv, hf => ⟨hv, hf, trivial, rfl, rfl⟩
  | c :: r, x, y, hx, hy, hxn, hv, hf => by
    obtain ⟨hc, hr⟩ := val_cons.1 hv
    have hf0 := hf
    rw [prs_cons, fitsP_app] at hf
    have h1 := hc.1
    have h2 := hc.2.1
    obtain ⟨i1, i2, i3, i4, i5⟩ := slide_fine r (by omega) (by omega) (by omega) hr hf.2
    have g1 : val (c :: slideL a b r) x y a.length b.length = true := val_cons.2 ⟨hc, i1⟩
    have g2 : fitsP a b (prs (c :: slideL a b r) a.length x y) = true := by
      rw [prs_cons, fitsP_app]; exact ⟨hf.1, i2⟩
    obtain ⟨⟨k, hk⟩, j1, j2⟩ := slid_fine g1 g2
    unfold slideL
    generalize slid a b (nxt (slideL a b r) a.length b.length).1 (nxt (slideL a b r) a.length b.length).2 c = c' at hk j1 j2 ⊢
    have en : c'.n = c.n := by rw [hk]; rfl
    have em : c'.m = c.m := by rw [hk]; rfl
    generalize slideL a b r = out at *
    have hg : goneS (c :: r) = c.n + goneS r := by simp [goneS]
    have hcm : comeS (c :: r) = c.m + comeS r := by simp [comeS]
    cases out with
    | nil =>
      refine ⟨j1, j2, ⟨fun d hd => (by cases hd), trivial⟩, ?_, ?_⟩
      · rw [hg, ← i4]; simp [put1, goneS, en]
      · rw [hcm, ← i5]; simp [put1, comeS, em]
    | cons d t =>
      by_cases hm : c'.a + c'.n = d.a
      · rw [put1_yes hm]
        obtain ⟨⟨k1, k2, k3, k4⟩, j3⟩ := val_cons.1 j1
        obtain ⟨⟨l1, l2, l3, l4⟩, j4⟩ := val_cons.1 j3
        refine ⟨val_cons.2 ⟨⟨⟨k1.1, by simp only; omega, by simp only; omega⟩, ⟨k2.1, by simp only; omega, by simp only; omega⟩, by simp only; omega, k4⟩, ?_⟩, ?_, ⟨?_, i3.2⟩, ?_, ?_⟩
        · simp only
          rw [show c'.a + (c'.n + d.n) = d.a + d.n by omega, show c'.b + (c'.m + d.m) = d.b + d.m by omega]
          exact j4
        · rw [prs_cons, prs_cons, show (d.a - (c'.a + c'.n)).toNat = 0 by omega] at j2
          rw [prs_cons]
          simp only
          rw [show c'.a + (c'.n + d.n) = d.a + d.n by omega, show c'.b + (c'.m + d.m) = d.b + d.m by omega]
          simpa [exN] using j2
        · intro e he
          have := i3.1 e he
          simp only
          omega
        · rw [hg, ← i4, ← en]; simp [goneS]; omega
        · rw [hcm, ← i5, ← em]; simp [comeS]; omega
      · rw [put1_no hm]
        refine ⟨j1, j2, ⟨fun e he => ?_, i3⟩, ?_, ?_⟩
        · simp at he; subst he; exact hm
        · rw [hg, ← i4, ← en]; simp [goneS]
        · rw [hcm, ← i5, ← em]; simp [comeS]
theorem slide_Val {a b : List Int} {s : List Ch} (h : Val s a.length b.length) (hf : fitsP a b (prs s a.length 0 0) = true) :
    Val (slideL a b s) a.length b.length ∧ fitsP a b (prs (slideL a b s) a.length 0 0) = true ∧ apart (slideL a b s) ∧ goneS (slideL a b s) = goneS s ∧ comeS (slideL a b s) = comeS s := by
  obtain ⟨h1, h2, h3⟩ := h
  obtain ⟨i1, i2, i3, i4, i5⟩ := slide_fine s (Int.le_refl 0) (Int.le_refl 0) (by have := (cnt_iff.1 h1).1; omega) h3 hf
  exact ⟨⟨h1, h2, i1⟩, i2, i3, i4, i5⟩

/-! ### as the program slides: what was slid over already is passed in one step -/
def Kn (row : List Int) (lim : Int) (bg : Int → Int) : Prop := ∀ n, 0 < bg n → ∀ q : Int, bg n ≤ q → q + n < lim → row[q.toNat]? = row[(q + n).toNat]?
theorem Kn.less {row : List Int} {lim lim' : Int} {bg : Int → Int} (h : Kn row lim bg) (hl : lim' ≤ lim) : Kn row lim' bg := fun n h0 q hq hl' => h n h0 q hq (by omega)
theorem Kn.add {row : List Int} {lim p n : Int} {bg : Int → Int} {k : Nat} (h : Kn row lim bg) (h0 : 0 ≤ n) (hk : Far row p n lim k) (hl : p + k ≤ lim) : Kn row (p + k) (fun x => if x = n then p else bg x) := by
  intro x hx q hq hql
  simp only at hx hq
  split at hq
  · rename_i e
    subst e
    have := (hk.1 (q - p).toNat (by omega)).2
    rw [show p + ((q - p).toNat : Int) = q by omega] at this
    exact this
  · rename_i e
    rw [if_neg e] at hx
    exact h x hx q hq (by omega)
end Go.Proofs.YtmomeemkdfoklaaDoor.Ed
