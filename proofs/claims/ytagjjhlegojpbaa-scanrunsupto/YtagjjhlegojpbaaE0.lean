/-
  Plain laws on edit scripts, the runs and the pairs of lines that stay: no program, no world.
-/
import Derived.Lib.Bytealg
namespace Go.Proofs.Ytagjjhlegojpbaa.Ed

structure Ch where
  a : Int
  n : Int
  b : Int
  m : Int
theorem Ch.ext' {x y : Ch} (h1 : x.a = y.a) (h2 : x.n = y.n) (h3 : x.b = y.b) (h4 : x.m = y.m) : x = y := by
  cases x; cases y; simp_all
instance : DecidableEq Ch := fun x y => decidable_of_iff (x.a = y.a ∧ x.n = y.n ∧ x.b = y.b ∧ x.m = y.m) ⟨fun h => Ch.ext' h.1 h.2.1 h.2.2.1 h.2.2.2, fun h => by subst h; exact ⟨rfl, rfl, rfl, rfl⟩⟩
abbrev Run := Int × Int × Int
abbrev Pr := Int × Int

/-! ### which changes are a script -/
def cnt (n : Int) : Bool := decide (0 ≤ n) && decide (n ≤ 4194304)
theorem cnt_iff {n : Int} : cnt n = true ↔ 0 ≤ n ∧ n ≤ 4194304 := by simp [cnt]
def within (x k done all : Int) : Bool := decide (done ≤ x) && decide (0 ≤ k) && decide (k ≤ all - x)
theorem within_iff {x k done all : Int} : within x k done all = true ↔ done ≤ x ∧ 0 ≤ k ∧ k ≤ all - x := by simp [within, and_assoc]
def okC (a b n m : Int) (c : Ch) : Prop := (a ≤ c.a ∧ 0 ≤ c.n ∧ c.n ≤ n - c.a) ∧ (b ≤ c.b ∧ 0 ≤ c.m ∧ c.m ≤ m - c.b) ∧ ¬(c.n = 0 ∧ c.m = 0) ∧ c.a - a = c.b - b
instance (a b n m : Int) (c : Ch) : Decidable (okC a b n m c) := inferInstanceAs (Decidable (_ ∧ _))
def val : List Ch → Int → Int → Int → Int → Bool
  | [], a, b, n, m => decide (n - a = m - b)
  | c :: r, a, b, n, m => decide (okC a b n m c) && val r (c.a + c.n) (c.b + c.m) n m
theorem val_cons {c : Ch} {r : List Ch} {a b n m : Int} : val (c :: r) a b n m = true ↔ okC a b n m c ∧ val r (c.a + c.n) (c.b + c.m) n m = true := by simp [val]
/-- the error's number -/
def validN (s : List Ch) (n m : Int) : Nat := if cnt n && cnt m then (if val s 0 0 n m then 0 else 60) else 1
def Val (s : List Ch) (n m : Int) : Prop := cnt n = true ∧ cnt m = true ∧ val s 0 0 n m = true
theorem validN_zero {s : List Ch} {n m : Int} : validN s n m = 0 ↔ Val s n m := by
  unfold validN Val
  cases cnt n <;> cases cnt m <;> cases val s 0 0 n m <;> simp

/-! ### runs of lines that stay -/
def run1 (a b k : Int) : List Run := if 0 < k then [(a, b, k)] else []
def runs : List Ch → Int → Int → Int → List Run
  | [], n, a, b => run1 a b (n - a)
  | c :: r, n, a, b => run1 a b (c.a - a) ++ runs r n (c.a + c.n) (c.b + c.m)
def exN (x y : Int) : Nat → List Pr
  | 0 => []
  | k + 1 => (x, y) :: exN (x + 1) (y + 1) k
def ex (r : Run) : List Pr := exN r.1 r.2.1 r.2.2.toNat
def exs (rs : List Run) : List Pr := rs.flatMap ex
def prs (s : List Ch) (n a b : Int) : List Pr := exs (runs s n a b)
theorem exs_append (x y : List Run) : exs (x ++ y) = exs x ++ exs y := List.flatMap_append
theorem exs_run1 (a b k : Int) : exs (run1 a b k) = exN a b k.toNat := by
  unfold run1
  split
  · simp [exs, ex]
  · rw [show k.toNat = 0 by omega]; rfl
theorem prs_nil (n a b : Int) : prs [] n a b = exN a b (n - a).toNat := exs_run1 _ _ _
theorem prs_cons (c : Ch) (r : List Ch) (n a b : Int) : prs (c :: r) n a b = exN a b (c.a - a).toNat ++ prs r n (c.a + c.n) (c.b + c.m) := by
  unfold prs
  rw [runs, exs_append, exs_run1]
theorem exN_add (x y : Int) (j k : Nat) : exN x y (j + k) = exN x y j ++ exN (x + j) (y + j) k := by
  induction j generalizing x y with
  | zero => simp [exN]
  | succ j ih =>
    rw [show j + 1 + k = (j + k) + 1 by omega, exN, exN, ih, List.cons_append]
    congr 2
    congr 1 <;> push_cast <;> omega
theorem exN_length (x y : Int) (k : Nat) : (exN x y k).length = k := by
  induction k generalizing x y with
  | zero => rfl
  | succ k ih => rw [exN, List.length_cons, ih]
theorem exN_get (x y : Int) (k i : Nat) (h : i < k) : (exN x y k)[i]? = some (x + i, y + i) := by
  induction k generalizing x y i with
  | zero => omega
  | succ k ih =>
    rw [exN]
    cases i with
    | zero => simp
    | succ i =>
      rw [List.getElem?_cons_succ, ih _ _ _ (by omega)]
      congr 2 <;> push_cast <;> omega
theorem mem_exN {x y : Int} {k : Nat} {p : Pr} : p ∈ exN x y k ↔ x ≤ p.1 ∧ p.1 < x + k ∧ p.2 - y = p.1 - x := by
  induction k generalizing x y with
  | zero => simp [exN]; omega
  | succ k ih =>
    rw [exN, List.mem_cons, ih]
    obtain ⟨p1, p2⟩ := p
    simp only [Prod.mk.injEq]
    push_cast
    omega

/-! ### the script that lets pairs stay -/
def gap (a b x y : Int) : List Ch := if a < x ∨ b < y then [⟨a, x - a, b, y - b⟩] else []
theorem gap_same (a b : Int) : gap a b a b = [] := by unfold gap; rw [if_neg (by omega)]
def ofL : List Pr → Int → Int → Int → Int → List Ch
  | [], a, b, n, m => gap a b n m
  | p :: r, a, b, n, m => gap a b p.1 p.2 ++ ofL r (p.1 + 1) (p.2 + 1) n m
def ofR : List Run → Int → Int → Int → Int → List Ch
  | [], a, b, n, m => gap a b n m
  | r :: rs, a, b, n, m => gap a b r.1 r.2.1 ++ ofR rs (r.1 + r.2.2) (r.2.1 + r.2.2) n m
def rise : List Pr → Int → Int → Int → Int → Bool
  | [], _, _, _, _ => true
  | p :: r, a, b, n, m => decide ((a ≤ p.1 ∧ p.1 < n) ∧ b ≤ p.2 ∧ p.2 < m) && rise r (p.1 + 1) (p.2 + 1) n m
theorem rise_cons {p : Pr} {r : List Pr} {a b n m : Int} : rise (p :: r) a b n m = true ↔ ((a ≤ p.1 ∧ p.1 < n) ∧ b ≤ p.2 ∧ p.2 < m) ∧ rise r (p.1 + 1) (p.2 + 1) n m = true := by simp [rise]
theorem rise_mono {P : List Pr} {a b a' b' n m : Int} (h : rise P a b n m = true) (ha : a' ≤ a) (hb : b' ≤ b) : rise P a' b' n m = true := by
  cases P with
  | nil => rfl
  | cons p r =>
    rw [rise_cons] at h ⊢
    exact ⟨by omega, h.2⟩
theorem rise_exN {x y a b n m : Int} {k : Nat} {P : List Pr} (ha : a ≤ x) (hb : b ≤ y) (hk : k = 0 ∨ (x + k ≤ n ∧ y + k ≤ m)) (h : rise P (x + k) (y + k) n m = true) : rise (exN x y k ++ P) a b n m = true := by
  induction k generalizing x y a b with
  | zero => exact rise_mono h (by simpa using ha) (by simpa using hb)
  | succ k ih =>
    rw [exN, List.cons_append, rise_cons]
    have hk' : x + (k + 1) ≤ n ∧ y + (k + 1) ≤ m := by rcases hk with hk | hk <;> omega
    push_cast at h
    refine ⟨by simp only; omega, ih (by simp) (by simp) (by omega) ?_⟩
    rw [show x + 1 + (k : Int) = x + (k + 1) by omega, show y + 1 + (k : Int) = y + (k + 1) by omega]
    exact h
theorem rise_prs {s : List Ch} {n m a b : Int} (h : val s a b n m = true) (ha : a ≤ n) (hb : b ≤ m) : rise (prs s n a b) a b n m = true := by
  induction s generalizing a b with
  | nil =>
    have h' : n - a = m - b := by simpa [val] using h
    rw [prs_nil]
    have := rise_exN (x := a) (y := b) (a := a) (b := b) (n := n) (m := m) (k := (n - a).toNat) (P := []) (Int.le_refl _) (Int.le_refl _) (by omega) rfl
    simpa using this
  | cons c r ih =>
    obtain ⟨⟨h1, h2, h3, h4⟩, hr⟩ := val_cons.1 h
    rw [prs_cons]
    refine rise_exN (Int.le_refl _) (Int.le_refl _) (by omega) ?_
    exact rise_mono (ih hr (by omega) (by omega)) (by omega) (by omega)

theorem ofL_exN {x y a b n m : Int} {k : Nat} {P : List Pr} (hk : 0 < k) : ofL (exN x y k ++ P) a b n m = gap a b x y ++ ofL P (x + k) (y + k) n m := by
  induction k generalizing x y a b with
  | zero => omega
  | succ k ih =>
    rw [exN, List.cons_append, ofL]
    rcases Nat.eq_zero_or_pos k with rfl | hk'
    · simp [exN]
    · rw [ih hk', gap_same, List.nil_append]
      congr 2 <;> push_cast <;> omega
theorem ofR_ex {rs : List Run} {a b n m : Int} (h : ∀ r ∈ rs, 0 < r.2.2) : ofR rs a b n m = ofL (exs rs) a b n m := by
  induction rs generalizing a b with
  | nil => rfl
  | cons r rs ih =>
    have hr := h r (List.mem_cons_self ..)
    rw [ofR, ih (fun q hq => h q (List.mem_cons_of_mem _ hq))]
    show _ = ofL (ex r ++ exs rs) a b n m
    unfold ex
    rw [ofL_exN (by omega)]
    congr 2 <;> omega
theorem run1_pos {a b k : Int} : ∀ r ∈ run1 a b k, 0 < r.2.2 := by
  unfold run1
  intro r hr
  split at hr
  · simp at hr; subst hr; assumption
  · cases hr
theorem runs_pos : ∀ (s : List Ch) (n a b : Int), ∀ r ∈ runs s n a b, 0 < r.2.2
  | [], _, _, _ => run1_pos
  | c :: s, n, a, b => fun r hr => by
    rw [runs, List.mem_append] at hr
    rcases hr with hr | hr
    · exact run1_pos r hr
    · exact runs_pos s _ _ _ r hr
def normal (s : List Ch) (n m : Int) : List Ch := ofR (runs s n 0 0) 0 0 n m
theorem normal_eq (s : List Ch) (n m : Int) : normal s n m = ofL (prs s n 0 0) 0 0 n m := ofR_ex (runs_pos s n 0 0)

theorem gap_some {a b x y : Int} (ha : a ≤ x) (hb : b ≤ y) : (x = a ∧ y = b ∧ gap a b x y = []) ∨ (¬(x - a = 0 ∧ y - b = 0) ∧ gap a b x y = [⟨a, x - a, b, y - b⟩]) := by
  unfold gap
  by_cases h : a < x ∨ b < y
  · rw [if_pos h]; right; exact ⟨by omega, rfl⟩
  · rw [if_neg h]; left; exact ⟨by omega, by omega, rfl⟩
theorem ofL_val {P : List Pr} {a b a' b' n m : Int} (h : rise P a b n m = true) (ha : a ≤ n) (hb : b ≤ m) (h1 : a' ≤ a) (h2 : a - a' = b - b') :
    val (ofL P a b n m) a' b' n m = true ∧ prs (ofL P a b n m) n a' b' = exN a' b' (a - a').toNat ++ P := by
  induction P generalizing a b a' b' with
  | nil =>
    rw [ofL]
    rcases gap_some ha hb with ⟨rfl, rfl, hg⟩ | ⟨hne, hg⟩
    · rw [hg, prs_nil]
      exact ⟨by simpa [val] using h2, by simp⟩
    · rw [hg, val_cons, prs_cons, prs_nil]
      refine ⟨⟨⟨by simp only; omega, by simp only; omega, hne, by simp only; omega⟩, by simp [val]; omega⟩, ?_⟩
      simp only [List.append_nil]
      rw [show (n - (a + (n - a))).toNat = 0 by omega]
      simp [exN]
  | cons p r ih =>
    obtain ⟨hp, hr⟩ := rise_cons.1 h
    rw [ofL]
    rcases gap_some hp.1.1 hp.2.1 with ⟨e1, e2, hg⟩ | ⟨hne, hg⟩
    · rw [hg, List.nil_append]
      obtain ⟨i1, i2⟩ := ih (a' := a') (b' := b') hr (by omega) (by omega) (by omega) (by omega)
      refine ⟨i1, ?_⟩
      rw [i2, show (p.1 + 1 - a').toNat = (a - a').toNat + 1 by omega, exN_add]
      simp only [exN, List.append_assoc, List.cons_append, List.nil_append]
      congr 2
      obtain ⟨p1, p2⟩ := p
      simp only [Prod.mk.injEq] at e1 e2 ⊢
      omega
    · rw [hg, List.cons_append, List.nil_append, val_cons, prs_cons]
      obtain ⟨i1, i2⟩ := ih (a' := p.1) (b' := p.2) hr (by omega) (by omega) (by omega) (by omega)
      simp only
      rw [show a + (p.1 - a) = p.1 by omega, show b + (p.2 - b) = p.2 by omega]
      refine ⟨⟨⟨by simp only; omega, by simp only; omega, hne, by simp only; omega⟩, i1⟩, ?_⟩
      rw [i2, show (p.1 + 1 - p.1).toNat = 1 by omega]
      rfl
theorem ofL_Val {P : List Pr} {n m : Int} (hn : cnt n = true) (hm : cnt m = true) (h : rise P 0 0 n m = true) : Val (ofL P 0 0 n m) n m ∧ prs (ofL P 0 0 n m) n 0 0 = P := by
  have hn' := cnt_iff.1 hn
  have hm' := cnt_iff.1 hm
  obtain ⟨h1, h2⟩ := ofL_val (a' := 0) (b' := 0) h (by omega) (by omega) (Int.le_refl _) rfl
  exact ⟨⟨hn, hm, h1⟩, by simpa [exN] using h2⟩
theorem Val.rise {s : List Ch} {n m : Int} (h : Val s n m) : rise (prs s n 0 0) 0 0 n m = true := by
  have hn := cnt_iff.1 h.1
  have hm := cnt_iff.1 h.2.1
  exact rise_prs h.2.2 (by omega) (by omega)
theorem normal_Val {s : List Ch} {n m : Int} (h : Val s n m) : Val (normal s n m) n m ∧ prs (normal s n m) n 0 0 = prs s n 0 0 := by
  rw [normal_eq]
  exact ofL_Val h.1 h.2.1 h.rise
theorem normal_twice {s : List Ch} {n m : Int} (h : Val s n m) : normal (normal s n m) n m = normal s n m := by
  rw [normal_eq, (normal_Val h).2, ← normal_eq]

/-- no two touch -/
def apart : List Ch → Prop
  | [] => True
  | c :: r => (∀ d, r.head? = some d → c.a + c.n ≠ d.a) ∧ apart r
theorem ofL_head {P : List Pr} {a b n m : Int} (h : rise P a b n m = true) : ∀ d, (ofL P a b n m).head? = some d → a ≤ d.a := by
  induction P generalizing a b with
  | nil =>
    intro d hd
    rw [ofL] at hd
    unfold gap at hd
    split at hd
    · simp at hd; subst hd; exact Int.le_refl _
    · cases hd
  | cons p r ih =>
    obtain ⟨hp, hr⟩ := rise_cons.1 h
    intro d hd
    rw [ofL] at hd
    unfold gap at hd
    split at hd
    · simp at hd; subst hd; exact Int.le_refl _
    · rw [List.nil_append] at hd
      have := ih hr d hd
      omega
theorem ofL_apart {P : List Pr} {a b n m : Int} (h : rise P a b n m = true) : apart (ofL P a b n m) := by
  induction P generalizing a b with
  | nil =>
    rw [ofL]; unfold gap
    split
    · exact ⟨fun d hd => (by cases hd), trivial⟩
    · trivial
  | cons p r ih =>
    obtain ⟨hp, hr⟩ := rise_cons.1 h
    rw [ofL]; unfold gap
    split
    · refine ⟨fun d hd => ?_, ih hr⟩
      have := ofL_head hr d hd
      simp only
      omega
    · exact ih hr
theorem apart_get {l : List Ch} (h : apart l) : ∀ (k : Nat) c d, l[k]? = some c → l[k + 1]? = some d → c.a + c.n ≠ d.a := by
  induction l with
  | nil => intro k c d h1; simp at h1
  | cons x r ih =>
    intro k c d h1 h2
    cases k with
    | zero =>
      simp at h1 h2
      subst h1
      exact h.1 d (by rw [List.head?_eq_getElem?]; exact h2)
    | succ k =>
      rw [List.getElem?_cons_succ] at h1 h2
      exact ih h.2 k c d h1 h2

/-! ### the other way round -/
def inv (c : Ch) : Ch := ⟨c.b, c.m, c.a, c.n⟩
def sw (p : Pr) : Pr := (p.2, p.1)
theorem inv_inv (c : Ch) : inv (inv c) = c := rfl
theorem map_inv_inv (s : List Ch) : (s.map inv).map inv = s := by
  rw [List.map_map]
  exact (List.map_congr_left (fun c _ => inv_inv c)).trans (List.map_id s)
theorem okC_inv {a b n m : Int} {c : Ch} (h : okC a b n m c) : okC b a m n (inv c) := ⟨h.2.1, h.1, fun e => h.2.2.1 ⟨e.2, e.1⟩, h.2.2.2.symm⟩
theorem val_inv {s : List Ch} {a b n m : Int} (h : val s a b n m = true) : val (s.map inv) b a m n = true := by
  induction s generalizing a b with
  | nil => simp [val] at h ⊢; omega
  | cons c r ih =>
    obtain ⟨h1, h2⟩ := val_cons.1 h
    rw [List.map_cons, val_cons]
    exact ⟨okC_inv h1, ih h2⟩
theorem Val.inv {s : List Ch} {n m : Int} (h : Val s n m) : Val (s.map inv) m n := ⟨h.2.1, h.1, val_inv h.2.2⟩
theorem exN_sw (x y : Int) (k : Nat) : (exN x y k).map sw = exN y x k := by
  induction k generalizing x y with
  | zero => rfl
  | succ k ih => rw [exN, exN, List.map_cons, ih]; rfl
theorem prs_inv {s : List Ch} {a b n m : Int} (h : val s a b n m = true) : prs (s.map inv) m b a = (prs s n a b).map sw := by
  induction s generalizing a b with
  | nil =>
    have h' : n - a = m - b := by simpa [val] using h
    rw [List.map_nil, prs_nil, prs_nil, exN_sw, h']
  | cons c r ih =>
    obtain ⟨h1, h2⟩ := val_cons.1 h
    rw [List.map_cons, prs_cons, prs_cons, List.map_append, exN_sw, ← ih h2]
    have : c.a - a = c.b - b := h1.2.2.2
    show exN b a (c.b - b).toNat ++ _ = _
    rw [this]; rfl
theorem gap_sw (a b x y : Int) : gap b a y x = (gap a b x y).map inv := by
  unfold gap
  by_cases h : a < x ∨ b < y
  · rw [if_pos h, if_pos h.symm]; rfl
  · rw [if_neg h, if_neg (fun k => h k.symm)]; rfl
theorem ofL_sw (P : List Pr) (a b n m : Int) : ofL (P.map sw) b a m n = (ofL P a b n m).map inv := by
  induction P generalizing a b with
  | nil => exact gap_sw _ _ _ _
  | cons p r ih =>
    rw [List.map_cons, ofL, ofL, List.map_append, ← ih, ← gap_sw]
    rfl

/-! ### what it costs -/
def goneS (s : List Ch) : Int := (s.map Ch.n).sum
def comeS (s : List Ch) : Int := (s.map Ch.m).sum
theorem prs_len {s : List Ch} {a b n m : Int} (h : val s a b n m = true) (ha : a ≤ n) (hb : b ≤ m) : ((prs s n a b).length : Int) = n - a - goneS s ∧ ((prs s n a b).length : Int) = m - b - comeS s := by
  induction s generalizing a b with
  | nil =>
    have h' : n - a = m - b := by simpa [val] using h
    rw [prs_nil, exN_length]
    simp [goneS, comeS]; omega
  | cons c r ih =>
    obtain ⟨⟨h1, h2, h3, h4⟩, hr⟩ := val_cons.1 h
    obtain ⟨i1, i2⟩ := ih hr (by omega) (by omega)
    rw [prs_cons, List.length_append, exN_length]
    simp only [goneS, comeS, List.map_cons, List.sum_cons] at i1 i2 ⊢
    push_cast
    omega
def costO : List Ch → Int → Int → Option (Int × Int)
  | [], x, y => some (x, y)
  | c :: r, x, y => if c.a < 0 ∨ c.n < 0 ∨ c.b < 0 ∨ c.m < 0 ∨ 4611686018427387904 - x < c.n ∨ 4611686018427387904 - y < c.m then none else costO r (x + c.n) (y + c.m)
def costP (s : List Ch) : Int × Int := (costO s 0 0).getD (0, 0)
theorem cost_val {s : List Ch} {a b n m x y : Int} (h : val s a b n m = true) (ha : 0 ≤ a) (hb : 0 ≤ b) (hx : 0 ≤ x) (hy : 0 ≤ y) (hxa : x ≤ a) (hyb : y ≤ b) (hn : n ≤ 4194304) (hm : m ≤ 4194304) : costO s x y = some (x + goneS s, y + comeS s) := by
  induction s generalizing a b x y with
  | nil => simp [costO, goneS, comeS]
  | cons c r ih =>
    obtain ⟨⟨h1, h2, h3, h4⟩, hr⟩ := val_cons.1 h
    rw [costO, if_neg (by omega), ih hr (by omega) (by omega) (by omega) (by omega) (by omega) (by omega)]
    simp only [goneS, comeS, List.map_cons, List.sum_cons, Option.some.injEq, Prod.mk.injEq]
    omega
theorem Val.cost {s : List Ch} {n m : Int} (h : Val s n m) : costP s = (goneS s, comeS s) := by
  have hn := cnt_iff.1 h.1
  have hm := cnt_iff.1 h.2.1
  unfold costP
  rw [cost_val h.2.2 (Int.le_refl _) (Int.le_refl _) (Int.le_refl _) (Int.le_refl _) (Int.le_refl _) (Int.le_refl _) hn.2 hm.2]
  simp
theorem Val.len {s : List Ch} {n m : Int} (h : Val s n m) : ((prs s n 0 0).length : Int) = n - goneS s ∧ ((prs s n 0 0).length : Int) = m - comeS s := by
  have hn := cnt_iff.1 h.1
  have hm := cnt_iff.1 h.2.1
  have := prs_len h.2.2 hn.1 hm.1
  simpa using this
end Go.Proofs.Ytagjjhlegojpbaa.Ed
