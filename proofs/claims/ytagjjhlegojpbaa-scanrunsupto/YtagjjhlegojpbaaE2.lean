/-
  Plain laws on scripts held against lists of numbers: which fit, what they make.
-/
import Derived.Test.YtagjjhlegojpbaaE1
namespace Go.Proofs.Ytagjjhlegojpbaa.Ed

def sl (l : List Int) (i k : Int) : List Int := (l.drop i.toNat).take k.toNat
theorem sl_length {l : List Int} {i k : Int} (hi : 0 ≤ i) (hk : 0 ≤ k) (h : i + k ≤ l.length) : ((sl l i k).length : Int) = k := by
  unfold sl
  rw [List.length_take, List.length_drop]
  omega
theorem sl_get {l : List Int} {i k : Int} {j : Nat} (hj : j < k.toNat) : (sl l i k)[j]? = l[i.toNat + j]? := by
  unfold sl
  rw [List.getElem?_take, if_pos hj, List.getElem?_drop]
def put (a : List Int) (l : List Int) (r : Run) : List Int := l.take r.2.1.toNat ++ sl a r.1 r.2.2 ++ l.drop (r.2.1 + r.2.2).toNat
def apP (rs : List Run) (a b : List Int) : List Int := rs.foldl (put a) b
def apD : List Ch → List Int → List Int → Int → List Int
  | [], a, _, x => a.drop x.toNat
  | c :: r, a, b, x => sl a x (c.a - x) ++ (sl b c.b c.m ++ apD r a b (c.a + c.n))
theorem put_at {a X Y : List Int} {x y k : Int} (hX : (X.length : Int) = y) (hk : 0 ≤ k) : put a (X ++ Y) (x, y, k) = X ++ sl a x k ++ Y.drop k.toNat := by
  unfold put
  simp only
  have e : y.toNat = X.length := by omega
  have e2 : (y + k).toNat = X.length + k.toNat := by omega
  rw [e, e2, List.take_left, List.drop_append, List.drop_eq_nil_of_le (by omega), List.nil_append, Nat.add_sub_cancel_left]
theorem put_length {a l : List Int} {r : Run} (h1 : 0 ≤ r.1) (h2 : 0 ≤ r.2.1) (h3 : 0 ≤ r.2.2) (h4 : r.1 + r.2.2 ≤ a.length) (h5 : r.2.1 + r.2.2 ≤ l.length) : (put a l r).length = l.length := by
  have := sl_length h1 h3 h4
  unfold put
  rw [List.length_append, List.length_append, List.length_take, List.length_drop]
  omega
theorem run1_put {a X Y : List Int} {x y k : Int} (hX : (X.length : Int) = y) (hk : 0 ≤ k) : (run1 x y k).foldl (put a) (X ++ Y) = X ++ sl a x k ++ Y.drop k.toNat := by
  unfold run1
  split
  · exact put_at hX hk
  · have : k = 0 := by omega
    subst this
    simp [sl]
theorem apP_eq {s : List Ch} {a b X : List Int} {x y : Int} (h : val s x y a.length b.length = true) (hx : 0 ≤ x) (hy : 0 ≤ y) (hxn : x ≤ a.length) (hym : y ≤ b.length) (hX : (X.length : Int) = y) :
    (runs s a.length x y).foldl (put a) (X ++ b.drop y.toNat) = X ++ apD s a b x := by
  induction s generalizing x y X with
  | nil =>
    have h' : (a.length : Int) - x = b.length - y := by simpa [val] using h
    rw [runs, run1_put hX (by omega), apD, List.drop_drop, List.drop_eq_nil_of_le (as := b) (by omega), List.append_nil]
    congr 1
    unfold sl
    exact List.take_of_length_le (by rw [List.length_drop]; omega)
  | cons c r ih =>
    obtain ⟨⟨h1, h2, h3, h4⟩, hr⟩ := val_cons.1 h
    rw [runs, List.foldl_append, run1_put hX (by omega), apD, List.drop_drop]
    have e : (y.toNat + (c.a - x).toNat) = c.b.toNat := by omega
    have e2 : b.drop c.b.toNat = sl b c.b c.m ++ b.drop (c.b + c.m).toNat := by
      unfold sl
      rw [show (c.b + c.m).toNat = c.b.toNat + c.m.toNat by omega, ← List.drop_drop, List.take_append_drop]
    rw [e, e2, ← List.append_assoc, ih hr (by omega) (by omega) (by omega) (by omega) ?_]
    · simp only [List.append_assoc]
    · have k1 := sl_length (l := a) (i := x) (k := c.a - x) hx (by omega) (by omega)
      have k2 := sl_length (l := b) (i := c.b) (k := c.m) (by omega) (by omega) (by omega)
      rw [List.length_append, List.length_append]
      push_cast
      omega
theorem apply_eq {s : List Ch} {a b : List Int} (h : Val s a.length b.length) : apP (runs s a.length 0 0) a b = apD s a b 0 := by
  have := apP_eq (X := []) h.2.2 (Int.le_refl _) (Int.le_refl _) (by omega) (by omega) rfl
  simpa [apP] using this

/-! ### which fit -/
def eqP (a b : List Int) (p : Pr) : Bool := a[p.1.toNat]? == b[p.2.toNat]?
def fitsP (a b : List Int) (P : List Pr) : Bool := P.all (eqP a b)
def fitR (a b : List Int) (r : Run) : Bool := sl a r.1 r.2.2 == sl b r.2.1 r.2.2
theorem exN_all (a b : List Int) (x y : Int) (k : Nat) : fitsP a b (exN x y k) = true ↔ ∀ i : Nat, i < k → a[(x + i).toNat]? = b[(y + i).toNat]? := by
  unfold fitsP
  rw [List.all_eq_true]
  constructor
  · intro h i hi
    have := h _ (List.mem_of_getElem? (exN_get x y k i hi))
    simpa [eqP] using this
  · intro h p hp
    rw [mem_exN] at hp
    have := h (p.1 - x).toNat (by omega)
    rw [show (x + ((p.1 - x).toNat : Int)).toNat = p.1.toNat by omega, show (y + ((p.1 - x).toNat : Int)).toNat = p.2.toNat by omega] at this
    simpa [eqP] using this
theorem fitR_eq {a b : List Int} {r : Run} (h1 : 0 ≤ r.1) (h2 : 0 ≤ r.2.1) : fitR a b r = fitsP a b (ex r) := by
  rw [Bool.eq_iff_iff]
  unfold ex
  rw [exN_all]
  unfold fitR
  rw [beq_iff_eq]
  constructor
  · intro h i hi
    have : (sl a r.1 r.2.2)[i]? = (sl b r.2.1 r.2.2)[i]? := by rw [h]
    rw [sl_get hi, sl_get hi] at this
    rw [show (r.1 + (i : Int)).toNat = r.1.toNat + i by omega, show (r.2.1 + (i : Int)).toNat = r.2.1.toNat + i by omega]
    exact this
  · intro h
    apply List.ext_getElem?
    intro i
    by_cases hi : i < r.2.2.toNat
    · rw [sl_get hi, sl_get hi]
      have := h i hi
      rw [show (r.1 + (i : Int)).toNat = r.1.toNat + i by omega, show (r.2.1 + (i : Int)).toNat = r.2.1.toNat + i by omega] at this
      exact this
    · rw [List.getElem?_eq_none, List.getElem?_eq_none]
      · unfold sl; rw [List.length_take]; omega
      · unfold sl; rw [List.length_take]; omega
theorem fits_exs {a b : List Int} {rs : List Run} (h : ∀ r ∈ rs, 0 ≤ r.1 ∧ 0 ≤ r.2.1 ∧ 0 < r.2.2) : rs.all (fitR a b) = fitsP a b (exs rs) := by
  induction rs with
  | nil => rfl
  | cons r rs ih =>
    obtain ⟨h1, h2, _⟩ := h r (List.mem_cons_self ..)
    rw [List.all_cons, ih (fun q hq => h q (List.mem_cons_of_mem _ hq)), fitR_eq h1 h2]
    show _ = fitsP a b (ex r ++ exs rs)
    unfold fitsP
    rw [List.all_append]
theorem Val.runsB {s : List Ch} {n m : Int} (h : Val s n m) : ∀ r ∈ runs s n 0 0, 0 ≤ r.1 ∧ 0 ≤ r.2.1 ∧ 0 < r.2.2 ∧ r.1 + r.2.2 ≤ n ∧ r.2.1 + r.2.2 ≤ m := by
  have hn := cnt_iff.1 h.1
  have hm := cnt_iff.1 h.2.1
  intro r hr
  have h1 := (runs_sorted h.2.2 hn.1 hm.1).2 r hr
  have h2 := runs_pos s n 0 0 r hr
  exact ⟨h1.1, h1.2.1, h2, h1.2.2.1, h1.2.2.2⟩
theorem fits_eq {s : List Ch} {n m : Int} {a b : List Int} (h : Val s n m) : (runs s n 0 0).all (fitR a b) = fitsP a b (prs s n 0 0) :=
  fits_exs fun r hr => ⟨(h.runsB r hr).1, (h.runsB r hr).2.1, (h.runsB r hr).2.2.1⟩
theorem fits_comp {a b c : List Int} {P Q : List Pr} (hP : fitsP a b P = true) (hQ : fitsP b c Q = true) : fitsP a c (comp P Q) = true := by
  unfold fitsP at *
  rw [List.all_eq_true] at *
  intro z hz
  obtain ⟨p, hp, q, hq, e, rfl⟩ := mem_comp.1 hz
  have h1 := hP p hp
  have h2 := hQ q hq
  unfold eqP at *
  rw [beq_iff_eq] at *
  rw [h1, ← e, h2]
theorem fits_sw {a b : List Int} {P : List Pr} (hP : fitsP a b P = true) : fitsP b a (P.map sw) = true := by
  unfold fitsP at *
  rw [List.all_eq_true] at *
  intro z hz
  have := hP _ (mem_sw.1 hz)
  unfold eqP sw at *
  rw [beq_iff_eq] at *
  exact this.symm
theorem put_fit {a l : List Int} {r : Run} (h2 : 0 ≤ r.2.1) (h3 : 0 ≤ r.2.2) (h : fitR a l r = true) : put a l r = l := by
  unfold fitR at h
  rw [beq_iff_eq] at h
  unfold put
  rw [h]
  unfold sl
  rw [show (r.2.1 + r.2.2).toNat = r.2.1.toNat + r.2.2.toNat by omega, ← List.drop_drop, List.append_assoc, List.take_append_drop, List.take_append_drop]
theorem apP_fit {rs : List Run} {a b : List Int} (h : ∀ r ∈ rs, 0 ≤ r.2.1 ∧ 0 < r.2.2) (hf : rs.all (fitR a b) = true) : apP rs a b = b := by
  unfold apP
  induction rs with
  | nil => rfl
  | cons r rs ih =>
    rw [List.all_cons, Bool.and_eq_true] at hf
    have := h r (List.mem_cons_self ..)
    rw [List.foldl_cons, put_fit this.1 (by omega) hf.1]
    exact ih (fun q hq => h q (List.mem_cons_of_mem _ hq)) hf.2
/-- where a script fits it makes the second list -/
theorem apply_fit {s : List Ch} {a b : List Int} (h : Val s a.length b.length) (hf : fitsP a b (prs s a.length 0 0) = true) : apP (runs s a.length 0 0) a b = b := by
  rw [← fits_eq h] at hf
  exact apP_fit (fun r hr => ⟨(h.runsB r hr).2.1, (h.runsB r hr).2.2.1⟩) hf
end Go.Proofs.Ytagjjhlegojpbaa.Ed
