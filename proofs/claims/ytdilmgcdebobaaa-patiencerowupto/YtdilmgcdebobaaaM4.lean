/-
  Plain: which numbers do not stay: boxes, halved on a shortest way.
-/
import Derived.Test.YtdilmgcdebobaaaM3
namespace Go.Proofs.Ytdilmgcdebobaaa.My

/-- how many are the same at the beginning -/
def hd : List Int → List Int → Nat
  | x :: a, y :: b => if x = y then hd a b + 1 else 0
  | _, _ => 0
/-- how many at the end, behind the first h -/
def tl (a b : List Int) (h : Nat) : Nat := hd (a.drop h).reverse (b.drop h).reverse
theorem hd_le : ∀ a b : List Int, hd a b ≤ a.length ∧ hd a b ≤ b.length
  | [], _ => by simp [hd]
  | _ :: _, [] => by simp [hd]
  | x :: a, y :: b => by
    rw [hd]
    split
    · have := hd_le a b; rw [List.length_cons, List.length_cons]; omega
    · rw [List.length_cons, List.length_cons]; omega
theorem hd_take : ∀ a b : List Int, a.take (hd a b) = b.take (hd a b)
  | [], _ => by simp [hd]
  | _ :: _, [] => by simp [hd]
  | x :: a, y :: b => by
    rw [hd]
    split
    · next h => subst h; rw [List.take_succ_cons, List.take_succ_cons, hd_take a b]
    · simp
theorem hd_stop : ∀ a b : List Int, eqAt a b (hd a b) (hd a b) = false
  | [], b => by simp [hd, eqAt]
  | _ :: _, [] => by simp [hd, eqAt]
  | x :: a, y :: b => by
    rw [hd]
    split
    · have := hd_stop a b
      unfold eqAt at *
      rw [List.getElem?_cons_succ, List.getElem?_cons_succ]
      exact this
    · next h =>
      unfold eqAt
      simpa using h
theorem hd_all : ∀ (a b : List Int) (i : Nat), i < hd a b → eqAt a b i i = true
  | [], _, i, h => by simp [hd] at h
  | _ :: _, [], i, h => by simp [hd] at h
  | x :: a, y :: b, i, h => by
    rw [hd] at h
    split at h
    · next e =>
      cases i with
      | zero => unfold eqAt; simpa using e
      | succ i =>
        have := hd_all a b i (by omega)
        unfold eqAt at *
        rw [List.getElem?_cons_succ, List.getElem?_cons_succ]
        exact this
    · omega
theorem tl_le (a b : List Int) (h : Nat) : tl a b h ≤ a.length - h ∧ tl a b h ≤ b.length - h := by
  have := hd_le (a.drop h).reverse (b.drop h).reverse
  simpa [tl] using this
/-- what is left between the ends -/
def cm (a b l : List Int) : List Int := (l.drop (hd a b)).take (l.length - hd a b - tl a b (hd a b))
theorem cm_a (a b : List Int) : a = a.take (hd a b) ++ (cm a b a ++ (a.drop (a.length - tl a b (hd a b)))) := by
  have h1 := (hd_le a b).1
  have h2 := (tl_le a b (hd a b)).1
  unfold cm
  have e : a.drop (a.length - tl a b (hd a b)) = (a.drop (hd a b)).drop (a.length - hd a b - tl a b (hd a b)) := by
    rw [List.drop_drop]; congr 1; omega
  rw [e, List.take_append_drop, List.take_append_drop]
theorem suf_eq (a b : List Int) : a.drop (a.length - tl a b (hd a b)) = b.drop (b.length - tl a b (hd a b)) := by
  have h1 := hd_le a b
  have h2 := tl_le a b (hd a b)
  have ht := hd_take (a.drop (hd a b)).reverse (b.drop (hd a b)).reverse
  have key : ∀ (l : List Int) (n : Nat), n ≤ l.length → (l.reverse.take n).reverse = l.drop (l.length - n) := by
    intro l n hn
    rw [List.take_reverse, List.reverse_reverse]
  have hk := congrArg List.reverse ht
  rw [show hd (a.drop (hd a b)).reverse (b.drop (hd a b)).reverse = tl a b (hd a b) from rfl] at hk
  rw [key _ _ (by rw [List.length_drop]; exact h2.1), key _ _ (by rw [List.length_drop]; exact h2.2), List.drop_drop, List.drop_drop, List.length_drop, List.length_drop] at hk
  rw [show hd a b + (a.length - hd a b - tl a b (hd a b)) = a.length - tl a b (hd a b) by omega, show hd a b + (b.length - hd a b - tl a b (hd a b)) = b.length - tl a b (hd a b) by omega] at hk
  exact hk
theorem cm_b (a b : List Int) : b = a.take (hd a b) ++ (cm a b b ++ (a.drop (a.length - tl a b (hd a b)))) := by
  have h1 := hd_le a b
  have h2 := tl_le a b (hd a b)
  have e1 := suf_eq a b
  rw [e1, hd_take]
  unfold cm
  have e : b.drop (b.length - tl a b (hd a b)) = (b.drop (hd a b)).drop (b.length - hd a b - tl a b (hd a b)) := by
    rw [List.drop_drop]; congr 1; omega
  rw [e, List.take_append_drop, List.take_append_drop]
theorem cm_len (a b : List Int) : (cm a b a).length = a.length - hd a b - tl a b (hd a b) ∧ (cm a b b).length = b.length - hd a b - tl a b (hd a b) := by
  have h1 := hd_le a b
  have h2 := tl_le a b (hd a b)
  unfold cm
  rw [List.length_take, List.length_drop, List.length_take, List.length_drop]
  omega
theorem cm_lcs (a b : List Int) : lcs a b = lcs (cm a b a) (cm a b b) + hd a b + tl a b (hd a b) := by
  have h1 := hd_le a b
  have h2 := tl_le a b (hd a b)
  have e := lcs_head (a.take (hd a b)) (cm a b a ++ (a.drop (a.length - tl a b (hd a b)))) (cm a b b ++ (a.drop (a.length - tl a b (hd a b))))
  rw [← cm_a, ← cm_b, lcs_tail, List.length_take, List.length_drop] at e
  omega
theorem cm_unlike (a b : List Int) (ha : cm a b a ≠ []) (hb : cm a b b ≠ []) : mAt (cm a b a) (cm a b b) 0 0 = false := by
  have hs := hd_stop a b
  have l1 := List.length_pos_iff.2 ha
  have l2 := List.length_pos_iff.2 hb
  obtain ⟨c1, c2⟩ := cm_len a b
  have e : eqAt (cm a b a) (cm a b b) 0 0 = eqAt a b (hd a b) (hd a b) := by
    unfold eqAt cm
    rw [List.getElem?_take, List.getElem?_take, if_pos (by omega), if_pos (by omega), List.getElem?_drop, List.getElem?_drop, Nat.add_zero]
  unfold mAt
  rw [show (0 : Int).toNat = 0 from rfl, e, hs]
  rfl

/-! ### marks -/
def kept : List Int → List Bool → List Int
  | x :: l, m :: r => if m then kept l r else x :: kept l r
  | _, _ => []
theorem kept_append : ∀ (l : List Int) (m : List Bool) (l' : List Int) (m' : List Bool), l.length = m.length → kept (l ++ l') (m ++ m') = kept l m ++ kept l' m'
  | [], [], l', m', _ => rfl
  | x :: l, y :: m, l', m', h => by
    have ih := kept_append l m l' m' (by simpa using h)
    rw [List.cons_append, List.cons_append, kept, kept, ih]
    split <;> rfl
  | [], _ :: _, _, _, h => by simp at h
  | _ :: _, [], _, _, h => by simp at h
theorem kept_none : ∀ (l : List Int) (n : Nat), l.length = n → kept l (List.replicate n true) = []
  | [], n, _ => by cases n <;> rfl
  | x :: l, n, h => by
    subst h
    rw [List.length_cons, List.replicate_succ, kept, if_pos rfl, kept_none l _ rfl]
theorem kept_all : ∀ (l : List Int) (n : Nat), l.length = n → kept l (List.replicate n false) = l
  | [], n, _ => by cases n <;> rfl
  | x :: l, n, h => by
    subst h
    rw [List.length_cons, List.replicate_succ, kept, if_neg (by decide), kept_all l _ rfl]
def rep (n : Nat) (v : Bool) : List Bool := List.replicate n v
/-- the marks of two rows -/
def mkM : Nat → List Int → List Int → List Bool × List Bool
  | 0, a, b => (rep a.length false, rep b.length false)
  | f + 1, a, b =>
    if (cm a b a).length = 0 ∨ (cm a b b).length = 0 then
      (rep (hd a b) false ++ (rep (cm a b a).length true ++ rep (tl a b (hd a b)) false), rep (hd a b) false ++ (rep (cm a b b).length true ++ rep (tl a b (hd a b)) false))
    else
      let c := midP (cm a b a) (cm a b b)
      let l := mkM f ((cm a b a).take c.1.toNat) ((cm a b b).take c.2.toNat)
      let r := mkM f ((cm a b a).drop c.1.toNat) ((cm a b b).drop c.2.toNat)
      (rep (hd a b) false ++ ((l.1 ++ r.1) ++ rep (tl a b (hd a b)) false), rep (hd a b) false ++ ((l.2 ++ r.2) ++ rep (tl a b (hd a b)) false))
theorem mk_kept {a b : List Int} {m1 m2 : List Bool} (l1 : m1.length = (cm a b a).length) (l2 : m2.length = (cm a b b).length) :
    (rep (hd a b) false ++ (m1 ++ rep (tl a b (hd a b)) false)).length = a.length ∧ (rep (hd a b) false ++ (m2 ++ rep (tl a b (hd a b)) false)).length = b.length ∧
    kept a (rep (hd a b) false ++ (m1 ++ rep (tl a b (hd a b)) false)) = a.take (hd a b) ++ (kept (cm a b a) m1 ++ a.drop (a.length - tl a b (hd a b))) ∧
    kept b (rep (hd a b) false ++ (m2 ++ rep (tl a b (hd a b)) false)) = a.take (hd a b) ++ (kept (cm a b b) m2 ++ a.drop (a.length - tl a b (hd a b))) := by
  have h1 := hd_le a b
  have h2 := tl_le a b (hd a b)
  obtain ⟨c1, c2⟩ := cm_len a b
  have e1 : (a.take (hd a b)).length = hd a b := by rw [List.length_take]; omega
  have e2 : (a.drop (a.length - tl a b (hd a b))).length = tl a b (hd a b) := by rw [List.length_drop]; omega
  refine ⟨by simp [rep]; omega, by simp [rep]; omega, ?_, ?_⟩
  · refine (congrArg (fun l => kept l (rep (hd a b) false ++ (m1 ++ rep (tl a b (hd a b)) false))) (cm_a a b)).trans ?_
    rw [kept_append _ _ _ _ (by rw [e1]; simp [rep]), kept_append _ _ _ _ l1.symm]
    unfold rep
    rw [kept_all _ _ e1, kept_all _ _ e2]
  · refine (congrArg (fun l => kept l (rep (hd a b) false ++ (m2 ++ rep (tl a b (hd a b)) false))) (cm_b a b)).trans ?_
    rw [kept_append _ _ _ _ (by rw [e1]; simp [rep]), kept_append _ _ _ _ l2.symm]
    unfold rep
    rw [kept_all _ _ e1, kept_all _ _ e2]
theorem mk_spec : ∀ (f : Nat) (a b : List Int), a.length + b.length < f → (mkM f a b).1.length = a.length ∧ (mkM f a b).2.length = b.length ∧ kept a (mkM f a b).1 = kept b (mkM f a b).2 ∧ (kept a (mkM f a b).1).length = lcs a b
  | 0, a, b, h => by omega
  | f + 1, a, b, h => by
    have h1 := hd_le a b
    have h2 := tl_le a b (hd a b)
    obtain ⟨c1, c2⟩ := cm_len a b
    have hL := cm_lcs a b
    have e1 : (a.take (hd a b)).length = hd a b := by rw [List.length_take]; omega
    have e2 : (a.drop (a.length - tl a b (hd a b))).length = tl a b (hd a b) := by rw [List.length_drop]; omega
    rw [mkM]
    split
    · next hc =>
      obtain ⟨k1, k2, k3, k4⟩ := mk_kept (a := a) (b := b) (m1 := rep (cm a b a).length true) (m2 := rep (cm a b b).length true) (by simp [rep]) (by simp [rep])
      have z1 : kept (cm a b a) (rep (cm a b a).length true) = [] := kept_none _ _ rfl
      have z2 : kept (cm a b b) (rep (cm a b b).length true) = [] := kept_none _ _ rfl
      refine ⟨k1, k2, by rw [k3, k4, z1, z2], ?_⟩
      rw [k3, z1, hL, List.nil_append, List.length_append, e1, e2]
      have : lcs (cm a b a) (cm a b b) = 0 := by
        have := lcs_le (cm a b a) (cm a b b)
        omega
      omega
    · next hc =>
      have n1 : cm a b a ≠ [] := fun e => hc (.inl (by rw [e]; rfl))
      have n2 : cm a b b ≠ [] := fun e => hc (.inr (by rw [e]; rfl))
      have hm := midP_half (cm a b a) (cm a b b)
      obtain ⟨i1, i2⟩ := half_in hm n1 n2 (cm_unlike a b n1 n2)
      obtain ⟨q1, q2, q3, q4, q5, q6, q7, q8⟩ := hm
      simp only
      generalize midP (cm a b a) (cm a b b) = c at *
      obtain ⟨A1, A2, A3, A4⟩ := mk_spec f ((cm a b a).take c.1.toNat) ((cm a b b).take c.2.toNat) (by rw [List.length_take, List.length_take]; omega)
      obtain ⟨B1, B2, B3, B4⟩ := mk_spec f ((cm a b a).drop c.1.toNat) ((cm a b b).drop c.2.toNat) (by rw [List.length_drop, List.length_drop]; omega)
      generalize mkM f ((cm a b a).take c.1.toNat) ((cm a b b).take c.2.toNat) = L at *
      generalize mkM f ((cm a b a).drop c.1.toNat) ((cm a b b).drop c.2.toNat) = R at *
      have l1 : (L.1 ++ R.1).length = (cm a b a).length := by rw [List.length_append, A1, B1, List.length_take, List.length_drop]; omega
      have l2 : (L.2 ++ R.2).length = (cm a b b).length := by rw [List.length_append, A2, B2, List.length_take, List.length_drop]; omega
      obtain ⟨k1, k2, k3, k4⟩ := mk_kept (a := a) (b := b) (m1 := L.1 ++ R.1) (m2 := L.2 ++ R.2) l1 l2
      have z1 : kept (cm a b a) (L.1 ++ R.1) = kept ((cm a b a).take c.1.toNat) L.1 ++ kept ((cm a b a).drop c.1.toNat) R.1 := by
        refine (congrArg (fun l => kept l (L.1 ++ R.1)) (List.take_append_drop c.1.toNat (cm a b a)).symm).trans ?_
        exact kept_append _ _ _ _ A1.symm
      have z2 : kept (cm a b b) (L.2 ++ R.2) = kept ((cm a b b).take c.2.toNat) L.2 ++ kept ((cm a b b).drop c.2.toNat) R.2 := by
        refine (congrArg (fun l => kept l (L.2 ++ R.2)) (List.take_append_drop c.2.toNat (cm a b b)).symm).trans ?_
        exact kept_append _ _ _ _ A2.symm
      refine ⟨k1, k2, by rw [k3, k4, z1, z2, A3, B3], ?_⟩
      rw [k3, z1, hL, q8, List.length_append, List.length_append, List.length_append, e1, e2, A4, B4]
      omega
end Go.Proofs.Ytdilmgcdebobaaa.My
