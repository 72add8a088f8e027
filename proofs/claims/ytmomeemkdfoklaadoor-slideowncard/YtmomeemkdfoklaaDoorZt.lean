/-
  Plain: a round of Slide.
-/
import Derived.Test.YtmomeemkdfoklaaDoorZs
namespace Go.Proofs.YtmomeemkdfoklaaDoor.Ed

/-- what bars the way of the next round's change -/
def nx (a b : List Int) (out : List Ch) : Ch := match out with
  | [] => ⟨a.length, 0, b.length, 0⟩
  | d :: _ => d
theorem nx_nxt (a b : List Int) (out : List Ch) : (nx a b out).a = (nxt out a.length b.length).1 ∧ (nx a b out).b = (nxt out a.length b.length).2 := by
  cases out <;> exact ⟨rfl, rfl⟩
theorem drop_val {a b : List Int} {l : List Ch} (hv : val l 0 0 a.length b.length = true) (hf : fitsP a b (prs l a.length 0 0) = true) :
    ∀ i, i ≤ l.length → ∃ x y : Int, 0 ≤ x ∧ 0 ≤ y ∧ x ≤ a.length ∧ val (l.drop i) x y a.length b.length = true ∧ fitsP a b (prs (l.drop i) a.length x y) = true
  | 0, _ => ⟨0, 0, Int.le_refl _, Int.le_refl _, by omega, by simpa using hv, by simpa using hf⟩
  | i + 1, h => by
    obtain ⟨x, y, h1, h2, h3, h4, h5⟩ := drop_val hv hf i (by omega)
    rw [List.drop_eq_getElem_cons (show i < l.length by omega)] at h4 h5
    obtain ⟨k1, k2⟩ := val_cons.1 h4
    rw [prs_cons, fitsP_app] at h5
    obtain ⟨m1, m2, _, _⟩ := k1
    exact ⟨_, _, by omega, by omega, by omega, k2, h5.2⟩
structure RdOk (a b : List Int) (c : Ch) (out : List Ch) : Prop where
  a0 : 0 ≤ c.a
  n0 : 0 ≤ c.n
  b0 : 0 ≤ c.b
  m0 : 0 ≤ c.m
  an : c.a + c.n ≤ (nx a b out).a
  bm : c.b + c.m ≤ (nx a b out).b
  gap : (nx a b out).a + c.b + c.m = (nx a b out).b + c.a + c.n
  pos : 0 < c.n + c.m
  na : (nx a b out).a ≤ a.length
  nb : (nx a b out).b ≤ b.length
  nn : 0 ≤ (nx a b out).n ∧ (nx a b out).a + (nx a b out).n ≤ a.length
  nm : 0 ≤ (nx a b out).m ∧ (nx a b out).b + (nx a b out).m ≤ b.length
theorem rd_ok {a b : List Int} {l : List Ch} (hv : val l 0 0 a.length b.length = true) (hf : fitsP a b (prs l a.length 0 0) = true) {i : Nat} {c : Ch} (hc : l[i]? = some c) : RdOk a b c (slideL a b (l.drop (i + 1))) := by
  obtain ⟨hi, rfl⟩ := List.getElem?_eq_some_iff.1 hc
  obtain ⟨x, y, h1, h2, h3, h4, h5⟩ := drop_val hv hf i (by omega)
  rw [List.drop_eq_getElem_cons hi] at h4 h5
  obtain ⟨⟨k1, k2, k3, k4⟩, k5⟩ := val_cons.1 h4
  rw [prs_cons, fitsP_app] at h5
  obtain ⟨i1, _⟩ := slide_fine (l.drop (i + 1)) (by omega) (by omega) (by omega) k5 h5.2
  obtain ⟨j1, j2, j3, j4⟩ := val_next i1 (by omega)
  obtain ⟨e1, e2⟩ := nx_nxt a b (slideL a b (l.drop (i + 1)))
  rw [← e1] at j1 j2 j3
  rw [← e2] at j2 j4
  have hnn : (0 ≤ (nx a b (slideL a b (l.drop (i + 1)))).n ∧ (nx a b (slideL a b (l.drop (i + 1)))).a + (nx a b (slideL a b (l.drop (i + 1)))).n ≤ a.length) ∧ (0 ≤ (nx a b (slideL a b (l.drop (i + 1)))).m ∧ (nx a b (slideL a b (l.drop (i + 1)))).b + (nx a b (slideL a b (l.drop (i + 1)))).m ≤ b.length) := by
    generalize slideL a b (l.drop (i + 1)) = out at i1
    cases out with
    | nil => simp only [nx]; omega
    | cons d t =>
      obtain ⟨⟨m1, m2, _, _⟩, _⟩ := val_cons.1 i1
      simp only [nx]; omega
  exact ⟨by omega, by omega, by omega, by omega, by omega, by omega, by omega, by omega, j3, j4, hnn.1, hnn.2⟩
theorem slide_len (a b : List Int) : ∀ l : List Ch, (slideL a b l).length ≤ l.length
  | [] => Nat.le_refl _
  | c :: r => by
    have ih := slide_len a b r
    unfold slideL
    generalize slideL a b r = out at *
    cases out with
    | nil => simp [put1]
    | cons d t =>
      unfold put1
      simp only
      split
      · simp at ih ⊢; omega
      · simp at ih ⊢; omega
theorem slide_step {a b : List Int} {l : List Ch} {i : Nat} {c : Ch} (hc : l[i]? = some c) : slideL a b (l.drop i) = put1 (slid a b (nx a b (slideL a b (l.drop (i + 1)))).a (nx a b (slideL a b (l.drop (i + 1)))).b c) (slideL a b (l.drop (i + 1))) := by
  obtain ⟨hi, rfl⟩ := List.getElem?_eq_some_iff.1 hc
  obtain ⟨e1, e2⟩ := nx_nxt a b (slideL a b (l.drop (i + 1)))
  rw [e1, e2, List.drop_eq_getElem_cons hi]
  rfl
/-- the row that the program writes over: those that are left, those that are done -/
def rowX (l out : List Ch) : List Ch := l.take (l.length - out.length) ++ out
theorem rowX_len {l out : List Ch} (h : out.length ≤ l.length) : (rowX l out).length = l.length := by unfold rowX; rw [List.length_append, List.length_take]; omega
theorem rowX_nil (l : List Ch) : rowX l [] = l := by unfold rowX; simp
theorem rowX_join {l : List Ch} {d e : Ch} {t : List Ch} (h : t.length + 1 ≤ l.length) : (rowX l (d :: t)).set (l.length - (t.length + 1)) e = rowX l (e :: t) := by
  unfold rowX
  rw [List.set_append_right _ _ (by rw [List.length_take]; simp), List.length_take, List.length_cons, List.length_cons]
  rw [show l.length - (t.length + 1) - min (l.length - (t.length + 1)) l.length = 0 by omega, List.set_cons_zero]
theorem rowX_more {l out : List Ch} {e : Ch} (h : out.length + 1 ≤ l.length) : (rowX l out).set (l.length - out.length - 1) e = rowX l (e :: out) := by
  unfold rowX
  rw [List.set_append_left _ _ (by rw [List.length_take]; omega), List.length_cons, show l.length - out.length = (l.length - (out.length + 1)) + 1 by omega, Nat.add_sub_cancel]
  rw [List.take_add_one, List.getElem?_eq_getElem (by omega), Option.toList_some, List.set_append_right _ _ (by rw [List.length_take]; omega), List.length_take]
  rw [show l.length - (out.length + 1) - min (l.length - (out.length + 1)) l.length = 0 by omega, List.set_cons_zero, List.append_assoc]
  rfl
theorem rowX_low {l out : List Ch} {i : Nat} (h : i < l.length - out.length) : (rowX l out)[i]? = l[i]? := by
  unfold rowX
  rw [List.getElem?_append_left (by rw [List.length_take]; omega), List.getElem?_take_of_lt h]
end Go.Proofs.YtmomeemkdfoklaaDoor.Ed
