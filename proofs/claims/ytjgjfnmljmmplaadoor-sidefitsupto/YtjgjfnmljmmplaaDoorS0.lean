/-
  Two columns, plain: the kinds of bytes, the pieces of a text.
-/
namespace Go.Proofs.YtjgjfnmljmmplaaDoor
namespace Sd
abbrev Bs := List UInt8
/-- the kind of a byte: 0 a word's, 1 a blank, 2 by itself -/
def kdN (c : Nat) : Nat := if (97 ≤ c ∧ c ≤ 122) ∨ (65 ≤ c ∧ c ≤ 90) ∨ (48 ≤ c ∧ c ≤ 57) ∨ c = 95 ∨ 128 ≤ c then 0 else if c = 32 ∨ c = 9 then 1 else 2
def kd (c : UInt8) : Nat := kdN c.toNat
/-- the document's class of it -/
def clN (c : Nat) : Nat := if (97 ≤ c ∧ c ≤ 122) ∨ (65 ≤ c ∧ c ≤ 90) ∨ (48 ≤ c ∧ c ≤ 57) ∨ c = 95 ∨ 128 ≤ c then 1 else if c = 9 ∨ c = 32 then 2 else 0
def cl (c : UInt8) : Nat := clN c.toNat
theorem cl_kd (c : UInt8) : cl c = (kd c + 1) % 3 := by
  unfold cl kd clN kdN
  split
  · rfl
  · by_cases h : c.toNat = 9 ∨ c.toNat = 32
    · rw [if_pos h, if_pos (by omega)]
    · rw [if_neg h, if_neg (by omega)]
theorem kd_le (c : UInt8) : kd c ≤ 2 := by
  unfold kd kdN
  split
  · omega
  · split <;> omega
/-- does a piece end between these two? -/
def cut (x y : UInt8) : Bool := (kd y != kd x) || (kd y == 2)
theorem cut_cl (x y : UInt8) : cut x y = ((cl y != cl x) || (cl y == 0)) := by
  have h1 := kd_le x
  have h2 := kd_le y
  unfold cut
  rw [cl_kd, cl_kd]
  generalize kd x = a at h1 ⊢
  generalize kd y = b at h2 ⊢
  have ha : a = 0 ∨ a = 1 ∨ a = 2 := by omega
  have hb : b = 0 ∨ b = 1 ∨ b = 2 := by omega
  rcases ha with rfl | rfl | rfl <;> rcases hb with rfl | rfl | rfl <;> rfl
/-- how long the first piece is -/
def fl : Bs → Nat
  | [] => 0
  | [_] => 1
  | x :: y :: r => if cut x y then 1 else fl (y :: r) + 1
theorem fl_pos : ∀ t : Bs, t ≠ [] → 0 < fl t
  | [], h => absurd rfl h
  | [_], _ => by unfold fl; omega
  | x :: y :: r, _ => by unfold fl; split <;> omega
theorem fl_le : ∀ t : Bs, fl t ≤ t.length
  | [] => Nat.le_refl _
  | [_] => Nat.le_refl _
  | x :: y :: r => by
    have := fl_le (y :: r)
    unfold fl
    split
    · simp
    · simp only [List.length_cons] at this ⊢; omega
theorem fl_eq : ∀ (n : Nat) (t : Bs), n < t.length → (∀ j x y, j < n → t[j]? = some x → t[j + 1]? = some y → cut x y = false) →
    (n + 1 = t.length ∨ ∃ x y, t[n]? = some x ∧ t[n + 1]? = some y ∧ cut x y = true) → fl t = n + 1
  | _, [], h, _, _ => by simp at h
  | n, [x], h, _, _ => by
    have : n = 0 := by simp at h; exact h
    subst this
    rfl
  | 0, x :: y :: r, _, _, he => by
    rcases he with he | ⟨a, b, ha, hb, hc⟩
    · simp at he
    · simp at ha hb
      subst ha hb
      unfold fl
      rw [if_pos hc]
  | n + 1, x :: y :: r, h, hn, he => by
    have h0 := hn 0 x y (by omega) rfl rfl
    unfold fl
    rw [if_neg (by rw [h0]; simp)]
    rw [fl_eq n (y :: r) (by simpa using h) (fun j a b hj ha hb => hn (j + 1) a b (by omega) (by simpa using ha) (by simpa using hb)) (by
      rcases he with he | ⟨a, b, ha, hb, hc⟩
      · exact .inl (by simpa using he)
      · exact .inr ⟨a, b, by simpa using ha, by simpa using hb, hc⟩)]
/-- the pieces -/
def wds (t : Bs) : List Bs := if _h : t = [] then [] else t.take (fl t) :: wds (t.drop (fl t))
termination_by t.length
decreasing_by
  have := fl_pos t _h
  have : 0 < t.length := List.length_pos_iff.2 _h
  rw [List.length_drop]
  omega
theorem wds_nil : wds [] = [] := by rw [wds, dif_pos rfl]
theorem wds_cons {t : Bs} (h : t ≠ []) : wds t = t.take (fl t) :: wds (t.drop (fl t)) := by rw [wds, dif_neg h]
theorem wds_flat (t : Bs) : (wds t).flatten = t := by
  induction hn : t.length using Nat.strongRecOn generalizing t with
  | ind n ih =>
    by_cases h : t = []
    · subst h; rw [wds_nil]; rfl
    · rw [wds_cons h, List.flatten_cons, ih _ (by
        have := fl_pos t h
        have : 0 < t.length := List.length_pos_iff.2 h
        rw [List.length_drop]; omega) _ rfl, List.take_append_drop]
theorem wds_ne (t : Bs) : ∀ p ∈ wds t, p ≠ [] := by
  induction hn : t.length using Nat.strongRecOn generalizing t with
  | ind n ih =>
    by_cases h : t = []
    · subst h; rw [wds_nil]; simp
    · have h1 := fl_pos t h
      have h2 : 0 < t.length := List.length_pos_iff.2 h
      rw [wds_cons h]
      intro p hp
      rcases List.mem_cons.1 hp with rfl | hp
      · intro e
        have := congrArg List.length e
        rw [List.length_take, List.length_nil] at this
        omega
      · exact ih _ (by rw [List.length_drop]; omega) _ rfl p hp
theorem wds_len (t : Bs) : (wds t).length ≤ t.length := by
  induction hn : t.length using Nat.strongRecOn generalizing t with
  | ind n ih =>
    by_cases h : t = []
    · subst h; rw [wds_nil]; simp
    · have h1 := fl_pos t h
      have h2 : 0 < t.length := List.length_pos_iff.2 h
      have h3 := ih (t.drop (fl t)).length (by rw [List.length_drop]; omega) _ rfl
      rw [wds_cons h, List.length_cons]
      rw [List.length_drop] at h3
      have := fl_le t
      omega
end Sd
end Go.Proofs.YtjgjfnmljmmplaaDoor
