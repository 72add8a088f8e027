/-
  The answers of the chapter on names and paths over lists of bytes, and what is true of them: pieces and paths, there and back; what is safe stays so; the way from a directory leads there.
-/
namespace Go.Proofs.YtfjhjhjdneihbaaGreatDoor.Pp

def pieces : List UInt8 → List (List UInt8)
  | [] => [[]]
  | c :: r => if c = 47 then [] :: pieces r else (c :: (pieces r).headD []) :: (pieces r).tail

theorem pieces_ne : ∀ l, pieces l ≠ []
  | [] => by simp [pieces]
  | c :: r => by unfold pieces; split <;> simp
theorem pieces_none : ∀ l : List UInt8, (47 : UInt8) ∉ l → pieces l = [l]
  | [], _ => rfl
  | c :: r, h => by
    have hc : c ≠ 47 := fun e => h (by simp [e])
    rw [pieces, if_neg hc, pieces_none r (fun e => h (by simp [e]))]
    rfl
theorem pieces_first : ∀ a b : List UInt8, (47 : UInt8) ∉ a → pieces (a ++ 47 :: b) = a :: pieces b
  | [], b, _ => by simp [pieces]
  | c :: a, b, h => by
    have hc : c ≠ 47 := fun e => h (by simp [e])
    rw [List.cons_append, pieces, if_neg hc, pieces_first a b (fun e => h (by simp [e]))]
    rfl
theorem pieces_no : ∀ l : List UInt8, ∀ x ∈ pieces l, (47 : UInt8) ∉ x
  | [], x, h => by simp [pieces] at h; subst h; simp
  | c :: r, x, h => by
    have ih := pieces_no r
    have hne := pieces_ne r
    unfold pieces at h
    split at h
    · rcases List.mem_cons.1 h with rfl | h
      · simp
      · exact ih x h
    · next hc =>
      cases hp : pieces r with
      | nil => exact absurd hp hne
      | cons y t =>
        rw [hp] at h ih
        simp only [List.headD_cons, List.tail_cons] at h
        rcases List.mem_cons.1 h with rfl | h
        · intro e
          rcases List.mem_cons.1 e with e | e
          · exact hc e.symm
          · exact ih y (by simp) e
        · exact ih x (by simp [h])
theorem pieces_length : ∀ l : List UInt8, (pieces l).length ≤ l.length + 1
  | [] => by simp [pieces]
  | c :: r => by
    have ih := pieces_length r
    unfold pieces
    split
    · simp; omega
    · simp; omega
theorem head_nil (l : List UInt8) : ((pieces l).headD [] = []) ↔ (l = [] ∨ l.head? = some 47) := by
  cases l with
  | nil => simp [pieces]
  | cons c r =>
    unfold pieces
    split
    · next h => subst h; simp
    · next h => simp [h]

/-! ### paths of components -/
def tails (r : List (List UInt8)) : List UInt8 := (r.map (47 :: ·)).flatten
def glue : List (List UInt8) → List UInt8
  | [] => []
  | x :: r => x ++ tails r
theorem glue_two (x y : List UInt8) (r : List (List UInt8)) : glue (x :: y :: r) = x ++ 47 :: glue (y :: r) := by simp [glue, tails]
theorem pieces_glue : ∀ l : List (List UInt8), l ≠ [] → (∀ x ∈ l, (47 : UInt8) ∉ x) → pieces (glue l) = l
  | [], h, _ => absurd rfl h
  | [x], _, h => by simp only [glue, tails, List.map_nil, List.flatten_nil, List.append_nil]; exact pieces_none x (h x (by simp))
  | x :: y :: r, _, h => by
    rw [glue_two, pieces_first _ _ (h x (by simp)), pieces_glue (y :: r) (by simp) (fun z hz => h z (by simp [hz]))]
theorem glue_snoc (l : List (List UInt8)) (x : List UInt8) (h : l ≠ []) : glue (l ++ [x]) = glue l ++ 47 :: x := by
  cases l with
  | nil => exact absurd rfl h
  | cons y r => simp [glue, tails]
theorem glue_eq_nil (l : List (List UInt8)) (h : ∀ x ∈ l, x ≠ []) : glue l = [] ↔ l = [] := by
  cases l with
  | nil => simp [glue]
  | cons x r =>
    have := h x (by simp)
    simp [glue, this]
theorem glue_len_le : ∀ (l r : List (List UInt8)), (glue l).length ≤ (glue (l ++ r)).length
  | [], r => by simp [glue]
  | x :: l, r => by simp [glue, tails]

/-! ### names -/
def bad (s : List UInt8) : Bool := s.isEmpty || s == [46] || s == [46, 46] || decide (255 < s.length) || s.any fun c => c == 47 || c == 0
def nameN (s : List UInt8) : Nat := if bad s then 30 else 0
def namesN (l : List (List UInt8)) : Nat := if l.any bad then 30 else 0

def parts (p : List UInt8) : List (List UInt8) × Nat :=
  if 4096 < p.length then ([], 2) else if p = [] then ([], 0) else if (pieces p).any bad then ([], 30) else if 64 < (pieces p).length then ([], 2) else (pieces p, 0)
def join (l : List (List UInt8)) : List UInt8 × Nat :=
  if l.any bad then ([], 30) else if 64 < l.length then ([], 2) else if 4096 < (glue l).length then ([], 2) else (glue l, 0)

theorem bad_false {s : List UInt8} (h : bad s = false) : s ≠ [] ∧ s ≠ [46] ∧ s ≠ [46, 46] ∧ s.length ≤ 255 ∧ (47 : UInt8) ∉ s ∧ (0 : UInt8) ∉ s := by
  unfold bad at h
  simp only [Bool.or_eq_false_iff, beq_eq_false_iff_ne, decide_eq_false_iff_not, List.any_eq_false, List.isEmpty_eq_false_iff] at h
  obtain ⟨⟨⟨⟨h1, h2⟩, h3⟩, h4⟩, h5⟩ := h
  refine ⟨h1, h2, h3, by omega, fun e => ?_, fun e => ?_⟩
  · have := h5 _ e; simp at this
  · have := h5 _ e; simp at this
theorem any_bad_false {l : List (List UInt8)} (h : l.any bad = false) : ∀ x ∈ l, bad x = false := by
  intro x hx
  simpa using List.any_eq_false.1 h x hx

theorem join_ok {l : List (List UInt8)} (h : (join l).2 = 0) : l.any bad = false ∧ l.length ≤ 64 ∧ (glue l).length ≤ 4096 ∧ (join l).1 = glue l := by
  unfold join at h ⊢
  split at h
  · cases h
  · split at h
    · cases h
    · split at h
      · cases h
      · rename_i a b c
        rw [if_neg a, if_neg b, if_neg c]
        exact ⟨by simpa using a, by omega, by omega, rfl⟩
theorem join_mk {l : List (List UInt8)} (h1 : l.any bad = false) (h2 : l.length ≤ 64) (h3 : (glue l).length ≤ 4096) : join l = (glue l, 0) := by
  unfold join
  rw [if_neg (by simp [h1]), if_neg (by omega), if_neg (by omega)]
theorem parts_glue {l : List (List UInt8)} (h1 : l.any bad = false) (h2 : l.length ≤ 64) (h3 : (glue l).length ≤ 4096) : parts (glue l) = (l, 0) := by
  unfold parts
  rw [if_neg (by omega)]
  by_cases h : l = []
  · subst h; rfl
  · have hb := any_bad_false h1
    have hg : glue l ≠ [] := fun e => h ((glue_eq_nil l fun x hx => (bad_false (hb x hx)).1).1 e)
    rw [if_neg hg, pieces_glue l h fun x hx => (bad_false (hb x hx)).2.2.2.2.1, if_neg (by simp [h1]), if_neg (by omega)]
theorem parts_ok {p : List UInt8} (h : (parts p).2 = 0) : (parts p).1.any bad = false ∧ (parts p).1.length ≤ 64 ∧ p.length ≤ 4096 := by
  unfold parts at h ⊢
  split at h
  · cases h
  · split at h
    · rename_i a b; rw [if_neg a, if_pos b]; exact ⟨rfl, by simp, by omega⟩
    · split at h
      · cases h
      · split at h
        · cases h
        · rename_i a b c d
          rw [if_neg a, if_neg b, if_neg c, if_neg d]
          exact ⟨by simpa using c, Nat.le_of_not_lt d, by omega⟩

/-! ### the last component -/
def base (l : List UInt8) : List UInt8 := (l.reverse.takeWhile (· != 47)).reverse
def dir (l : List UInt8) : List UInt8 := l.take (l.length - (base l).length - 1)
theorem takeWhile_none (l : List UInt8) (h : (47 : UInt8) ∉ l) : l.takeWhile (· != 47) = l := by
  induction l with
  | nil => rfl
  | cons c r ih =>
    have hc : c ≠ 47 := fun e => h (by simp [e])
    rw [List.takeWhile_cons, if_pos (by simpa using hc), ih (fun e => h (by simp [e]))]
theorem base_none (l : List UInt8) (h : (47 : UInt8) ∉ l) : base l = l := by
  unfold base
  rw [takeWhile_none _ (by simpa using h), List.reverse_reverse]
theorem takeWhile_first : ∀ (a b : List UInt8), (47 : UInt8) ∉ a → (a ++ 47 :: b).takeWhile (· != 47) = a
  | [], b, _ => by simp
  | c :: a, b, h => by
    have hc : c ≠ 47 := fun e => h (by simp [e])
    rw [List.cons_append, List.takeWhile_cons, if_pos (by simpa using hc), takeWhile_first a b (fun e => h (by simp [e]))]
theorem base_last (a b : List UInt8) (h : (47 : UInt8) ∉ b) : base (a ++ 47 :: b) = b := by
  unfold base
  rw [List.reverse_append, List.reverse_cons, List.append_assoc, List.singleton_append, takeWhile_first _ _ (by simpa using h), List.reverse_reverse]
theorem dir_none (l : List UInt8) (h : (47 : UInt8) ∉ l) : dir l = [] := by
  unfold dir
  rw [base_none l h]
  simp
theorem dir_last (a b : List UInt8) (h : (47 : UInt8) ∉ b) : dir (a ++ 47 :: b) = a := by
  unfold dir
  rw [base_last a b h]
  have : (a ++ 47 :: b).length - b.length - 1 = a.length := by simp; omega
  rw [this, List.take_left]

/-! ### stripping -/
def step1 (l : List UInt8) : List UInt8 := ((l.dropWhile (· != 47)).drop 1).dropWhile (· == 47)
def stripN : Nat → List UInt8 → List UInt8
  | 0, l => l
  | n + 1, l => stripN n (step1 l)
def trimR (l : List UInt8) : List UInt8 := (l.reverse.dropWhile (· == 47)).reverse
def strip (l : List UInt8) (n : Int) : List UInt8 × Nat :=
  if n < -1 then ([], 1) else if (if n = -1 then base (trimR l) else stripN n.toNat l) = [] then ([], 32) else (if n = -1 then base (trimR l) else stripN n.toNat l, 0)
theorem step1_nil : step1 [] = [] := rfl
theorem stripN_nil : ∀ n, stripN n [] = []
  | 0 => rfl
  | n + 1 => by rw [stripN, step1_nil, stripN_nil n]
theorem stripN_succ : ∀ n l, stripN (n + 1) l = step1 (stripN n l)
  | 0, l => rfl
  | n + 1, l => by rw [stripN, stripN_succ n (step1 l), stripN]
theorem dropWhile_none (l : List UInt8) (h : (47 : UInt8) ∉ l) : l.dropWhile (· != 47) = [] := by
  induction l with
  | nil => rfl
  | cons c r ih =>
    have hc : c ≠ 47 := fun e => h (by simp [e])
    rw [List.dropWhile_cons, if_pos (by simpa using hc), ih (fun e => h (by simp [e]))]
theorem dropWhile_first : ∀ (a b : List UInt8), (47 : UInt8) ∉ a → (a ++ 47 :: b).dropWhile (· != 47) = 47 :: b
  | [], b, _ => by simp
  | c :: a, b, h => by
    have hc : c ≠ 47 := fun e => h (by simp [e])
    rw [List.cons_append, List.dropWhile_cons, if_pos (by simpa using hc), dropWhile_first a b (fun e => h (by simp [e]))]
theorem step1_none (l : List UInt8) (h : (47 : UInt8) ∉ l) : step1 l = [] := by
  unfold step1
  rw [dropWhile_none l h]
  rfl
theorem step1_first (a b : List UInt8) (h : (47 : UInt8) ∉ a) : step1 (a ++ 47 :: b) = b.dropWhile (· == 47) := by
  unfold step1
  rw [dropWhile_first a b h]
  rfl
theorem dropWhile_len (p : UInt8 → Bool) (l : List UInt8) : (l.dropWhile p).length ≤ l.length := by
  induction l with
  | nil => simp
  | cons c r ih =>
    rw [List.dropWhile_cons]
    split
    · simp; omega
    · simp
theorem step1_len (l : List UInt8) : (step1 l).length ≤ l.length - 1 := by
  unfold step1
  have h1 := dropWhile_len (· == 47) ((l.dropWhile (· != 47)).drop 1)
  have h2 := dropWhile_len (· != 47) l
  rw [List.length_drop] at h1
  omega
theorem stripN_len : ∀ n l, (stripN n l).length ≤ l.length
  | 0, _ => Nat.le_refl _
  | n + 1, l => by
    have := stripN_len n (step1 l)
    have := step1_len l
    rw [stripN]; omega
theorem strip_err (l : List UInt8) (n : Int) (hn : 0 ≤ n) : strip l n = (stripN n.toNat l, if stripN n.toNat l = [] then 32 else 0) := by
  have e : n ≠ -1 := by omega
  unfold strip
  rw [if_neg (by omega)]
  simp only [e, if_false]
  by_cases h : stripN n.toNat l = []
  · rw [if_pos h, h]; rfl
  · rw [if_neg h, if_neg h]
/-- Stripping goes on from where it was. -/
theorem strip_on (l : List UInt8) (n : Int) (hn : 0 ≤ n) : strip l (n + 1) = if (strip l n).2 = 0 then strip (strip l n).1 1 else ([], 32) := by
  have e : (n + 1).toNat = n.toNat + 1 := by omega
  rw [strip_err l n hn, strip_err l (n + 1) (by omega), e, stripN_succ]
  by_cases h : stripN n.toNat l = []
  · simp [h, step1_nil]
  · simp only [h, if_false, if_true]
    rw [strip_err _ 1 (by omega)]
    rfl

/-! ### what is safe -/
def nowhere (x : List UInt8) : Bool := x == [] || x == [46]
def left (l : List UInt8) : List (List UInt8) := (pieces l).filter fun x => !nowhere x
def safe (l : List UInt8) : List UInt8 × Nat :=
  if (pieces l).headD [] = [] ∨ [46, 46] ∈ pieces l then ([], 31) else if left l = [] then ([], 30) else join (left l)
theorem left_of_good (l : List UInt8) (h : (pieces l).any bad = false) : left l = pieces l := by
  unfold left
  refine List.filter_eq_self.2 fun x hx => ?_
  have hb := bad_false (any_bad_false h x hx)
  simp [nowhere, hb.1, hb.2.1]
/-- What is safe stays so. -/
theorem safe_back (l : List UInt8) (h : (safe l).2 = 0) : ∃ q : List (List UInt8), q ≠ [] ∧ q.any bad = false ∧ q.length ≤ 64 ∧ (glue q).length ≤ 4096 ∧ (safe l).1 = glue q ∧ safe (glue q) = (glue q, 0) ∧ parts (glue q) = (q, 0) := by
  unfold safe at h
  split at h
  · cases h
  · next h1 =>
    split at h
    · cases h
    · next h2 =>
      obtain ⟨k1, k2, k3, k4⟩ := join_ok h
      have hb := any_bad_false k1
      have hp := pieces_glue (left l) h2 fun x hx => (bad_false (hb x hx)).2.2.2.2.1
      refine ⟨left l, h2, k1, k2, k3, ?_, ?_, parts_glue k1 k2 k3⟩
      · unfold safe
        rw [if_neg h1, if_neg h2, k4]
      · have hl : left (glue (left l)) = left l := by rw [left_of_good _ (by rw [hp]; exact k1), hp]
        unfold safe
        rw [hp, hl, if_neg, if_neg h2, join_mk k1 k2 k3]
        rintro (e | e)
        · cases hq : left l with
          | nil => exact h2 hq
          | cons x r => rw [hq] at e; exact (bad_false (hb x (by rw [hq]; simp))).1 e
        · exact (bad_false (hb _ e)).2.2.1 rfl

def below (d p : List UInt8) : Bool := d.isEmpty || (d.isPrefixOf p && ((p.drop d.length).isEmpty || [47].isPrefixOf (p.drop d.length)))

/-! ### ways -/
def common : List (List UInt8) → List (List UInt8) → Nat
  | x :: a, y :: b => if x = y then common a b + 1 else 0
  | _, _ => 0
def steps (a b : List (List UInt8)) : List (List UInt8) := List.replicate (a.length - common a b) [46, 46] ++ b.drop (common a b)
def rel (f t : List UInt8) : List UInt8 × Nat :=
  if (parts f).2 ≠ 0 then ([], (parts f).2) else if (parts t).2 ≠ 0 then ([], (parts t).2)
  else if steps (parts f).1 (parts t).1 = [] then ([46], 0) else (glue (steps (parts f).1 (parts t).1), 0)
def walk : List (List UInt8) → List (List UInt8) → List (List UInt8) × Nat
  | a, [] => (a, 0)
  | a, x :: r => if nowhere x then walk a r else if x = [46, 46] then (if a = [] then ([], 31) else walk a.dropLast r) else if bad x then ([], 30) else walk (a ++ [x]) r
def go (f r : List UInt8) : List UInt8 × Nat :=
  if (parts f).2 ≠ 0 then ([], (parts f).2) else if 4096 < r.length then ([], 2) else if r.head? = some 47 then ([], 31)
  else if (walk (parts f).1 (pieces r)).2 ≠ 0 then ([], (walk (parts f).1 (pieces r)).2) else join (walk (parts f).1 (pieces r)).1

theorem common_le : ∀ a b : List (List UInt8), common a b ≤ a.length ∧ common a b ≤ b.length
  | [], b => by cases b <;> simp [common]
  | x :: a, [] => by simp [common]
  | x :: a, y :: b => by
    have := common_le a b
    unfold common
    split <;> simp <;> omega
theorem common_take : ∀ a b : List (List UInt8), a.take (common a b) = b.take (common a b)
  | [], b => by cases b <;> simp [common]
  | x :: a, [] => by simp [common]
  | x :: a, y :: b => by
    have := common_take a b
    unfold common
    split
    · next h => simp [h, this]
    · simp
theorem walk_up : ∀ (k : Nat) (a r : List (List UInt8)), k ≤ a.length → walk a (List.replicate k [46, 46] ++ r) = walk (a.take (a.length - k)) r
  | 0, a, r, _ => by simp
  | k + 1, a, r, h => by
    have hne : a ≠ [] := fun e => by subst e; simp at h
    rw [List.replicate_succ, List.cons_append, walk, if_neg (by simp [nowhere]), if_pos rfl, if_neg hne, walk_up k a.dropLast r (by rw [List.length_dropLast]; omega)]
    congr 1
    rw [List.dropLast_eq_take, List.take_take, List.length_take]
    congr 1
    omega
theorem walk_down : ∀ (r a : List (List UInt8)), r.any bad = false → walk a r = (a ++ r, 0)
  | [], a, _ => by simp [walk]
  | x :: r, a, h => by
    have hx := bad_false (any_bad_false h x (by simp))
    have hb := any_bad_false h x (by simp)
    rw [walk, if_neg (by simp [nowhere, hx.1, hx.2.1]), if_neg hx.2.2.1, if_neg (by simp [hb]), walk_down r (a ++ [x]) (by simpa using (List.any_eq_false.1 h |> fun k => List.any_eq_false.2 fun z hz => k z (by simp [hz])))]
    simp
theorem walk_steps (a b : List (List UInt8)) (hb : b.any bad = false) : walk a (steps a b) = (b, 0) := by
  have h1 := common_le a b
  have h2 := common_take a b
  have hd : (b.drop (common a b)).any bad = false := List.any_eq_false.2 fun z hz => List.any_eq_false.1 hb z (List.mem_of_mem_drop hz)
  unfold steps
  rw [walk_up _ _ _ (by omega), walk_down _ _ hd]
  have : a.length - (a.length - common a b) = common a b := by omega
  rw [this, h2, List.take_append_drop]
/-- The way from a directory to a path leads there. -/
theorem goes (a b : List (List UInt8)) (ha : (join a).2 = 0) (hb : (join b).2 = 0) :
    (rel (join a).1 (join b).1).2 = 0 ∧ (4096 < (rel (join a).1 (join b).1).1.length → (go (join a).1 (rel (join a).1 (join b).1).1).2 = 2) ∧
      (¬ 4096 < (rel (join a).1 (join b).1).1.length → go (join a).1 (rel (join a).1 (join b).1).1 = ((join b).1, 0)) := by
  obtain ⟨a1, a2, a3, a4⟩ := join_ok ha
  obtain ⟨b1, b2, b3, b4⟩ := join_ok hb
  rw [a4, b4]
  have pa := parts_glue a1 a2 a3
  have pb := parts_glue b1 b2 b3
  have hw := walk_steps a b b1
  have hj := join_mk b1 b2 b3
  have hr : rel (glue a) (glue b) = if steps a b = [] then ([46], 0) else (glue (steps a b), 0) := by unfold rel; simp only [pa, pb]; simp
  rw [hr]
  by_cases hs : steps a b = []
  · rw [if_pos hs]
    rw [hs, walk] at hw
    have hab : a = b := congrArg Prod.fst hw
    refine ⟨rfl, fun h => by simp at h, fun _ => ?_⟩
    unfold go
    have hp : pieces [46] = [[46]] := by decide
    have hwk : walk a [[46]] = (a, 0) := by simp [walk, nowhere]
    simp only [pa, hp, hwk]
    rw [hab, hj]
    simp
  · rw [if_neg hs]
    have hgood : ∀ x ∈ steps a b, x ≠ [] ∧ (47 : UInt8) ∉ x := by
      intro x hx
      unfold steps at hx
      rcases List.mem_append.1 hx with h | h
      · rw [List.eq_of_mem_replicate h]; decide
      · have := bad_false (any_bad_false b1 x (List.mem_of_mem_drop h))
        exact ⟨this.1, this.2.2.2.2.1⟩
    have hp := pieces_glue (steps a b) hs fun x hx => (hgood x hx).2
    have hhd : (glue (steps a b)).head? ≠ some 47 := by
      intro e
      have := (head_nil (glue (steps a b))).2 (.inr e)
      rw [hp] at this
      cases hq : steps a b with
      | nil => exact hs hq
      | cons x r => rw [hq] at this; exact (hgood x (by rw [hq]; simp)).1 this
    refine ⟨rfl, fun h => ?_, fun h => ?_⟩
    · unfold go
      simp only [pa]
      rw [if_neg (by simp), if_pos h]
    · unfold go
      simp only [pa, hp, hw]
      rw [if_neg (by simp), if_neg h, if_neg hhd, if_neg (by simp), hj]
end Go.Proofs.YtfjhjhjdneihbaaGreatDoor.Pp
