/-
  Script, plain: the runs of rows, the changes that a hunk tells, those of built hunks. No program, no world.
-/
import Derived.Test.YthnibchlgcgalaaGreatDoorGrPl
namespace Go.Proofs.YthnibchlgcgalaaGreatDoor.Hu
open Go
open Ed (Ch Pr okC val apart)

def run1 (f i : Nat) : List (Nat × Nat) := if f < i then [(f, i)] else []
def runsR : List Rw → Nat → Nat → List (Nat × Nat)
  | [], i, f => run1 f i
  | r :: l, i, f => if isC r then runsR l (i + 1) f else run1 f i ++ runsR l (i + 1) (i + 1)
/-- rows from one place to another -/
def sub (l : List Rw) (f t : Nat) : List Rw := (l.drop f).take (t - f)
def chOf (p q : Int) (l : List Rw) (ft : Nat × Nat) : Ch := ⟨p + (olds (l.take ft.1)).length, (olds (sub l ft.1 ft.2)).length, q + (fres (l.take ft.1)).length, (fres (sub l ft.1 ft.2)).length⟩
def scrH (h : Hk) : List Ch := (runsR h.rows 0 0).map (chOf (plc h.a h.n) (plc h.b h.m) h.rows)
def scr (l : List Hk) : List Ch := l.flatMap scrH
def addO (x y : Int) : Option Ch → Ch
  | none => ⟨x, 1, y, 0⟩
  | some c => ⟨c.a, c.n + 1, c.b, c.m⟩
def addF (x y : Int) : Option Ch → Ch
  | none => ⟨x, 0, y, 1⟩
  | some c => ⟨c.a, c.n, c.b, c.m + 1⟩
/-- as the document goes through the rows -/
def scrS : List Rw → Int → Int → Option Ch → List Ch
  | [], _, _, cur => cur.toList
  | r :: l, x, y, cur =>
    if r.k = 1 then cur.toList ++ scrS l (x + 1) (y + 1) none
    else if r.k = 2 then scrS l (x + 1) y (some (addO x y cur))
    else scrS l x (y + 1) (some (addF x y cur))
theorem sub_more {l : List Rw} {f i : Nat} {r : Rw} (h : l[i]? = some r) (hf : f ≤ i) : sub l f (i + 1) = sub l f i ++ [r] := by
  unfold sub
  rw [show i + 1 - f = (i - f) + 1 by omega, List.take_add_one, List.getElem?_drop, show f + (i - f) = i by omega, h]
  rfl
theorem sub_none (l : List Rw) (f : Nat) : sub l f f = [] := by unfold sub; rw [Nat.sub_self]; rfl
theorem take_more {l : List Rw} {i : Nat} {r : Rw} (h : l[i]? = some r) : l.take (i + 1) = l.take i ++ [r] := by rw [List.take_add_one, h]; rfl
theorem olds_one {r : Rw} : (olds [r]).length = if isO r then 1 else 0 := by
  rw [olds_cons]
  split <;> rfl
theorem fres_one {r : Rw} : (fres [r]).length = if isF r then 1 else 0 := by
  rw [fres_cons]
  split <;> rfl
theorem runs_scrS {L : List Rw} {p q : Int} (hk : ∀ r ∈ L, r.k = 1 ∨ r.k = 2 ∨ r.k = 3) : ∀ (l : List Rw) (i f : Nat), L.drop i = l → f ≤ i → i ≤ L.length →
    (runsR l i f).map (chOf p q L) = scrS l (p + (olds (L.take i)).length) (q + (fres (L.take i)).length) (if f < i then some (chOf p q L (f, i)) else none)
  | [], i, f, hl, hf, hi => by
    rw [runsR, scrS, run1]
    split <;> rfl
  | r :: l, i, f, hl, hf, hi => by
    have hr : L[i]? = some r := by
      have := congrArg (·[0]?) hl
      simpa using this
    have hl' : L.drop (i + 1) = l := by
      have := congrArg (List.drop 1) hl
      rw [List.drop_drop] at this
      simpa [Nat.add_comm] using this
    have hil : i < L.length := (List.getElem?_eq_some_iff.1 hr).1
    have hkr := hk r (List.mem_of_getElem? hr)
    have ht := take_more hr
    rw [runsR, scrS]
    rcases hkr with h1 | h2 | h3
    · have c1 : isC r = false := by unfold isC; rw [h1]; rfl
      have o1 : isO r = true := by unfold isO; rw [h1]; rfl
      have f1 : isF r = true := by unfold isF; rw [h1]; rfl
      rw [c1, if_neg (by simp), if_pos h1, List.map_append, runs_scrS hk l (i + 1) (i + 1) hl' (Nat.le_refl _) hil, if_neg (Nat.lt_irrefl _), ht, olds_app, fres_app, List.length_append, List.length_append, olds_one, fres_one, o1, f1]
      congr 1
      · unfold run1
        split <;> rfl
      · congr 1 <;> simp <;> omega
    · have c1 : isC r = true := by unfold isC; rw [h2]; rfl
      have o1 : isO r = true := by unfold isO; rw [h2]; rfl
      have f1 : isF r = false := by unfold isF; rw [h2]; rfl
      rw [c1, if_pos rfl, if_neg (by omega), if_pos h2, runs_scrS hk l (i + 1) f hl' (by omega) hil, if_pos (by omega), ht, olds_app, fres_app, List.length_append, List.length_append, olds_one, fres_one, o1, f1]
      refine congr (congr (congrArg (scrS l) ?_) ?_) (congrArg some ?_)
      · simp only [if_true]; push_cast; omega
      · simp
      · by_cases hfi : f < i
        · rw [if_pos hfi]
          unfold chOf
          simp only [sub_more hr hf, olds_app, fres_app, List.length_append, olds_one, fres_one, o1, f1, addO]
          simp
        · obtain rfl : f = i := by omega
          rw [if_neg (Nat.lt_irrefl _)]
          unfold chOf
          simp only [sub_more hr hf, sub_none, List.nil_append, olds_one, fres_one, o1, f1]
          rfl
    · have c1 : isC r = true := by unfold isC; rw [h3]; rfl
      have o1 : isO r = false := by unfold isO; rw [h3]; rfl
      have f1 : isF r = true := by unfold isF; rw [h3]; rfl
      rw [c1, if_pos rfl, if_neg (by omega), if_neg (by omega), runs_scrS hk l (i + 1) f hl' (by omega) hil, if_pos (by omega), ht, olds_app, fres_app, List.length_append, List.length_append, olds_one, fres_one, o1, f1]
      refine congr (congr (congrArg (scrS l) ?_) ?_) (congrArg some ?_)
      · simp
      · simp only [if_true]; push_cast; omega
      · by_cases hfi : f < i
        · rw [if_pos hfi]
          unfold chOf
          simp only [sub_more hr hf, olds_app, fres_app, List.length_append, olds_one, fres_one, o1, f1, addF]
          simp
        · obtain rfl : f = i := by omega
          rw [if_neg (Nat.lt_irrefl _)]
          unfold chOf
          simp only [sub_more hr hf, sub_none, List.nil_append, olds_one, fres_one, o1, f1]
          rfl
theorem scrH_eq {h : Hk} (hk : ∀ r ∈ h.rows, r.k = 1 ∨ r.k = 2 ∨ r.k = 3) : scrH h = scrS h.rows (plc h.a h.n) (plc h.b h.m) none := by
  unfold scrH
  rw [runs_scrS hk h.rows 0 0 rfl (Nat.le_refl _) (Nat.zero_le _)]
  simp [olds, fres]

/-! ### the changes of built hunks -/
theorem scrS_both (xs : List ByteArray) (l : List Rw) : ∀ (x y : Int), scrS (mk 1 xs ++ l) x y none = scrS l (x + xs.length) (y + xs.length) none := by
  induction xs with
  | nil => intro x y; simp [mk]
  | cons z xs ih =>
    intro x y
    show scrS (⟨1, z⟩ :: (mk 1 xs ++ l)) x y none = _
    rw [scrS, if_pos rfl, ih]
    simp only [Option.toList, List.nil_append, List.length_cons]
    congr 1 <;> push_cast <;> omega
theorem scrS_bothS (z : ByteArray) (xs : List ByteArray) (l : List Rw) (x y : Int) (c : Ch) : scrS (mk 1 (z :: xs) ++ l) x y (some c) = c :: scrS (mk 1 (z :: xs) ++ l) x y none := by
  show scrS (⟨1, z⟩ :: (mk 1 xs ++ l)) x y (some c) = c :: scrS (⟨1, z⟩ :: (mk 1 xs ++ l)) x y none
  rw [scrS, if_pos rfl, scrS, if_pos rfl]
  rfl
theorem scrS_old (xs : List ByteArray) (l : List Rw) : ∀ (x y : Int) (c : Ch), scrS (mk 2 xs ++ l) x y (some c) = scrS l (x + xs.length) y (some ⟨c.a, c.n + xs.length, c.b, c.m⟩) := by
  induction xs with
  | nil => intro x y c; simp [mk]
  | cons z xs ih =>
    intro x y c
    show scrS (⟨2, z⟩ :: (mk 2 xs ++ l)) x y (some c) = _
    rw [scrS, if_neg (show ¬ (2 : Int) = 1 by omega), if_pos rfl, ih]
    simp only [List.length_cons, addO]
    congr 1
    · push_cast; omega
    · congr 2; push_cast; omega
theorem scrS_new (xs : List ByteArray) (l : List Rw) : ∀ (x y : Int) (c : Ch), scrS (mk 3 xs ++ l) x y (some c) = scrS l x (y + xs.length) (some ⟨c.a, c.n, c.b, c.m + xs.length⟩) := by
  induction xs with
  | nil => intro x y c; simp [mk]
  | cons z xs ih =>
    intro x y c
    show scrS (⟨3, z⟩ :: (mk 3 xs ++ l)) x y (some c) = _
    rw [scrS, if_neg (show ¬ (3 : Int) = 1 by omega), if_neg (show ¬ (3 : Int) = 2 by omega), ih]
    simp only [List.length_cons, addF]
    congr 1
    · push_cast; omega
    · congr 2; push_cast; omega
theorem scrS_chg (xs ys : List ByteArray) (l : List Rw) (x y : Int) (h : ¬ (xs.length = 0 ∧ ys.length = 0)) : scrS (mk 2 xs ++ (mk 3 ys ++ l)) x y none = scrS l (x + xs.length) (y + ys.length) (some ⟨x, xs.length, y, ys.length⟩) := by
  cases xs with
  | nil =>
    cases ys with
    | nil => simp at h
    | cons z ys =>
      show scrS (⟨3, z⟩ :: (mk 3 ys ++ l)) x y none = _
      rw [scrS, if_neg (show ¬ (3 : Int) = 1 by omega), if_neg (show ¬ (3 : Int) = 2 by omega), scrS_new]
      simp only [List.length_cons, List.length_nil, addF]
      refine congr (congr (congrArg (scrS l) ?_) ?_) (congrArg some ?_)
      · simp
      · push_cast; omega
      · refine Ed.Ch.ext' rfl ?_ rfl ?_
        · simp
        · simp only; push_cast; omega
  | cons z xs =>
    show scrS (⟨2, z⟩ :: (mk 2 xs ++ (mk 3 ys ++ l))) x y none = _
    rw [scrS, if_neg (show ¬ (2 : Int) = 1 by omega), if_pos rfl, scrS_old, scrS_new]
    simp only [List.length_cons, addO]
    refine congr (congr (congrArg (scrS l) ?_) ?_) (congrArg some ?_)
    · push_cast; omega
    · rfl
    · refine Ed.Ch.ext' rfl ?_ rfl ?_
      · simp only; push_cast; omega
      · simp
theorem scrS_rowsG {a b : List ByteArray} : ∀ (g : List Ch) (p p' q n m : Int), inc g p p' n m → apart g → 0 ≤ p → 0 ≤ p' → endA p g ≤ q → q ≤ a.length → n ≤ a.length → m ≤ b.length → scrS (rowsG a b p g q) p p' none = g
  | [], p, p', q, n, m, _, _, _, _, _, _, _, _ => by
    rw [rowsG]
    have := scrS_both (sl a p q) [] p p'
    rw [List.append_nil] at this
    rw [this]
    rfl
  | c :: r, p, p', q, n, m, hi, ha, hp, hp', he, hq, hn, hm => by
    obtain ⟨⟨⟨p1, p2, p3⟩, ⟨p4, p5, p6⟩, p7, p8⟩, hr⟩ := hi
    have hq' : endA (c.a + c.n) r ≤ q := he
    have hge := endA_ge hr
    have ih := scrS_rowsG (a := a) (b := b) r (c.a + c.n) (c.b + c.m) q n m hr ha.2 (by omega) (by omega) hq' hq hn hm
    have e1 := sl_len (l := a) (x := p) (y := c.a) hp p1 (by omega)
    have e2 := sl_len (l := a) (x := c.a) (y := c.a + c.n) (by omega) (by omega) (by omega)
    have e3 := sl_len (l := b) (x := c.b) (y := c.b + c.m) (by omega) (by omega) (by omega)
    rw [rowsG, scrS_both, scrS_chg _ _ _ _ _ (by omega), e1, e2, e3]
    rw [show p + (c.a - p) = c.a by omega, show p' + (c.a - p) = c.b by omega, show c.a + c.n - c.a = c.n by omega, show c.b + c.m - c.b = c.m by omega]
    have hS : ∀ cc : Ch, scrS (rowsG a b (c.a + c.n) r q) (c.a + c.n) (c.b + c.m) (some cc) = cc :: scrS (rowsG a b (c.a + c.n) r q) (c.a + c.n) (c.b + c.m) none := by
      intro cc
      cases r with
      | nil =>
        rw [rowsG]
        cases hs : sl a (c.a + c.n) q with
        | nil => rfl
        | cons z zs =>
          have := scrS_bothS z zs [] (c.a + c.n) (c.b + c.m) cc
          rw [List.append_nil] at this
          exact this
      | cons d r =>
        obtain ⟨⟨⟨s1, s2, s3⟩, ⟨s4, s5, s6⟩, s7, s8⟩, _⟩ := hr
        have hne := ha.1 d rfl
        have e4 := sl_len (l := a) (x := c.a + c.n) (y := d.a) (by omega) (by omega) (by omega)
        rw [rowsG]
        cases hs : sl a (c.a + c.n) d.a with
        | nil => rw [hs] at e4; simp at e4; omega
        | cons z zs => exact scrS_bothS z zs _ _ _ cc
    rw [hS, ih]
theorem Kd_rowsG' (a b : List ByteArray) : ∀ (g : List Ch) (p q : Int), ∀ r ∈ rowsG a b p g q, r.k = 1 ∨ r.k = 2 ∨ r.k = 3
  | [], p, q, r, h => by
    rw [rowsG] at h
    unfold mk at h
    obtain ⟨x, _, rfl⟩ := List.mem_map.1 h
    exact .inl rfl
  | c :: g, p, q, r, h => by
    rw [rowsG] at h
    rcases List.mem_append.1 h with h | h
    · unfold mk at h; obtain ⟨x, _, rfl⟩ := List.mem_map.1 h; exact .inl rfl
    rcases List.mem_append.1 h with h | h
    · unfold mk at h; obtain ⟨x, _, rfl⟩ := List.mem_map.1 h; exact .inr (.inl rfl)
    rcases List.mem_append.1 h with h | h
    · unfold mk at h; obtain ⟨x, _, rfl⟩ := List.mem_map.1 h; exact .inr (.inr rfl)
    · exact Kd_rowsG' a b g _ _ r h
theorem plc_told (p : Int) (n : Nat) : plc (told p n) n = p := by
  unfold plc told
  split <;> split <;> omega
/-- a built hunk tells its group -/
theorem scrH_ofG {ctx : Int} {a b : List ByteArray} {g : List Ch} {n m : Int} (hi : inc g (fromG ctx g) (fromH ctx g) n m) (ha : apart g) (h0 : 0 ≤ fromG ctx g) (h1 : 0 ≤ fromH ctx g) (he : endA (fromG ctx g) g ≤ toG ctx a.length g) (hq : toG ctx a.length g ≤ a.length) (hn : n ≤ a.length) (hm : m ≤ b.length) : scrH (ofG ctx a b g) = g := by
  have hr : (ofG ctx a b g).rows = rowsG a b (fromG ctx g) g (toG ctx a.length g) := rfl
  rw [scrH_eq (by rw [hr]; exact Kd_rowsG' a b g _ _)]
  have e1 : plc (ofG ctx a b g).a (ofG ctx a b g).n = fromG ctx g := plc_told _ _
  have e2 : plc (ofG ctx a b g).b (ofG ctx a b g).m = fromH ctx g := plc_told _ _
  rw [e1, e2, hr]
  exact scrS_rowsG g _ _ _ n m hi ha h0 h1 he hq hn hm
theorem apart_take {t : List Ch} (h : apart t) : ∀ k, apart (t.take k) := by
  induction t with
  | nil => intro k; simp [apart]
  | cons c r ih =>
    intro k
    cases k with
    | zero => exact True.intro
    | succ k =>
      rw [List.take_succ_cons]
      refine ⟨fun d hd => h.1 d ?_, ih h.2 k⟩
      cases k with
      | zero => simp at hd
      | succ k =>
        cases r with
        | nil => simp at hd
        | cons e r => simpa using hd
theorem apart_drop {t : List Ch} (h : apart t) : ∀ k, apart (t.drop k) := by
  induction t with
  | nil => intro k; simp [apart]
  | cons c r ih =>
    intro k
    cases k with
    | zero => exact h
    | succ k => exact ih h.2 k
end Go.Proofs.YthnibchlgcgalaaGreatDoor.Hu
