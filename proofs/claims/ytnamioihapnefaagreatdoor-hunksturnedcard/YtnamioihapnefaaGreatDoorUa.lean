/-
  Less context, plain: built hunks that are narrowed are those that are built with less.
-/
import Derived.Test.YtnamioihapnefaaGreatDoorLf
import Derived.Test.YtnamioihapnefaaGreatDoorMj
namespace Go.Proofs.YtnamioihapnefaaGreatDoor.Hu
open Go
open Ed (Ch Pr okC val apart)

theorem comeS_app (g r : List Ch) : Ed.comeS (g ++ r) = Ed.comeS g + Ed.comeS r := by simp [Ed.comeS]
theorem goneS_app (g r : List Ch) : Ed.goneS (g ++ r) = Ed.goneS g + Ed.goneS r := by simp [Ed.goneS]
theorem endA_app (x : Int) (g r : List Ch) : endA x (g ++ r) = endA (endA x g) r := by unfold endA; rw [List.foldl_append]
theorem endB_app (x : Int) (g r : List Ch) : endB x (g ++ r) = endB (endB x g) r := by unfold endB; rw [List.foldl_append]
theorem rowsG_split {a b : List ByteArray} : ∀ (g r : List Ch) (x y z q n m : Int), inc g x y n m → 0 ≤ x → endA x g ≤ z → (∀ d, r.head? = some d → z ≤ d.a) → (r = [] → z ≤ q) → rowsG a b x (g ++ r) q = rowsG a b x g z ++ rowsG a b z r q
  | [], r, x, y, z, q, n, m, _, hx, he, h1, h2 => by
    have he' : x ≤ z := he
    cases r with
    | nil =>
      show mk 1 (sl a x q) = mk 1 (sl a x z) ++ mk 1 (sl a z q)
      rw [← mk_app, sl_app hx he' (h2 rfl)]
    | cons c r =>
      show mk 1 (sl a x c.a) ++ _ = mk 1 (sl a x z) ++ (mk 1 (sl a z c.a) ++ _)
      have e : mk 1 (sl a x c.a) = mk 1 (sl a x z) ++ mk 1 (sl a z c.a) := by rw [← mk_app, sl_app hx he' (h1 c rfl)]
      rw [e, List.append_assoc]
  | c :: g, r, x, y, z, q, n, m, hi, hx, he, h1, h2 => by
    obtain ⟨⟨⟨p1, p2, p3⟩, _⟩, hr⟩ := hi
    show mk 1 _ ++ (mk 2 _ ++ (mk 3 _ ++ rowsG a b (c.a + c.n) (g ++ r) q)) = (mk 1 _ ++ (mk 2 _ ++ (mk 3 _ ++ rowsG a b (c.a + c.n) g z))) ++ rowsG a b z r q
    rw [rowsG_split g r (c.a + c.n) (c.b + c.m) z q n m hr (by omega) he h1 h2]
    simp only [List.append_assoc]
/-! ### the runs of a built hunk -/
theorem runs_both (xs : List ByteArray) (l : List Rw) : ∀ i, runsR (mk 1 xs ++ l) i i = runsR l (i + xs.length) (i + xs.length) := by
  induction xs with
  | nil => intro i; rfl
  | cons x xs ih =>
    intro i
    show runsR (⟨1, x⟩ :: (mk 1 xs ++ l)) i i = _
    rw [runsR, if_neg (by show ¬ isC ⟨1, x⟩ = true; simp [isC]), run1, if_neg (Nat.lt_irrefl _), List.nil_append, ih, List.length_cons, show i + 1 + xs.length = i + (xs.length + 1) by omega]
theorem runs_chg {k : Int} (hk : k = 2 ∨ k = 3) (xs : List ByteArray) (l : List Rw) : ∀ i f, runsR (mk k xs ++ l) i f = runsR l (i + xs.length) f := by
  induction xs with
  | nil => intro i f; rfl
  | cons x xs ih =>
    intro i f
    show runsR (⟨k, x⟩ :: (mk k xs ++ l)) i f = _
    rw [runsR, if_pos (by show isC ⟨k, x⟩ = true; rcases hk with rfl | rfl <;> simp [isC]), ih, List.length_cons, show i + 1 + xs.length = i + (xs.length + 1) by omega]
theorem runs_end (l : List Rw) (j f : Nat) (h : f < j) (hl : l = [] ∨ ∃ r l', l = r :: l' ∧ isC r = false) : runsR l j f = (f, j) :: runsR l j j := by
  rcases hl with rfl | ⟨r, l', rfl, hr⟩
  · rw [runsR, runsR, run1, run1, if_pos h, if_neg (Nat.lt_irrefl _)]
  · rw [runsR, runsR, hr, run1, run1, if_pos h, if_neg (Nat.lt_irrefl _)]
    simp
theorem both_head {l m : List Rw} {xs : List ByteArray} (h : l = mk 1 xs ++ m) (hx : xs ≠ [] ∨ m = []) : l = [] ∨ ∃ r l', l = r :: l' ∧ isC r = false := by
  cases xs with
  | nil =>
    rcases hx with hx | rfl
    · exact absurd rfl hx
    · exact .inl h
  | cons x xs => exact .inr ⟨⟨1, x⟩, mk 1 xs ++ m, h, rfl⟩
/-- where the runs of a built hunk stand -/
def posC (F : Int) : Int → List Ch → List (Nat × Nat)
  | _, [] => []
  | k, c :: r => ((c.a - F + k).toNat, (c.a + c.n - F + k + c.m).toNat) :: posC F (k + c.m) r
theorem runs_rowsG {a b : List ByteArray} {F : Int} : ∀ (g : List Ch) (x y q n m k : Int) (i : Nat), inc g x y n m → apart g → 0 ≤ x → 0 ≤ y → n ≤ a.length → m ≤ b.length → (i : Int) = x - F + k → runsR (rowsG a b x g q) i i = posC F k g
  | [], x, y, q, n, m, k, i, _, _, _, _, _, _, _ => by
    rw [rowsG]
    have := runs_both (sl a x q) [] i
    rw [List.append_nil] at this
    rw [this, runsR, run1, if_neg (Nat.lt_irrefl _)]
    rfl
  | c :: r, x, y, q, n, m, k, i, hi, ha, hx, hy, hn, hm, hik => by
    obtain ⟨⟨⟨p1, p2, p3⟩, ⟨p4, p5, p6⟩, p7, p8⟩, hr⟩ := hi
    have e1 := sl_len (l := a) (x := x) (y := c.a) hx p1 (by omega)
    have e2 := sl_len (l := a) (x := c.a) (y := c.a + c.n) (by omega) (by omega) (by omega)
    have e3 := sl_len (l := b) (x := c.b) (y := c.b + c.m) (by omega) (by omega) (by omega)
    have hh : rowsG a b (c.a + c.n) r q = [] ∨ ∃ r' l', rowsG a b (c.a + c.n) r q = r' :: l' ∧ isC r' = false := by
      cases r with
      | nil => exact both_head (m := []) (by rw [List.append_nil]; rfl) (.inr rfl)
      | cons d r =>
        obtain ⟨⟨⟨s1, s2, s3⟩, ⟨s4, s5, s6⟩, s7, s8⟩, _⟩ := hr
        have hne := ha.1 d rfl
        have e4 := sl_len (l := a) (x := c.a + c.n) (y := d.a) (by omega) (by omega) (by omega)
        exact both_head (xs := sl a (c.a + c.n) d.a) rfl (.inl (fun e => by rw [e] at e4; simp at e4; omega))
    rw [rowsG, runs_both, runs_chg (.inl rfl), runs_chg (.inr rfl), runs_end _ _ _ (by omega) hh]
    rw [runs_rowsG (F := F) r (c.a + c.n) (c.b + c.m) q n m (k + c.m) _ hr ha.2 (by omega) (by omega) hn hm (by push_cast; omega), posC]
    congr 2 <;> omega
/-! ### groups that are cut again -/
def chain (ctx : Int) : List Ch → Prop
  | [] => True
  | c :: r => (∀ d, r.head? = some d → d.a - c.a - c.n ≤ 2 * ctx) ∧ chain ctx r
theorem chain_snoc {ctx : Int} : ∀ {d : List Ch} {k : Ch}, chain ctx d → (∀ l, d.getLast? = some l → k.a - l.a - l.n ≤ 2 * ctx) → chain ctx (d ++ [k])
  | [], k, _, _ => ⟨(fun d h => by cases h), trivial⟩
  | [c], k, h, hl => ⟨(fun d hd => by simp at hd; subst hd; exact hl c rfl), (fun d h => by cases h), trivial⟩
  | c :: e :: d, k, h, hl => ⟨(fun f hf => h.1 f (by simpa using hf)), chain_snoc (d := e :: d) h.2 (fun l hl2 => hl l (by rw [List.getLast?_cons_cons]; exact hl2))⟩
theorem grp_chain {ctx : Int} : ∀ (d r : List Ch), d ≠ [] → chain ctx d → (∀ l c, d.getLast? = some l → r.head? = some c → ¬ c.a - l.a - l.n ≤ 2 * ctx) → grp ctx (d ++ r) = d :: grp ctx r
  | [], r, h, _, _ => absurd rfl h
  | [c], r, _, _, h => by
    show cons1 ctx c r.head? (grp ctx r) = [c] :: grp ctx r
    cases r with
    | nil => rfl
    | cons e r =>
      have h2 := h c e rfl rfl
      cases hg : grp ctx (e :: r) with
      | nil => rfl
      | cons g gs =>
        show (if e.a - c.a - c.n ≤ 2 * ctx then _ else _) = _
        rw [if_neg h2]
  | c :: e :: d, r, _, hc, h => by
    have ih := grp_chain (e :: d) r (by simp) hc.2 (fun l f hl hf => h l f (by rw [List.getLast?_cons_cons]; exact hl) hf)
    show cons1 ctx c (some e) (grp ctx ((e :: d) ++ r)) = _
    rw [ih]
    show (if e.a - c.a - c.n ≤ 2 * ctx then _ else _) = _
    rw [if_pos (hc.1 e rfl)]
theorem grp_head (ctx : Int) (d : Ch) (r : List Ch) : ∃ g gs, grp ctx (d :: r) = (d :: g) :: gs := by
  show ∃ g gs, cons1 ctx d r.head? (grp ctx r) = (d :: g) :: gs
  unfold cons1
  split
  · split
    · exact ⟨_, _, rfl⟩
    · exact ⟨_, _, rfl⟩
  · exact ⟨_, _, rfl⟩
theorem cons1_app {ctx : Int} {c d : Ch} {g : List Ch} {gs hs : List (List Ch)} : cons1 ctx c (some d) ((g :: gs) ++ hs) = cons1 ctx c (some d) (g :: gs) ++ hs := by
  show (if _ then _ else _) = (if _ then _ else _) ++ hs
  split <;> rfl
/-- groups with more context, cut with less -/
theorem grp_less {less ctx : Int} (hl : less ≤ ctx) : ∀ t : List Ch, (grp ctx t).flatMap (grp less) = grp less t
  | [] => rfl
  | [c] => rfl
  | c :: d :: r => by
    have ih := grp_less hl (d :: r)
    obtain ⟨g, gs, hg⟩ := grp_head ctx d r
    obtain ⟨g2, gs2, hg2⟩ := grp_head less d g
    have e1 : grp ctx (c :: d :: r) = if d.a - c.a - c.n ≤ 2 * ctx then (c :: (d :: g)) :: gs else [c] :: (d :: g) :: gs := by
      show cons1 ctx c (some d) (grp ctx (d :: r)) = _
      rw [hg]
      rfl
    have e2 : grp less (c :: d :: r) = cons1 less c (some d) (grp less (d :: g)) ++ gs.flatMap (grp less) := by
      show cons1 less c (some d) (grp less (d :: r)) = _
      rw [← ih, hg, List.flatMap_cons, hg2, cons1_app]
    rw [e1, e2]
    split
    · rw [List.flatMap_cons]
      rfl
    · rename_i hgap
      rw [List.flatMap_cons, List.flatMap_cons, hg2]
      show [[c]] ++ _ = (if d.a - c.a - c.n ≤ 2 * less then _ else _) ++ _
      rw [if_neg (by omega)]
      rfl
theorem cons1_chain {ctx : Int} {c : Ch} {r : List Ch} (h : ∀ g ∈ grp ctx r, g ≠ [] ∧ chain ctx g) : ∀ g ∈ grp ctx (c :: r), g ≠ [] ∧ chain ctx g := by
  have one : chain ctx [c] := ⟨fun d hd => (by cases hd), trivial⟩
  cases r with
  | nil =>
    intro g hg
    have hg2 : g ∈ ([[c]] : List (List Ch)) := hg
    simp at hg2
    subst hg2
    exact ⟨by simp, one⟩
  | cons d r =>
    obtain ⟨g1, gs, hg1⟩ := grp_head ctx d r
    have e1 : grp ctx (c :: d :: r) = if d.a - c.a - c.n ≤ 2 * ctx then (c :: (d :: g1)) :: gs else [c] :: (d :: g1) :: gs := by
      show cons1 ctx c (some d) (grp ctx (d :: r)) = _
      rw [hg1]
      rfl
    rw [hg1] at h
    intro g hg
    rw [e1] at hg
    split at hg
    · rename_i hgap
      rcases List.mem_cons.1 hg with rfl | hg
      · exact ⟨by simp, (fun e he => by simp at he; subst he; exact hgap), (h _ (by simp)).2⟩
      · exact h g (by simp [hg])
    · rcases List.mem_cons.1 hg with rfl | hg
      · exact ⟨by simp, one⟩
      · exact h g hg
theorem grp_each (ctx : Int) : ∀ t : List Ch, ∀ g ∈ grp ctx t, g ≠ [] ∧ chain ctx g
  | [], g, h => by cases h
  | c :: r, g, h => cons1_chain (grp_each ctx r) g h
theorem grp_one {ctx : Int} {g : List Ch} (hne : g ≠ []) (h : chain ctx g) : grp ctx g = [g] := by
  have := grp_chain g [] hne h (fun l c _ hc => by cases hc)
  rw [List.append_nil] at this
  exact this
end Go.Proofs.YtnamioihapnefaaGreatDoor.Hu
