/-
  Several texts in one: Ua, Ub, Uf.
-/
import Derived.Test.YtddmfdjkkikapaaGreatDoorGrLe
import Derived.Test.YtddmfdjkkikapaaGreatDoorGrMa
/-
  Less context, plain: built hunks that are narrowed are those that are built with less.
-/
namespace Go.Proofs.YtddmfdjkkikapaaGreatDoor.Hu
open Go
open Ed (Ch Pr okC val apart)

theorem comeS_app (g r : List Ch) : Ed.comeS (g ++ r) = Ed.comeS g + Ed.comeS r := by simp [Ed.comeS]
theorem goneS_app (g r : List Ch) : Ed.goneS (g ++ r) = Ed.goneS g + Ed.goneS r := by simp [Ed.goneS]
theorem endA_app (x : Int) (g r : List Ch) : endA x (g ++ r) = endA (endA x g) r := by unfold endA; rw [List.foldl_append]
theorem endB_app (x : Int) (g r : List Ch) : endB x (g ++ r) = endB (endB x g) r := by unfold endB; rw [List.foldl_append]
theorem rowsG_split {a b : List ByteArray} : ∀ (g r : List Ch) (x y z q n m : Int), inc g x y n m → 0 ≤ x → endA x g ≤ z → (∀ d, r.head? = some d → z ≤ d.a) → (r = [] → z ≤ q) → rowsG a b x (g ++ r) q = rowsG a b x g z ++ rowsG a b z r q
  | [], r, x, y, z, q, n, m, _, hx, he, h1, h2 => by
    have he' : x ≤ z := he
    cases r with
    | nil =>
      show mk 1 (sl a x q) = mk 1 (sl a x z) ++ mk 1 (sl a z q)
      rw [← mk_app, sl_app hx he' (h2 rfl)]
    | cons c r =>
      show mk 1 (sl a x c.a) ++ _ = mk 1 (sl a x z) ++ (mk 1 (sl a z c.a) ++ _)
      have e : mk 1 (sl a x c.a) = mk 1 (sl a x z) ++ mk 1 (sl a z c.a) := by rw [← mk_app, sl_app hx he' (h1 c rfl)]
      rw [e, List.append_assoc]
  | c :: g, r, x, y, z, q, n, m, hi, hx, he, h1, h2 => by
    obtain ⟨⟨⟨p1, p2, p3⟩, _⟩, hr⟩ := hi
    show mk 1 _ ++ (mk 2 _ ++ (mk 3 _ ++ rowsG a b (c.a + c.n) (g ++ r) q)) = (mk 1 _ ++ (mk 2 _ ++ (mk 3 _ ++ rowsG a b (c.a + c.n) g z))) ++ rowsG a b z r q
    rw [rowsG_split g r (c.a + c.n) (c.b + c.m) z q n m hr (by omega) he h1 h2]
    simp only [List.append_assoc]
/-! ### the runs of a built hunk -/
theorem runs_both (xs : List ByteArray) (l : List Rw) : ∀ i, runsR (mk 1 xs ++ l) i i = runsR l (i + xs.length) (i + xs.length) := by
  induction xs with
  | nil => intro i; rfl
  | cons x xs ih =>
    intro i
    show runsR (⟨1, x⟩ :: (mk 1 xs ++ l)) i i = _
    rw [runsR, if_neg (by show ¬ isC ⟨1, x⟩ = true; simp [isC]), run1, if_neg (Nat.lt_irrefl _), List.nil_append, ih, List.length_cons, show i + 1 + xs.length = i + (xs.length + 1) by omega]
theorem runs_chg {k : Int} (hk : k = 2 ∨ k = 3) (xs : List ByteArray) (l : List Rw) : ∀ i f, runsR (mk k xs ++ l) i f = runsR l (i + xs.length) f := by
  induction xs with
  | nil => intro i f; rfl
  | cons x xs ih =>
    intro i f
    show runsR (⟨k, x⟩ :: (mk k xs ++ l)) i f = _
    rw [runsR, if_pos (by show isC ⟨k, x⟩ = true; rcases hk with rfl | rfl <;> simp [isC]), ih, List.length_cons, show i + 1 + xs.length = i + (xs.length + 1) by omega]
theorem runs_end (l : List Rw) (j f : Nat) (h : f < j) (hl : l = [] ∨ ∃ r l', l = r :: l' ∧ isC r = false) : runsR l j f = (f, j) :: runsR l j j := by
  rcases hl with rfl | ⟨r, l', rfl, hr⟩
  · rw [runsR, runsR, run1, run1, if_pos h, if_neg (Nat.lt_irrefl _)]
  · rw [runsR, runsR, hr, run1, run1, if_pos h, if_neg (Nat.lt_irrefl _)]
    simp
theorem both_head {l m : List Rw} {xs : List ByteArray} (h : l = mk 1 xs ++ m) (hx : xs ≠ [] ∨ m = []) : l = [] ∨ ∃ r l', l = r :: l' ∧ isC r = false := by
  cases xs with
  | nil =>
    rcases hx with hx | rfl
    · exact absurd rfl hx
    · exact .inl h
  | cons x xs => exact .inr ⟨⟨1, x⟩, mk 1 xs ++ m, h, rfl⟩
/-- where the runs of a built hunk stand -/
def posC (F : Int) : Int → List Ch → List (Nat × Nat)
  | _, [] => []
  | k, c :: r => ((c.a - F + k).toNat, (c.a + c.n - F + k + c.m).toNat) :: posC F (k + c.m) r
theorem runs_rowsG {a b : List ByteArray} {F : Int} : ∀ (g : List Ch) (x y q n m k : Int) (i : Nat), inc g x y n m → apart g → 0 ≤ x → 0 ≤ y → n ≤ a.length → m ≤ b.length → (i : Int) = x - F + k → runsR (rowsG a b x g q) i i = posC F k g
  | [], x, y, q, n, m, k, i, _, _, _, _, _, _, _ => by
    rw [rowsG]
    have := runs_both (sl a x q) [] i
    rw [List.append_nil] at this
    rw [this, runsR, run1, if_neg (Nat.lt_irrefl _)]
    rfl
  | c :: r, x, y, q, n, m, k, i, hi, ha, hx, hy, hn, hm, hik => by
    obtain ⟨⟨⟨p1, p2, p3⟩, ⟨p4, p5, p6⟩, p7, p8⟩, hr⟩ := hi
    have e1 := sl_len (l := a) (x := x) (y := c.a) hx p1 (by omega)
    have e2 := sl_len (l := a) (x := c.a) (y := c.a + c.n) (by omega) (by omega) (by omega)
    have e3 := sl_len (l := b) (x := c.b) (y := c.b + c.m) (by omega) (by omega) (by omega)
    have hh : rowsG a b (c.a + c.n) r q = [] ∨ ∃ r' l', rowsG a b (c.a + c.n) r q = r' :: l' ∧ isC r' = false := by
      cases r with
      | nil => exact both_head (m := []) (by rw [List.append_nil]; rfl) (.inr rfl)
      | cons d r =>
        obtain ⟨⟨⟨s1, s2, s3⟩, ⟨s4, s5, s6⟩, s7, s8⟩, _⟩ := hr
        have hne := ha.1 d rfl
        have e4 := sl_len (l := a) (x := c.a + c.n) (y := d.a) (by omega) (by omega) (by omega)
        exact both_head (xs := sl a (c.a + c.n) d.a) rfl (.inl (fun e => by rw [e] at e4; simp at e4; omega))
    rw [rowsG, runs_both, runs_chg (.inl rfl), runs_chg (.inr rfl), runs_end _ _ _ (by omega) hh]
    rw [runs_rowsG (F := F) r (c.a + c.n) (c.b + c.m) q n m (k + c.m) _ hr ha.2 (by omega) (by omega) hn hm (by push_cast; omega), posC]
    congr 2 <;> omega
/-! ### groups that are cut again -/
def chain (ctx : Int) : List Ch → Prop
  | [] => True
  | c :: r => (∀ d, r.head? = some d → d.a - c.a - c.n ≤ 2 * ctx) ∧ chain ctx r
theorem chain_snoc {ctx : Int} : ∀ {d : List Ch} {k : Ch}, chain ctx d → (∀ l, d.getLast? = some l → k.a - l.a - l.n ≤ 2 * ctx) → chain ctx (d ++ [k])
  | [], k, _, _ => ⟨(fun d h => by cases h), trivial⟩
  | [c], k, h, hl => ⟨(fun d hd => by simp at hd; subst hd; exact hl c rfl), (fun d h => by cases h), trivial⟩
  | c :: e :: d, k, h, hl => ⟨(fun f hf => h.1 f (by simpa using hf)), chain_snoc (d := e :: d) h.2 (fun l hl2 => hl l (by rw [List.getLast?_cons_cons]; exact hl2))⟩
theorem grp_chain {ctx : Int} : ∀ (d r : List Ch), d ≠ [] → chain ctx d → (∀ l c, d.getLast? = some l → r.head? = some c → ¬ c.a - l.a - l.n ≤ 2 * ctx) → grp ctx (d ++ r) = d :: grp ctx r
  | [], r, h, _, _ => absurd rfl h
  | [c], r, _, _, h => by
    show cons1 ctx c r.head? (grp ctx r) = [c] :: grp ctx r
    cases r with
    | nil => rfl
    | cons e r =>
      have h2 := h c e rfl rfl
      cases hg : grp ctx (e :: r) with
      | nil => rfl
      | cons g gs =>
        show (if e.a - c.a - c.n ≤ 2 * ctx then _ else _) = _
        rw [if_neg h2]
  | c :: e :: d, r, _, hc, h => by
    have ih := grp_chain (e :: d) r (by simp) hc.2 (fun l f hl hf => h l f (by rw [List.getLast?_cons_cons]; exact hl) hf)
    show cons1 ctx c (some e) (grp ctx ((e :: d) ++ r)) = _
    rw [ih]
    show (if e.a - c.a - c.n ≤ 2 * ctx then _ else _) = _
    rw [if_pos (hc.1 e rfl)]
theorem grp_head (ctx : Int) (d : Ch) (r : List Ch) : ∃ g gs, grp ctx (d :: r) = (d :: g) :: gs := by
  show ∃ g gs, cons1 ctx d r.head? (grp ctx r) = (d :: g) :: gs
  unfold cons1
  split
  · split
    · exact ⟨_, _, rfl⟩
    · exact ⟨_, _, rfl⟩
  · exact ⟨_, _, rfl⟩
theorem cons1_app {ctx : Int} {c d : Ch} {g : List Ch} {gs hs : List (List Ch)} : cons1 ctx c (some d) ((g :: gs) ++ hs) = cons1 ctx c (some d) (g :: gs) ++ hs := by
  show (if _ then _ else _) = (if _ then _ else _) ++ hs
  split <;> rfl
/-- groups with more context, cut with less -/
theorem grp_less {less ctx : Int} (hl : less ≤ ctx) : ∀ t : List Ch, (grp ctx t).flatMap (grp less) = grp less t
  | [] => rfl
  | [c] => rfl
  | c :: d :: r => by
    have ih := grp_less hl (d :: r)
    obtain ⟨g, gs, hg⟩ := grp_head ctx d r
    obtain ⟨g2, gs2, hg2⟩ := grp_head less d g
    have e1 : grp ctx (c :: d :: r) = if d.a - c.a - c.n ≤ 2 * ctx then (c :: (d :: g)) :: gs else [c] :: (d :: g) :: gs := by
      show cons1 ctx c (some d) (grp ctx (d :: r)) = _
      rw [hg]
      rfl
    have e2 : grp less (c :: d :: r) = cons1 less c (some d) (grp less (d :: g)) ++ gs.flatMap (grp less) := by
      show cons1 less c (some d) (grp less (d :: r)) = _
      rw [← ih, hg, List.flatMap_cons, hg2, cons1_app]
    rw [e1, e2]
    split
    · rw [List.flatMap_cons]
      rfl
    · rename_i hgap
      rw [List.flatMap_cons, List.flatMap_cons, hg2]
      show [[c]] ++ _ = (if d.a - c.a - c.n ≤ 2 * less then _ else _) ++ _
      rw [if_neg (by omega)]
      rfl
theorem cons1_chain {ctx : Int} {c : Ch} {r : List Ch} (h : ∀ g ∈ grp ctx r, g ≠ [] ∧ chain ctx g) : ∀ g ∈ grp ctx (c :: r), g ≠ [] ∧ chain ctx g := by
  have one : chain ctx [c] := ⟨fun d hd => (by cases hd), trivial⟩
  cases r with
  | nil =>
    intro g hg
    have hg2 : g ∈ ([[c]] : List (List Ch)) := hg
    simp at hg2
    subst hg2
    exact ⟨by simp, one⟩
  | cons d r =>
    obtain ⟨g1, gs, hg1⟩ := grp_head ctx d r
    have e1 : grp ctx (c :: d :: r) = if d.a - c.a - c.n ≤ 2 * ctx then (c :: (d :: g1)) :: gs else [c] :: (d :: g1) :: gs := by
      show cons1 ctx c (some d) (grp ctx (d :: r)) = _
      rw [hg1]
      rfl
    rw [hg1] at h
    intro g hg
    rw [e1] at hg
    split at hg
    · rename_i hgap
      rcases List.mem_cons.1 hg with rfl | hg
      · exact ⟨by simp, (fun e he => by simp at he; subst he; exact hgap), (h _ (by simp)).2⟩
      · exact h g (by simp [hg])
    · rcases List.mem_cons.1 hg with rfl | hg
      · exact ⟨by simp, one⟩
      · exact h g hg
theorem grp_each (ctx : Int) : ∀ t : List Ch, ∀ g ∈ grp ctx t, g ≠ [] ∧ chain ctx g
  | [], g, h => by cases h
  | c :: r, g, h => cons1_chain (grp_each ctx r) g h
theorem grp_one {ctx : Int} {g : List Ch} (hne : g ≠ []) (h : chain ctx g) : grp ctx g = [g] := by
  have := grp_chain g [] hne h (fun l c _ hc => by cases hc)
  rw [List.append_nil] at this
  exact this
end Go.Proofs.YtddmfdjkkikapaaGreatDoor.Hu
/-
  Less context, plain: the pieces of a built hunk.
-/
namespace Go.Proofs.YtddmfdjkkikapaaGreatDoor.Hu
open Go
open Ed (Ch Pr okC val apart)

theorem inc_from {d : List Ch} {x y x' y' n m : Int} (h : inc d x y n m) (hd : d ≠ []) (h1 : ∀ k, d.head? = some k → x' ≤ k.a) (h2 : x' - x = y' - y) : inc d x' y' n m := by
  cases d with
  | nil => exact absurd rfl hd
  | cons k d =>
    obtain ⟨⟨⟨p1, p2, p3⟩, ⟨p4, p5, p6⟩, p7, p8⟩, hr⟩ := h
    have := h1 k rfl
    exact ⟨⟨⟨this, p2, p3⟩, ⟨by omega, p5, p6⟩, p7, by omega⟩, hr⟩
/-- what is known of a group that a hunk was built of -/
structure Grp (ctx : Int) (a b : List ByteArray) (g : List Ch) : Prop where
  ne : g ≠ []
  inc : inc g (fromG ctx g) (fromH ctx g) a.length b.length
  ap : apart g
  f0 : 0 ≤ fromG ctx g
  h0 : 0 ≤ fromH ctx g
  c0 : 0 ≤ ctx
theorem Grp.ends {ctx : Int} {a b : List ByteArray} {g : List Ch} (h : Grp ctx a b g) : endA (fromG ctx g) g ≤ toG ctx a.length g ∧ toG ctx a.length g ≤ a.length ∧ toG ctx a.length g = min (endA (fromG ctx g) g + ctx) a.length := by
  have e1 := endA_last (x := fromG ctx g) h.ne
  obtain ⟨q1, q2, q3, q4⟩ := endA_ge h.inc
  have e2 : toG ctx a.length g = min (endA (fromG ctx g) g + ctx) a.length := by unfold toG; rw [← e1]
  have := h.c0
  exact ⟨by omega, by omega, e2⟩
theorem cut_piece {ctx : Int} {c : Nat} {a b : List ByteArray} {g e d r : List Ch} {k : Ch} (hG : Grp ctx a b g) (hc : (c : Int) ≤ ctx) (hg : e ++ ((k :: d) ++ r) = g)
    (hgE : e ≠ [] → 2 * (c : Int) < k.a - endA (fromG ctx g) e) (hgR : ∀ k', r.head? = some k' → 2 * (c : Int) < k'.a - endA (fromG ctx g) (e ++ (k :: d))) :
    cutP (ofG ctx a b g) ((k.a - fromG ctx g + Ed.comeS e).toNat - c) (min ((endA (fromG ctx g) (e ++ (k :: d)) - fromG ctx g + Ed.comeS (e ++ (k :: d))).toNat + c) (ofG ctx a b g).rows.length) = ofG c a b (k :: d) := by
  obtain ⟨F, hF⟩ : ∃ F, F = fromG ctx g := ⟨_, rfl⟩
  obtain ⟨F', hF'⟩ : ∃ F', F' = fromH ctx g := ⟨_, rfl⟩
  obtain ⟨T, hT⟩ : ∃ T, T = toG ctx a.length g := ⟨_, rfl⟩
  obtain ⟨t1, t2, t3⟩ := hG.ends
  have hinc := hG.inc
  have f0 := hG.f0
  have h0 := hG.h0
  have e1 : plc (ofG ctx a b g).a (ofG ctx a b g).n = F := by rw [hF]; exact plc_told _ _
  have e2 : plc (ofG ctx a b g).b (ofG ctx a b g).m = F' := by rw [hF']; exact plc_told _ _
  have e3 : (ofG ctx a b g).rows = rowsG a b F g T := by rw [hF, hT]; rfl
  have hlen := len_rowsG (a := a) (b := b) hinc f0 h0 t1 t2 (Int.le_refl _)
  have hFhead : e = [] → F = k.a - min ctx k.a := by
    intro he
    rw [he, List.nil_append] at hg
    rw [hF, ← hg]
    rfl
  rw [← hF] at hinc f0 t1 t3 hgE hgR hlen ⊢
  rw [← hF'] at hinc h0
  rw [← hT] at t1 t2 t3 hlen
  unfold cutP
  rw [e1, e2, e3]
  have hi := hinc
  rw [← hg] at hi
  obtain ⟨hie, hi2⟩ := inc_app.1 hi
  obtain ⟨hid, hir⟩ := inc_app.1 hi2
  have hE := endA_ge hie
  obtain ⟨⟨⟨p1, p2, p3⟩, ⟨p4, p5, p6⟩, p7, p8⟩, hdr⟩ := hid
  have hD := endA_ge hdr
  have eD : endA F (e ++ (k :: d)) = endA (k.a + k.n) d := by rw [endA_app]; rfl
  have ebe := endB_eq e F F' _ _ hie
  obtain ⟨ED, hED⟩ : ∃ ED, ED = endA (k.a + k.n) d := ⟨_, rfl⟩
  have hcd := comeS_app e (k :: d)
  have hce := inc_come hie
  have hcdd := inc_come (s := k :: d) ⟨⟨⟨p1, p2, p3⟩, ⟨p4, p5, p6⟩, p7, p8⟩, hdr⟩
  have hcg : Ed.comeS g = Ed.comeS e + Ed.comeS (k :: d) + Ed.comeS r := by rw [← hg, comeS_app, comeS_app]; omega
  have hcr := (inc_come hir).1
  have hRge := endA_ge hir
  have eG : endA F g = endA ED r := by rw [← hg, endA_app, endA_app, hED]; rfl
  have hirE : endA (endA F e) (k :: d) = ED := by rw [hED]; rfl
  rw [hirE] at hRge
  rw [eD, ← hED] at hgR ⊢
  rw [← hED] at hD
  -- where the piece begins and ends
  obtain ⟨y, hy⟩ : ∃ y : Int, y = k.a - min (c : Int) k.a := ⟨_, rfl⟩
  obtain ⟨z, hz⟩ : ∃ z : Int, z = min (ED + c) a.length := ⟨_, rfl⟩
  have hyE : endA F e ≤ y := by
    by_cases he : e = []
    · have := hFhead he
      rw [he]
      show F ≤ y
      omega
    · have := hgE he
      omega
  have hyF : F ≤ y := by omega
  have hzk : ∀ k', r.head? = some k' → z ≤ k'.a ∧ z = ED + c ∧ k'.a ≤ endA ED r := by
    intro k' hk'
    have := hgR k' hk'
    cases r with
    | nil => cases hk'
    | cons k2 r =>
      simp at hk'
      subst hk'
      rw [hirE] at hir
      obtain ⟨⟨⟨r1, r2, r3⟩, _⟩, hrr⟩ := hir
      have h3 := (endA_ge hrr).1
      refine ⟨by omega, by omega, ?_⟩
      show _ ≤ endA (k2.a + k2.n) r
      omega
  have hzT : r = [] → z = min (ED + c) T := by
    intro hr
    rw [hr] at eG
    have eG2 : endA F g = ED := eG
    rw [eG2] at t3
    omega
  have hidy : inc (k :: d) y (endB F' e + (y - endA F e)) a.length b.length := inc_from (x := endA F e) (y := endB F' e) ⟨⟨⟨p1, p2, p3⟩, ⟨p4, p5, p6⟩, p7, p8⟩, hdr⟩ (by simp) (fun k' hk' => by simp at hk'; subst hk'; omega) (by omega)
  have hsplit1 : rowsG a b F g T = rowsG a b F e y ++ rowsG a b y ((k :: d) ++ r) T := by
    rw [← hg]
    exact rowsG_split e ((k :: d) ++ r) F F' y T _ _ hie f0 hyE (fun d' hd' => by simp at hd'; subst hd'; omega) (fun h => by simp at h)
  have hsplit2 : rowsG a b y ((k :: d) ++ r) T = rowsG a b y (k :: d) z ++ rowsG a b z r T := by
    refine rowsG_split (k :: d) r y _ z T _ _ hidy (by omega) (by show endA (k.a + k.n) d ≤ z; omega) (fun k' hk' => (hzk k' hk').1) (fun hr => ?_)
    have := hzT hr
    omega
  have l1 := len_rowsG (a := a) (b := b) hie f0 h0 hyE (by omega) (Int.le_refl _)
  have l2 := len_rowsG (a := a) (b := b) hidy (by omega) (by omega) (q := z) (by show endA (k.a + k.n) d ≤ z; omega) (by omega) (Int.le_refl _)
  have o1 := olds_rowsG (a := a) (b := b) hie f0 hyE
  have o2 := sl_len (l := a) (x := F) (y := y) f0 hyF (by omega)
  have fr1 := fres_rowsG (a := a) (b := b) hie f0 h0 hyE (by omega) (Int.le_refl _)
  have hfA : (k.a - F + Ed.comeS e).toNat - c = (rowsG a b F e y).length := by
    by_cases he : e = []
    · have h1 := hFhead he
      subst he
      simp only [Ed.comeS, List.map_nil, List.sum_nil] at l1 ⊢
      omega
    · have := hgE he
      omega
  have htB : min ((ED - F + Ed.comeS (e ++ (k :: d))).toNat + c) (rowsG a b F g T).length - (rowsG a b F e y).length = (rowsG a b y (k :: d) z).length := by
    rw [hcd]
    cases hr : r.head? with
    | none =>
      have hr2 := List.head?_eq_none_iff.1 hr
      have := hzT hr2
      rw [hr2] at hcg
      simp only [Ed.comeS, List.map_nil, List.sum_nil] at hcg hlen l1 l2 hce hcdd ⊢
      omega
    | some k' =>
      have := hzk k' hr
      omega
  have htk : (rowsG a b F g T).take ((k.a - F + Ed.comeS e).toNat - c) = rowsG a b F e y := by rw [hfA, hsplit1, List.take_left' rfl]
  have hsub : sub (rowsG a b F g T) ((k.a - F + Ed.comeS e).toNat - c) (min ((ED - F + Ed.comeS (e ++ (k :: d))).toNat + c) (rowsG a b F g T).length) = rowsG a b y (k :: d) z := by
    unfold sub
    rw [hfA, htB]
    rw [hsplit1, List.drop_left' rfl, hsplit2, List.take_left' rfl]
  rw [htk, hsub, o1, o2, fr1]
  unfold ofG
  have g1 : fromG c (k :: d) = y := by rw [hy]; rfl
  have g2 : fromH c (k :: d) = k.b - min (c : Int) k.a := rfl
  have g3 : toG c a.length (k :: d) = z := by
    unfold toG
    rw [← endA_last (x := k.a) (g := k :: d) (by simp), hz, hED]
    rfl
  rw [g1, g2, g3]
  congr 1 <;> omega
/-- a built hunk's pieces are those of its group's groups -/
theorem pieces_grp {ctx : Int} {c : Nat} {a b : List ByteArray} {g : List Ch} (hG : Grp ctx a b g) (hc : (c : Int) ≤ ctx) : ∀ (r d e : List Ch) (k : Ch), chain c (k :: d) → e ++ ((k :: d) ++ r) = g → (e ≠ [] → 2 * (c : Int) < k.a - endA (fromG ctx g) e) →
    (gR c (posC (fromG ctx g) (Ed.comeS (e ++ (k :: d))) r) (some ((k.a - fromG ctx g + Ed.comeS e).toNat, (endA (fromG ctx g) (e ++ (k :: d)) - fromG ctx g + Ed.comeS (e ++ (k :: d))).toNat))).map (fun s => cutP (ofG ctx a b g) (widS c (ofG ctx a b g).rows.length s).1 (widS c (ofG ctx a b g).rows.length s).2) = (grp c ((k :: d) ++ r)).map (ofG c a b)
  | [], d, e, k, hch, hg, hgE => by
    rw [posC, gR, List.append_nil, grp_one (by simp) hch]
    simp only [List.map_cons, List.map_nil, widS]
    rw [cut_piece hG hc hg hgE (fun k' h => by cases h)]
  | k' :: r, d, e, k, hch, hg, hgE => by
    have hi := hG.inc
    rw [← hg] at hi
    obtain ⟨hie, hi2⟩ := inc_app.1 hi
    obtain ⟨hidd, hir⟩ := inc_app.1 hi2
    have hE := endA_ge hie
    have hD := endA_ge hidd
    have hce := inc_come hie
    have hcd := inc_come hidd
    have eF : fromG ctx (e ++ ((k :: d) ++ k' :: r)) = fromG ctx g := by rw [hg]
    have eF' : fromH ctx (e ++ ((k :: d) ++ k' :: r)) = fromH ctx g := by rw [hg]
    rw [eF, eF'] at hie hidd hir hE hD
    obtain ⟨⟨⟨r1, r2, r3⟩, ⟨r4, r5, r6⟩, r7, r8⟩, hrr⟩ := hir
    have eD : endA (fromG ctx g) (e ++ (k :: d)) = endA (endA (fromG ctx g) e) (k :: d) := endA_app _ _ _
    have cED := comeS_app e (k :: d)
    have hlast : endA (fromG ctx g) (e ++ (k :: d)) = ((k :: d).getLastD zC).a + ((k :: d).getLastD zC).n := by rw [eD]; exact endA_last (by simp)
    rw [posC, gR_some]
    simp only
    by_cases hgap : k'.a - endA (fromG ctx g) (e ++ (k :: d)) ≤ 2 * (c : Int)
    · rw [if_pos (by omega)]
      have hch2 : chain c (k :: (d ++ [k'])) := by
        refine chain_snoc (d := k :: d) hch (fun l hl => ?_)
        have : ((k :: d).getLastD zC) = l := by rw [List.getLastD_eq_getLast?, hl]; rfl
        rw [this] at hlast
        omega
      have ih := pieces_grp hG hc r (d ++ [k']) e k hch2 (by rw [← hg]; simp) hgE
      have e1 : e ++ (k :: (d ++ [k'])) = (e ++ (k :: d)) ++ [k'] := by simp
      have e2 : (k :: (d ++ [k'])) ++ r = (k :: d) ++ k' :: r := by simp
      rw [e1, e2, comeS_app _ [k'], endA_app _ _ [k']] at ih
      have e3 : Ed.comeS [k'] = k'.m := by simp [Ed.comeS]
      have e4 : endA (endA (fromG ctx g) (e ++ (k :: d))) [k'] = k'.a + k'.n := rfl
      rw [e3, e4] at ih
      rw [← ih]
      congr 3
      congr 1
      congr 1
      omega
    · rw [if_neg (by omega), List.map_cons]
      have hcp := cut_piece (r := k' :: r) hG hc hg hgE (fun k2 h => by simp at h; subst h; omega)
      have ih := pieces_grp hG hc r [] (e ++ (k :: d)) k' ⟨(fun _ h => by cases h), trivial⟩ (by rw [← hg]; simp) (fun _ => by omega)
      have e3 : Ed.comeS [k'] = k'.m := by simp [Ed.comeS]
      rw [comeS_app _ [k'], endA_app _ _ [k'], e3] at ih
      have e4 : endA (endA (fromG ctx g) (e ++ (k :: d))) [k'] = k'.a + k'.n := rfl
      rw [e4] at ih
      rw [grp_chain (k :: d) (k' :: r) (by simp) hch (fun l c' hl hc' => by
        simp at hc'
        subst hc'
        have : ((k :: d).getLastD zC) = l := by rw [List.getLastD_eq_getLast?, hl]; rfl
        rw [this] at hlast
        omega), List.map_cons]
      refine List.cons_eq_cons.2 ⟨?_, ?_⟩
      · simp only [widS]
        exact hcp
      · show _ = (grp c ([k'] ++ r)).map _
        rw [← ih]
        congr 3
        congr 1
        congr 1
        omega
theorem headed_built {c : Int} {a b : List ByteArray} (l : List (List Ch)) : headed .empty (l.map (ofG c a b)) = l.map (ofG c a b) := by
  cases l <;> rfl
theorem narrow_built {ctx : Int} {c : Nat} {a b : List ByteArray} {g : List Ch} (hG : Grp ctx a b g) (hc : (c : Int) ≤ ctx) (hc1 : ctx ≤ 2147483647) (hv : vld (ofG ctx a b g) = true) :
    narN (ofG ctx a b g) c = 0 ∧ narA (ofG ctx a b g) c = (grp c g).map (ofG c a b) := by
  have h1 : narN (ofG ctx a b g) c = 0 := by
    unfold narN
    rw [if_pos (by unfold ctxOk; simp; omega), if_pos hv]
  refine ⟨h1, ?_⟩
  unfold narA
  rw [if_pos h1, Int.toNat_natCast, nD_groups (vld_parts hv).1, gfold_gR, List.map_map]
  have hr : runsR (ofG ctx a b g).rows 0 0 = posC (fromG ctx g) 0 g := runs_rowsG g _ _ _ _ _ 0 0 hG.inc hG.ap hG.f0 hG.h0 (Int.le_refl _) (Int.le_refl _) (by simp)
  rw [hr]
  cases g with
  | nil => exact absurd rfl hG.ne
  | cons k d =>
    have ih := pieces_grp hG hc d [] [] k ⟨(fun _ h => by cases h), trivial⟩ rfl (fun h => absurd rfl h)
    have e3 : Ed.comeS [k] = k.m := by simp [Ed.comeS]
    have e5 : Ed.comeS [] = 0 := rfl
    have e4 : endA (fromG ctx (k :: d)) [k] = k.a + k.n := rfl
    rw [List.nil_append, e3, e4, e5] at ih
    rw [posC, gR_none]
    show headed .empty _ = _
    have key : (gR c (posC (fromG ctx (k :: d)) (0 + k.m) d) (some ((k.a - fromG ctx (k :: d) + 0).toNat, (k.a + k.n - fromG ctx (k :: d) + 0 + k.m).toNat))).map ((fun s => cutP (ofG ctx a b (k :: d)) s.1 s.2) ∘ widS c (ofG ctx a b (k :: d)).rows.length) = (grp c (k :: d)).map (ofG c a b) := by
      refine Eq.trans ?_ ih
      simp only [Int.zero_add, Int.add_zero]
      rfl
    rw [key]
    exact headed_built _
theorem grp_all {ctx : Int} {a b : List ByteArray} (hc0 : 0 ≤ ctx) : ∀ (N : Nat) (t : List Ch) (x y : Int), t.length ≤ N → apart t → Ahead ctx t x y a.length b.length → ∀ g ∈ grp ctx t, Grp ctx a b g
  | 0, t, x, y, hN, _, _, g, hg => by
    have e : t = [] := List.length_eq_zero_iff.1 (by omega)
    subst e
    cases hg
  | N + 1, t, x, y, hN, hap, hA, g, hg => by
    by_cases hne : t = []
    · subst hne; cases hg
    · obtain ⟨g1, g2, g3, g4, _⟩ := hA.group hne hc0
      have hp := glen_pos ctx t hne
      rw [grp_glen ctx t hne] at hg
      rcases List.mem_cons.1 hg with rfl | hg
      · exact ⟨g1, g2, apart_take hap _, g3, g4, hc0⟩
      · exact grp_all hc0 N (t.drop (glen ctx t)) _ _ (by rw [List.length_drop]; omega) (apart_drop hap _) (hA.next hne) g hg
end Go.Proofs.YtddmfdjkkikapaaGreatDoor.Hu
/-
  Less context: what the law leans on; append of many hunks.
-/
namespace Go.Proofs.YtddmfdjkkikapaaGreatDoor
open Go.RowKit
open Hu (Rw Hk)
open Ed (Ch)

/-- what is known of built hunks that are narrowed -/
structure LeI (s : List Ch) (a b : List ByteArray) (ctx : Int) (c : Nat) : Prop where
  less : bldN s a b c = 0
  each : ∀ h ∈ bldA s a b ctx, narN h c = 0 ∧ narN h ctx = 0 ∧ narA h ctx = [h] ∧ narA h c ≠ []
  all : (bldA s a b ctx).flatMap (fun h => narA h c) = bldA s a b c
theorem bldN_less {s : List Ch} {a b : List ByteArray} {ctx c : Int} (h : bldN s a b ctx = 0) (h0 : 0 ≤ c) (h1 : c ≤ ctx) : bldN s a b c = 0 := by
  obtain ⟨hc, hva, hvb, hk, he⟩ := bldN_zero h
  unfold bldN
  rw [if_pos (by unfold ctxOk; simp; omega), hva, hvb, if_pos (show (true && true) = true from rfl), if_pos hk, he, if_pos rfl]
theorem built_less {s : List Ch} {a b : List ByteArray} {ctx : Int} {c : Nat} (h : bldN s a b ctx = 0) (hc : (c : Int) ≤ ctx) : LeI s a b ctx c := by
  obtain ⟨hcc, hva, hvb, hk, he⟩ := bldN_zero h
  have hV0 := Ed.validN_zero.1 hk
  obtain ⟨hV, hpr⟩ := Ed.normal_Val hV0
  have hN := bldN_less h (show (0 : Int) ≤ (c : Int) by omega) hc
  have hJ : bldA s a b ctx = Hu.bld ctx a b (Ed.normal s a.length b.length) := by unfold bldA; rw [if_pos h]
  have hJ2 : bldA s a b c = Hu.bld c a b (Ed.normal s a.length b.length) := by unfold bldA; rw [if_pos hN]
  have hAR := bld_ar h
  have hvl : ∀ x ∈ bldA s a b ctx, Hu.vld x = true := by
    have := hAR.ord
    unfold Hu.orderN at this
    split at this
    · rename_i hall; exact List.all_eq_true.1 hall
    · cases this
  have hG := Hu.grp_all (ctx := ctx) (a := a) (b := b) hcc.1 _ (Ed.normal s a.length b.length) 0 0 (Nat.le_refl _) (normal_apart hV0) (Hu.Ahead.start hV)
  obtain ⟨k, hk2⟩ := Int.eq_ofNat_of_zero_le hcc.1
  have hone : ∀ g ∈ Hu.grp ctx (Ed.normal s a.length b.length), narN (Hu.ofG ctx a b g) c = 0 ∧ narA (Hu.ofG ctx a b g) c = (Hu.grp c g).map (Hu.ofG c a b) ∧ narN (Hu.ofG ctx a b g) ctx = 0 ∧ narA (Hu.ofG ctx a b g) ctx = [Hu.ofG ctx a b g] ∧ g ≠ [] := by
    intro g hg
    have hm : Hu.ofG ctx a b g ∈ bldA s a b ctx := by rw [hJ]; exact List.mem_map_of_mem hg
    have hv := hvl _ hm
    obtain ⟨q1, q2⟩ := Hu.narrow_built (hG g hg) hc hcc.2 hv
    obtain ⟨q3, q4⟩ := Hu.narrow_built (c := k) (hG g hg) (by omega) hcc.2 hv
    rw [← hk2] at q3 q4
    refine ⟨q1, q2, q3, ?_, (hG g hg).ne⟩
    rw [q4, Hu.grp_one (hG g hg).ne (Hu.grp_each ctx _ g hg).2]
    rfl
  refine ⟨hN, fun x hx => ?_, ?_⟩
  · rw [hJ] at hx
    obtain ⟨g, hg, rfl⟩ := List.mem_map.1 hx
    obtain ⟨q1, q2, q3, q4, q5⟩ := hone g hg
    refine ⟨q1, q3, q4, ?_⟩
    rw [q2]
    intro e
    cases g with
    | nil => exact q5 rfl
    | cons d r =>
      obtain ⟨g1, gs, hg1⟩ := Hu.grp_head c d r
      rw [hg1] at e
      cases e
  · rw [hJ, hJ2]
    unfold Hu.bld
    rw [List.flatMap_map, ← Hu.grp_less hc]
    rw [List.map_flatMap]
    have : ∀ L : List (List Ch), (∀ g ∈ L, narA (Hu.ofG ctx a b g) c = (Hu.grp c g).map (Hu.ofG c a b)) → L.flatMap (fun g => narA (Hu.ofG ctx a b g) c) = L.flatMap (fun g => (Hu.grp c g).map (Hu.ofG c a b)) := by
      intro L
      induction L with
      | nil => intro _; rfl
      | cons g L ih =>
        intro hL
        rw [List.flatMap_cons, List.flatMap_cons, hL g (by simp), ih (fun g' h' => hL g' (by simp [h']))]
    exact this _ (fun g hg => (hone g hg).2.1)
/-- append of many hunks to a list of the call's own -/
theorem wpList_append_hks {w : World} {ops : Array Oper} {rest : List Oper} {o : Oper} {a : Act} {Q : Exit → Act → World → Prop} (hgd : o.guard = none) (s x : Operand)
    (ho : o.op = .call { callee := .builtin .append, args := #[s, x], argTypes := #[26, 26] }) (B : Nat) (v : Value) (l : List Hk) (hs : a.eval s = v) (hown : OwnH w B v l)
    (u : Value) (m : List Hk) (hx : a.eval x = u) (hm : OwnH w B u m) (hne : m ≠ []) (hfit : l.length + m.length < 1954687338260) (hB : B ≤ w.heap.size)
    (h : ∀ v' w', OwnH w' B v' (l ++ m) → Below B w w' → wpList Tryz.prog ops Q rest (a.put o.dst v') w') : wpList Tryz.prog ops Q (o :: rest) a w := by
  obtain ⟨i0, hi, hz0, hz1, hz2⟩ := info_parts Tryz.infoHunk
  obtain ⟨p, hp1, hp2, hp3⟩ := hown
  obtain ⟨q, hq1, hq2, hq3⟩ := hm
  have hml : 0 < m.length := List.length_pos_iff.2 hne
  rcases own_rd hq2 with ⟨h0, _⟩ | ⟨b, o', c, hv, hc, hb, hX⟩
  · omega
  subst hv
  refine wpList_append_lies _ hgd s x 26 ho B 37 i0 (.agg #[.int .i64 0, .int .i64 0, .int .i64 0, .int .i64 0, .string .empty, .slice none 0 0]) 6 72 Tryz.underlying26 hi hz0 hz1 hz2 rfl (by decide) v l.length (hksC p) hs hp2 ⟨b, o', none⟩ m.length c (hksC q) hx ?_ ?_ ?_ hml ?_ ?_ hB w.heap.size rfl ?_
  · rw [hksC_length, ← hq1, List.length_map]
  · intro j u hj
    rw [Go.WideShapes.add_plain]
    exact hX j u hj
  · intro u hu
    obtain ⟨r, hr, hu⟩ := List.mem_flatMap.1 hu
    obtain ⟨ar, cr, e⟩ := own_shape (hq3 r hr)
    unfold hkC at hu
    rw [e] at hu
    simp at hu
    rcases hu with rfl | rfl | rfl | rfl | rfl | rfl <;> rfl
  · unfold maxLen; omega
  · omega
  · intro g' cap w' g2 g3 g4 _
    have hrow : ∀ r : Hk × Value, OwnW w B r.2 r.1.rows → OwnW w' B r.2 r.1.rows := fun r hr => own_by_type hr hp2 (by decide) g3
    refine h _ w' ⟨p ++ q, by rw [List.map_append, hp1, hq1], ?_, fun r hr => ?_⟩ ?_
    · rw [List.length_append, hksC_append]; exact g2
    · rcases List.mem_append.1 hr with hr | hr
      · exact hrow r (hp3 r hr)
      · exact hrow r (hq3 r hr)
    · exact (Below.refl B w).grown g3 hB (own_ge hp2)
end Go.Proofs.YtddmfdjkkikapaaGreatDoor
