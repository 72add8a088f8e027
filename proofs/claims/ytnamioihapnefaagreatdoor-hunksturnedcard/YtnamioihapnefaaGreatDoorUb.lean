/-
  Less context, plain: the pieces of a built hunk.
-/
import Derived.Test.YtnamioihapnefaaGreatDoorUa
namespace Go.Proofs.YtnamioihapnefaaGreatDoor.Hu
open Go
open Ed (Ch Pr okC val apart)

theorem inc_from {d : List Ch} {x y x' y' n m : Int} (h : inc d x y n m) (hd : d ≠ []) (h1 : ∀ k, d.head? = some k → x' ≤ k.a) (h2 : x' - x = y' - y) : inc d x' y' n m := by
  cases d with
  | nil => exact absurd rfl hd
  | cons k d =>
    obtain ⟨⟨⟨p1, p2, p3⟩, ⟨p4, p5, p6⟩, p7, p8⟩, hr⟩ := h
    have := h1 k rfl
    exact ⟨⟨⟨this, p2, p3⟩, ⟨by omega, p5, p6⟩, p7, by omega⟩, hr⟩
/-- what is known of a group that a hunk was built of -/
structure Grp (ctx : Int) (a b : List ByteArray) (g : List Ch) : Prop where
  ne : g ≠ []
  inc : inc g (fromG ctx g) (fromH ctx g) a.length b.length
  ap : apart g
  f0 : 0 ≤ fromG ctx g
  h0 : 0 ≤ fromH ctx g
  c0 : 0 ≤ ctx
theorem Grp.ends {ctx : Int} {a b : List ByteArray} {g : List Ch} (h : Grp ctx a b g) : endA (fromG ctx g) g ≤ toG ctx a.length g ∧ toG ctx a.length g ≤ a.length ∧ toG ctx a.length g = min (endA (fromG ctx g) g + ctx) a.length := by
  have e1 := endA_last (x := fromG ctx g) h.ne
  obtain ⟨q1, q2, q3, q4⟩ := endA_ge h.inc
  have e2 : toG ctx a.length g = min (endA (fromG ctx g) g + ctx) a.length := by unfold toG; rw [← e1]
  have := h.c0
  exact ⟨by omega, by omega, e2⟩
theorem cut_piece {ctx : Int} {c : Nat} {a b : List ByteArray} {g e d r : List Ch} {k : Ch} (hG : Grp ctx a b g) (hc : (c : Int) ≤ ctx) (hg : e ++ ((k :: d) ++ r) = g)
    (hgE : e ≠ [] → 2 * (c : Int) < k.a - endA (fromG ctx g) e) (hgR : ∀ k', r.head? = some k' → 2 * (c : Int) < k'.a - endA (fromG ctx g) (e ++ (k :: d))) :
    cutP (ofG ctx a b g) ((k.a - fromG ctx g + Ed.comeS e).toNat - c) (min ((endA (fromG ctx g) (e ++ (k :: d)) - fromG ctx g + Ed.comeS (e ++ (k :: d))).toNat + c) (ofG ctx a b g).rows.length) = ofG c a b (k :: d) := by
  obtain ⟨F, hF⟩ : ∃ F, F = fromG ctx g := ⟨_, rfl⟩
  obtain ⟨F', hF'⟩ : ∃ F', F' = fromH ctx g := ⟨_, rfl⟩
  obtain ⟨T, hT⟩ : ∃ T, T = toG ctx a.length g := ⟨_, rfl⟩
  obtain ⟨t1, t2, t3⟩ := hG.ends
  have hinc := hG.inc
  have f0 := hG.f0
  have h0 := hG.h0
  have e1 : plc (ofG ctx a b g).a (ofG ctx a b g).n = F := by rw [hF]; exact plc_told _ _
  have e2 : plc (ofG ctx a b g).b (ofG ctx a b g).m = F' := by rw [hF']; exact plc_told _ _
  have e3 : (ofG ctx a b g).rows = rowsG a b F g T := by rw [hF, hT]; rfl
  have hlen := len_rowsG (a := a) (b := b) hinc f0 h0 t1 t2 (Int.le_refl _)
  have hFhead : e = [] → F = k.a - min ctx k.a := by
    intro he
    rw [he, List.nil_append] at hg
    rw [hF, ← hg]
    rfl
  rw [← hF] at hinc f0 t1 t3 hgE hgR hlen ⊢
  rw [← hF'] at hinc h0
  rw [← hT] at t1 t2 t3 hlen
  unfold cutP
  rw [e1, e2, e3]
  have hi := hinc
  rw [← hg] at hi
  obtain ⟨hie, hi2⟩ := inc_app.1 hi
  obtain ⟨hid, hir⟩ := inc_app.1 hi2
  have hE := endA_ge hie
  obtain ⟨⟨⟨p1, p2, p3⟩, ⟨p4, p5, p6⟩, p7, p8⟩, hdr⟩ := hid
  have hD := endA_ge hdr
  have eD : endA F (e ++ (k :: d)) = endA (k.a + k.n) d := by rw [endA_app]; rfl
  have ebe := endB_eq e F F' _ _ hie
  obtain ⟨ED, hED⟩ : ∃ ED, ED = endA (k.a + k.n) d := ⟨_, rfl⟩
  have hcd := comeS_app e (k :: d)
  have hce := inc_come hie
  have hcdd := inc_come (s := k :: d) ⟨⟨⟨p1, p2, p3⟩, ⟨p4, p5, p6⟩, p7, p8⟩, hdr⟩
  have hcg : Ed.comeS g = Ed.comeS e + Ed.comeS (k :: d) + Ed.comeS r := by rw [← hg, comeS_app, comeS_app]; omega
  have hcr := (inc_come hir).1
  have hRge := endA_ge hir
  have eG : endA F g = endA ED r := by rw [← hg, endA_app, endA_app, hED]; rfl
  have hirE : endA (endA F e) (k :: d) = ED := by rw [hED]; rfl
  rw [hirE] at hRge
  rw [eD, ← hED] at hgR ⊢
  rw [← hED] at hD
  -- where the piece begins and ends
  obtain ⟨y, hy⟩ : ∃ y : Int, y = k.a - min (c : Int) k.a := ⟨_, rfl⟩
  obtain ⟨z, hz⟩ : ∃ z : Int, z = min (ED + c) a.length := ⟨_, rfl⟩
  have hyE : endA F e ≤ y := by
    by_cases he : e = []
    · have := hFhead he
      rw [he]
      show F ≤ y
      omega
    · have := hgE he
      omega
  have hyF : F ≤ y := by omega
  have hzk : ∀ k', r.head? = some k' → z ≤ k'.a ∧ z = ED + c ∧ k'.a ≤ endA ED r := by
    intro k' hk'
    have := hgR k' hk'
    cases r with
    | nil => cases hk'
    | cons k2 r =>
      simp at hk'
      subst hk'
      rw [hirE] at hir
      obtain ⟨⟨⟨r1, r2, r3⟩, _⟩, hrr⟩ := hir
      have h3 := (endA_ge hrr).1
      refine ⟨by omega, by omega, ?_⟩
      show _ ≤ endA (k2.a + k2.n) r
      omega
  have hzT : r = [] → z = min (ED + c) T := by
    intro hr
    rw [hr] at eG
    have eG2 : endA F g = ED := eG
    rw [eG2] at t3
    omega
  have hidy : inc (k :: d) y (endB F' e + (y - endA F e)) a.length b.length := inc_from (x := endA F e) (y := endB F' e) ⟨⟨⟨p1, p2, p3⟩, ⟨p4, p5, p6⟩, p7, p8⟩, hdr⟩ (by simp) (fun k' hk' => by simp at hk'; subst hk'; omega) (by omega)
  have hsplit1 : rowsG a b F g T = rowsG a b F e y ++ rowsG a b y ((k :: d) ++ r) T := by
    rw [← hg]
    exact rowsG_split e ((k :: d) ++ r) F F' y T _ _ hie f0 hyE (fun d' hd' => by simp at hd'; subst hd'; omega) (fun h => by simp at h)
  have hsplit2 : rowsG a b y ((k :: d) ++ r) T = rowsG a b y (k :: d) z ++ rowsG a b z r T := by
    refine rowsG_split (k :: d) r y _ z T _ _ hidy (by omega) (by show endA (k.a + k.n) d ≤ z; omega) (fun k' hk' => (hzk k' hk').1) (fun hr => ?_)
    have := hzT hr
    omega
  have l1 := len_rowsG (a := a) (b := b) hie f0 h0 hyE (by omega) (Int.le_refl _)
  have l2 := len_rowsG (a := a) (b := b) hidy (by omega) (by omega) (q := z) (by show endA (k.a + k.n) d ≤ z; omega) (by omega) (Int.le_refl _)
  have o1 := olds_rowsG (a := a) (b := b) hie f0 hyE
  have o2 := sl_len (l := a) (x := F) (y := y) f0 hyF (by omega)
  have fr1 := fres_rowsG (a := a) (b := b) hie f0 h0 hyE (by omega) (Int.le_refl _)
  have hfA : (k.a - F + Ed.comeS e).toNat - c = (rowsG a b F e y).length := by
    by_cases he : e = []
    · have h1 := hFhead he
      subst he
      simp only [Ed.comeS, List.map_nil, List.sum_nil] at l1 ⊢
      omega
    · have := hgE he
      omega
  have htB : min ((ED - F + Ed.comeS (e ++ (k :: d))).toNat + c) (rowsG a b F g T).length - (rowsG a b F e y).length = (rowsG a b y (k :: d) z).length := by
    rw [hcd]
    cases hr : r.head? with
    | none =>
      have hr2 := List.head?_eq_none_iff.1 hr
      have := hzT hr2
      rw [hr2] at hcg
      simp only [Ed.comeS, List.map_nil, List.sum_nil] at hcg hlen l1 l2 hce hcdd ⊢
      omega
    | some k' =>
      have := hzk k' hr
      omega
  have htk : (rowsG a b F g T).take ((k.a - F + Ed.comeS e).toNat - c) = rowsG a b F e y := by rw [hfA, hsplit1, List.take_left' rfl]
  have hsub : sub (rowsG a b F g T) ((k.a - F + Ed.comeS e).toNat - c) (min ((ED - F + Ed.comeS (e ++ (k :: d))).toNat + c) (rowsG a b F g T).length) = rowsG a b y (k :: d) z := by
    unfold sub
    rw [hfA, htB]
    rw [hsplit1, List.drop_left' rfl, hsplit2, List.take_left' rfl]
  rw [htk, hsub, o1, o2, fr1]
  unfold ofG
  have g1 : fromG c (k :: d) = y := by rw [hy]; rfl
  have g2 : fromH c (k :: d) = k.b - min (c : Int) k.a := rfl
  have g3 : toG c a.length (k :: d) = z := by
    unfold toG
    rw [← endA_last (x := k.a) (g := k :: d) (by simp), hz, hED]
    rfl
  rw [g1, g2, g3]
  congr 1 <;> omega
/-- a built hunk's pieces are those of its group's groups -/
theorem pieces_grp {ctx : Int} {c : Nat} {a b : List ByteArray} {g : List Ch} (hG : Grp ctx a b g) (hc : (c : Int) ≤ ctx) : ∀ (r d e : List Ch) (k : Ch), chain c (k :: d) → e ++ ((k :: d) ++ r) = g → (e ≠ [] → 2 * (c : Int) < k.a - endA (fromG ctx g) e) →
    (gR c (posC (fromG ctx g) (Ed.comeS (e ++ (k :: d))) r) (some ((k.a - fromG ctx g + Ed.comeS e).toNat, (endA (fromG ctx g) (e ++ (k :: d)) - fromG ctx g + Ed.comeS (e ++ (k :: d))).toNat))).map (fun s => cutP (ofG ctx a b g) (widS c (ofG ctx a b g).rows.length s).1 (widS c (ofG ctx a b g).rows.length s).2) = (grp c ((k :: d) ++ r)).map (ofG c a b)
  | [], d, e, k, hch, hg, hgE => by
    rw [posC, gR, List.append_nil, grp_one (by simp) hch]
    simp only [List.map_cons, List.map_nil, widS]
    rw [cut_piece hG hc hg hgE (fun k' h => by cases h)]
  | k' :: r, d, e, k, hch, hg, hgE => by
    have hi := hG.inc
    rw [← hg] at hi
    obtain ⟨hie, hi2⟩ := inc_app.1 hi
    obtain ⟨hidd, hir⟩ := inc_app.1 hi2
    have hE := endA_ge hie
    have hD := endA_ge hidd
    have hce := inc_come hie
    have hcd := inc_come hidd
    have eF : fromG ctx (e ++ ((k :: d) ++ k' :: r)) = fromG ctx g := by rw [hg]
    have eF' : fromH ctx (e ++ ((k :: d) ++ k' :: r)) = fromH ctx g := by rw [hg]
    rw [eF, eF'] at hie hidd hir hE hD
    obtain ⟨⟨⟨r1, r2, r3⟩, ⟨r4, r5, r6⟩, r7, r8⟩, hrr⟩ := hir
    have eD : endA (fromG ctx g) (e ++ (k :: d)) = endA (endA (fromG ctx g) e) (k :: d) := endA_app _ _ _
    have cED := comeS_app e (k :: d)
    have hlast : endA (fromG ctx g) (e ++ (k :: d)) = ((k :: d).getLastD zC).a + ((k :: d).getLastD zC).n := by rw [eD]; exact endA_last (by simp)
    rw [posC, gR_some]
    simp only
    by_cases hgap : k'.a - endA (fromG ctx g) (e ++ (k :: d)) ≤ 2 * (c : Int)
    · rw [if_pos (by omega)]
      have hch2 : chain c (k :: (d ++ [k'])) := by
        refine chain_snoc (d := k :: d) hch (fun l hl => ?_)
        have : ((k :: d).getLastD zC) = l := by rw [List.getLastD_eq_getLast?, hl]; rfl
        rw [this] at hlast
        omega
      have ih := pieces_grp hG hc r (d ++ [k']) e k hch2 (by rw [← hg]; simp) hgE
      have e1 : e ++ (k :: (d ++ [k'])) = (e ++ (k :: d)) ++ [k'] := by simp
      have e2 : (k :: (d ++ [k'])) ++ r = (k :: d) ++ k' :: r := by simp
      rw [e1, e2, comeS_app _ [k'], endA_app _ _ [k']] at ih
      have e3 : Ed.comeS [k'] = k'.m := by simp [Ed.comeS]
      have e4 : endA (endA (fromG ctx g) (e ++ (k :: d))) [k'] = k'.a + k'.n := rfl
      rw [e3, e4] at ih
      rw [← ih]
      congr 3
      congr 1
      congr 1
      omega
    · rw [if_neg (by omega), List.map_cons]
      have hcp := cut_piece (r := k' :: r) hG hc hg hgE (fun k2 h => by simp at h; subst h; omega)
      have ih := pieces_grp hG hc r [] (e ++ (k :: d)) k' ⟨(fun _ h => by cases h), trivial⟩ (by rw [← hg]; simp) (fun _ => by omega)
      have e3 : Ed.comeS [k'] = k'.m := by simp [Ed.comeS]
      rw [comeS_app _ [k'], endA_app _ _ [k'], e3] at ih
      have e4 : endA (endA (fromG ctx g) (e ++ (k :: d))) [k'] = k'.a + k'.n := rfl
      rw [e4] at ih
      rw [grp_chain (k :: d) (k' :: r) (by simp) hch (fun l c' hl hc' => by
        simp at hc'
        subst hc'
        have : ((k :: d).getLastD zC) = l := by rw [List.getLastD_eq_getLast?, hl]; rfl
        rw [this] at hlast
        omega), List.map_cons]
      refine List.cons_eq_cons.2 ⟨?_, ?_⟩
      · simp only [widS]
        exact hcp
      · show _ = (grp c ([k'] ++ r)).map _
        rw [← ih]
        congr 3
        congr 1
        congr 1
        omega
theorem headed_built {c : Int} {a b : List ByteArray} (l : List (List Ch)) : headed .empty (l.map (ofG c a b)) = l.map (ofG c a b) := by
  cases l <;> rfl
theorem narrow_built {ctx : Int} {c : Nat} {a b : List ByteArray} {g : List Ch} (hG : Grp ctx a b g) (hc : (c : Int) ≤ ctx) (hc1 : ctx ≤ 2147483647) (hv : vld (ofG ctx a b g) = true) :
    narN (ofG ctx a b g) c = 0 ∧ narA (ofG ctx a b g) c = (grp c g).map (ofG c a b) := by
  have h1 : narN (ofG ctx a b g) c = 0 := by
    unfold narN
    rw [if_pos (by unfold ctxOk; simp; omega), if_pos hv]
  refine ⟨h1, ?_⟩
  unfold narA
  rw [if_pos h1, Int.toNat_natCast, nD_groups (vld_parts hv).1, gfold_gR, List.map_map]
  have hr : runsR (ofG ctx a b g).rows 0 0 = posC (fromG ctx g) 0 g := runs_rowsG g _ _ _ _ _ 0 0 hG.inc hG.ap hG.f0 hG.h0 (Int.le_refl _) (Int.le_refl _) (by simp)
  rw [hr]
  cases g with
  | nil => exact absurd rfl hG.ne
  | cons k d =>
    have ih := pieces_grp hG hc d [] [] k ⟨(fun _ h => by cases h), trivial⟩ rfl (fun h => absurd rfl h)
    have e3 : Ed.comeS [k] = k.m := by simp [Ed.comeS]
    have e5 : Ed.comeS [] = 0 := rfl
    have e4 : endA (fromG ctx (k :: d)) [k] = k.a + k.n := rfl
    rw [List.nil_append, e3, e4, e5] at ih
    rw [posC, gR_none]
    show headed .empty _ = _
    have key : (gR c (posC (fromG ctx (k :: d)) (0 + k.m) d) (some ((k.a - fromG ctx (k :: d) + 0).toNat, (k.a + k.n - fromG ctx (k :: d) + 0 + k.m).toNat))).map ((fun s => cutP (ofG ctx a b (k :: d)) s.1 s.2) ∘ widS c (ofG ctx a b (k :: d)).rows.length) = (grp c (k :: d)).map (ofG c a b) := by
      refine Eq.trans ?_ ih
      simp only [Int.zero_add, Int.add_zero]
      rfl
    rw [key]
    exact headed_built _
theorem grp_all {ctx : Int} {a b : List ByteArray} (hc0 : 0 ≤ ctx) : ∀ (N : Nat) (t : List Ch) (x y : Int), t.length ≤ N → apart t → Ahead ctx t x y a.length b.length → ∀ g ∈ grp ctx t, Grp ctx a b g
  | 0, t, x, y, hN, _, _, g, hg => by
    have e : t = [] := List.length_eq_zero_iff.1 (by omega)
    subst e
    cases hg
  | N + 1, t, x, y, hN, hap, hA, g, hg => by
    by_cases hne : t = []
    · subst hne; cases hg
    · obtain ⟨g1, g2, g3, g4, _⟩ := hA.group hne hc0
      have hp := glen_pos ctx t hne
      rw [grp_glen ctx t hne] at hg
      rcases List.mem_cons.1 hg with rfl | hg
      · exact ⟨g1, g2, apart_take hap _, g3, g4, hc0⟩
      · exact grp_all hc0 N (t.drop (glen ctx t)) _ _ (by rw [List.length_drop]; omega) (apart_drop hap _) (hA.next hne) g hg
end Go.Proofs.YtnamioihapnefaaGreatDoor.Hu
