/-
  More context, plain: a built hunk that is made wide is the one that is built so of its group; two halves tell the same script.
-/
import Derived.Test.YtddmfdjkkikapaaGreatDoorGrUa
import Derived.Test.YtddmfdjkkikapaaGreatDoorGrLe
import Derived.Test.YtddmfdjkkikapaaGreatDoorGrUx
import Derived.Test.YtddmfdjkkikapaaGreatDoorGrUy
import Derived.Test.YtddmfdjkkikapaaGreatDoorGrUc
namespace Go.Proofs.YtddmfdjkkikapaaGreatDoor.Hu
open Go
open Ed (Ch Pr okC val apart)

/-! ### where the first and the last change stand -/
theorem posC_fst {F : Int} : ∀ (g : List Ch) (x y n m k : Int) (b : Nat × Nat), inc g x y n m → (b.1 : Int) ≤ x - F + k → ((posC F k g).foldl (fun p r => (min p.1 r.1, r.2)) b).1 = b.1
  | [], _, _, _, _, _, _, _, _ => rfl
  | c :: r, x, y, n, m, k, b, hi, hb => by
    obtain ⟨⟨⟨p1, p2, p3⟩, ⟨p4, p5, p6⟩, p7, p8⟩, hr⟩ := hi
    rw [posC, List.foldl_cons, posC_fst r (c.a + c.n) (c.b + c.m) n m (k + c.m) _ hr (by show ((min b.1 (c.a - F + k).toNat : Nat) : Int) ≤ _; omega)]
    show min b.1 (c.a - F + k).toNat = b.1
    omega
theorem posC_snd {F : Int} : ∀ (g : List Ch) (x k : Int) (b : Nat × Nat), g ≠ [] → ((posC F k g).foldl (fun p r => (min p.1 r.1, r.2)) b).2 = (endA x g - F + k + Ed.comeS g).toNat
  | [], _, _, _, h => absurd rfl h
  | [c], x, k, b, _ => by
    show (c.a + c.n - F + k + c.m).toNat = (c.a + c.n - F + k + Ed.comeS [c]).toNat
    have : Ed.comeS [c] = c.m := by simp [Ed.comeS]
    rw [this]
  | c :: d :: r, x, k, b, _ => by
    rw [posC, List.foldl_cons, posC_snd (d :: r) (c.a + c.n) (k + c.m) _ (by simp)]
    have : Ed.comeS (c :: d :: r) = c.m + Ed.comeS (d :: r) := by simp [Ed.comeS]
    rw [this]
    show (endA (c.a + c.n) (d :: r) - F + (k + c.m) + Ed.comeS (d :: r)).toNat = (endA (c.a + c.n) (d :: r) - F + k + (c.m + Ed.comeS (d :: r))).toNat
    congr 1
    omega
theorem arF_built {ctx : Int} {a b : List ByteArray} {g : List Ch} (hG : Grp ctx a b g) : arF (ofG ctx a b g).rows.length (runsR (ofG ctx a b g).rows 0 0) = (((g.headD zC).a - fromG ctx g).toNat, (endA (fromG ctx g) g - fromG ctx g + Ed.comeS g).toNat) := by
  have hr : runsR (ofG ctx a b g).rows 0 0 = posC (fromG ctx g) 0 g := runs_rowsG g _ _ _ _ _ 0 0 hG.inc hG.ap hG.f0 hG.h0 (Int.le_refl _) (Int.le_refl _) (by simp)
  obtain ⟨t1, t2, t3⟩ := hG.ends
  have hlen := len_rowsG (a := a) (b := b) hG.inc hG.f0 hG.h0 t1 t2 (Int.le_refl _)
  have hcm := inc_come hG.inc
  rw [hr]
  unfold arF
  refine Prod.ext ?_ ?_
  · cases g with
    | nil => exact absurd rfl hG.ne
    | cons c r =>
      have hi := hG.inc
      obtain ⟨⟨⟨p1, p2, p3⟩, ⟨p4, p5, p6⟩, p7, p8⟩, hr2⟩ := hi
      have hge := endA_ge hr2
      have hl : (((ofG ctx a b (c :: r)).rows.length : Nat) : Int) = toG ctx a.length (c :: r) - fromG ctx (c :: r) + Ed.comeS (c :: r) := hlen
      have ht1 : endA (c.a + c.n) r ≤ toG ctx a.length (c :: r) := t1
      generalize fromG ctx (c :: r) = F at *
      generalize (ofG ctx a b (c :: r)).rows.length = L at *
      rw [posC, List.foldl_cons, posC_fst r (c.a + c.n) (c.b + c.m) _ _ _ _ hr2 (by show ((min L (c.a - F + 0).toNat : Nat) : Int) ≤ _; omega)]
      show min L (c.a - F + 0).toNat = (c.a - F).toNat
      omega
  · rw [posC_snd g (fromG ctx g) 0 _ hG.ne]
    show (endA (fromG ctx g) g - fromG ctx g + 0 + Ed.comeS g).toNat = _
    rw [Int.add_zero]
theorem sl_nt {a : List ByteArray} {x y : Int} {p n : Nat} (hx : x = p) (hy : y = p + n) : (a.drop p).take n = sl a x y := by
  unfold sl
  rw [hx, hy, Int.toNat_natCast, show ((p : Int) + n - p).toNat = n by omega]
theorem num_bf {ctx more K F : Int} {bf : Nat} (hF : F = K - min ctx K) (h0 : 0 ≤ F) (hK : F ≤ K) (c0 : 0 ≤ ctx) (hc : ctx ≤ more) (hb : bf = min (more.toNat - (K - F).toNat) F.toNat) : F - bf = K - min more K := by omega
theorem num_af {ctx more F T E cm : Int} {L A N af : Nat} (ht : T = min (E + ctx) A) (hE : E ≤ T) (hFE : F ≤ E) (f0 : 0 ≤ F) (c0 : 0 ≤ ctx) (hc : ctx ≤ more) (hl : (L : Int) = T - F + cm) (hcm : 0 ≤ cm) (hN : (N : Int) = T - F) (ha : af = min (more.toNat - (L - (E - F + cm).toNat)) (A - (F.toNat + N))) : T + af = min (E + more) A := by omega
set_option maxHeartbeats 1000000 in
/-- a built hunk, made wide, is the one that is built so of its group -/
theorem wide_ofG {ctx more : Int} {a b : List ByteArray} {g : List Ch} (hG : Grp ctx a b g) (hc : ctx ≤ more) : wideH (ofG ctx a b g) a more = ofG more a b g := by
  obtain ⟨t1, t2, t3⟩ := hG.ends
  have hinc := hG.inc
  have f0 := hG.f0
  have h0 := hG.h0
  have c0 := hG.c0
  have hlen := len_rowsG (a := a) (b := b) hinc f0 h0 t1 t2 (Int.le_refl _)
  have hold := olds_rowsG (a := a) (b := b) hinc f0 t1
  have hcm := inc_come hinc
  have hge := endA_ge hinc
  have e1 : plc (ofG ctx a b g).a (ofG ctx a b g).n = fromG ctx g := plc_told _ _
  have e2 : plc (ofG ctx a b g).b (ofG ctx a b g).m = fromH ctx g := plc_told _ _
  have har := arF_built hG
  have e3 : (ofG ctx a b g).rows = rowsG a b (fromG ctx g) g (toG ctx a.length g) := rfl
  obtain ⟨K, hK⟩ : ∃ K, K = (g.headD zC).a := ⟨_, rfl⟩
  have hKd : ∀ d, g.head? = some d → K = d.a := by
    intro d hd
    cases g with
    | nil => cases hd
    | cons c r => simp at hd; subst hd; exact hK
  have hF : fromG ctx g = K - min ctx K := by rw [hK]; rfl
  have hF2 : fromG more g = K - min more K := by rw [hK]; rfl
  have hH : fromH ctx g = (g.headD zC).b - min ctx K := by rw [hK]; rfl
  have hH2 : fromH more g = (g.headD zC).b - min more K := by rw [hK]; rfl
  have hT2 : toG more a.length g = min (endA (fromG ctx g) g + more) a.length := by unfold toG; rw [← endA_last (x := fromG ctx g) hG.ne]
  have hK0 : fromG ctx g ≤ K ∧ K ≤ endA (fromG ctx g) g := by
    cases g with
    | nil => exact absurd rfl hG.ne
    | cons c r =>
      obtain ⟨⟨⟨p1, p2, p3⟩, _⟩, hr2⟩ := hinc
      have := endA_ge hr2
      have hk : K = c.a := hK
      have : endA (c.a + c.n) r = endA (fromG ctx (c :: r)) (c :: r) := rfl
      omega
  have hob : ((sl a (fromG ctx g) (toG ctx a.length g)).length : Int) = toG ctx a.length g - fromG ctx g := sl_len f0 (by omega) t2
  rw [← e3] at hlen hold
  rw [← hold] at hob
  rw [← hK] at har
  generalize hFF : fromG ctx g = F at *
  generalize hTT : toG ctx a.length g = T at *
  generalize hEE : endA F g = E at *
  obtain ⟨bf, hbf⟩ : ∃ bf, bf = wBf (ofG ctx a b g).rows more F.toNat := ⟨_, rfl⟩
  obtain ⟨N, hN⟩ : ∃ N, N = (olds (ofG ctx a b g).rows).length := ⟨_, rfl⟩
  obtain ⟨af, haf⟩ : ∃ af, af = wAf (ofG ctx a b g).rows more (a.length - (F.toNat + N)) := ⟨_, rfl⟩
  have hbf2 := hbf
  have haf2 := haf
  unfold wBf at hbf2
  unfold wAf at haf2
  rw [har] at hbf2 haf2
  simp only at hbf2 haf2
  rw [← hN] at hob
  have hP1 : F - bf = K - min more K := num_bf hF f0 hK0.1 c0 hc hbf2
  have hP2 : T + af = min (E + more) a.length := num_af t3 t1 (by omega) f0 c0 hc hlen hcm.1 hob haf2
  have hrows : wRows a (ofG ctx a b g).rows more F.toNat N = rowsG a b (K - min more K) g (min (E + more) a.length) := by
    unfold wRows
    rw [← hbf, ← haf, e3]
    rw [sl_nt (x := F - bf) (y := F) (by omega) (by omega), sl_nt (x := T) (y := T + af) (by omega) (by omega)]
    have hi' : inc g (F - bf) (fromH ctx g - bf) a.length b.length := inc_from hinc hG.ne (fun k hk => by have := hKd k hk; omega) (by omega)
    have s1 := rowsG_split (a := a) (b := b) [] g (F - bf) (fromH ctx g - bf) F (T + af) a.length b.length (by show F - bf ≤ _ ∧ _ ≤ _; have := endA_ge hi'; omega) (by omega) (by show F - bf ≤ F; omega) (fun d hd => by have := hKd d hd; omega) (fun e => absurd e hG.ne)
    have s2 := rowsG_split (a := a) (b := b) g [] F (fromH ctx g) T (T + af) a.length b.length hinc f0 (by rw [hEE]; omega) (fun d hd => by cases hd) (fun _ => by omega)
    rw [List.nil_append] at s1
    rw [List.append_nil] at s2
    rw [← hP1, ← hP2, s1, s2, List.append_assoc]
    rfl
  unfold wideH
  rw [e1, e2, ← hN, hrows, ← hbf]
  unfold ofG
  rw [hF2, hH2, hT2, hH]
  rw [show F - (bf : Int) = K - min more K from hP1, show (g.headD zC).b - min ctx K - (bf : Int) = (g.headD zC).b - min more K by omega]
  rfl
theorem grp_more {ctx more : Int} {a b : List ByteArray} {g : List Ch} (hG : Grp ctx a b g) (hc : ctx ≤ more) (hv : vld (ofG more a b g) = true) : Grp more a b g := by
  have c0 := hG.c0
  have f0 := hG.f0
  have hb : 0 ≤ fromH more g := by
    obtain ⟨_, _, _, _, _, _, p6, _⟩ := vld_parts hv
    have p6 : min (((fres (rowsG a b (fromG more g) g (toG more a.length g))).length : Nat) : Int) 1 ≤ told (fromH more g) (fres (rowsG a b (fromG more g) g (toG more a.length g))).length := p6
    unfold told at p6
    split at p6 <;> omega
  have hF : fromG ctx g = (g.headD zC).a - min ctx (g.headD zC).a := rfl
  have hF2 : fromG more g = (g.headD zC).a - min more (g.headD zC).a := rfl
  have hH : fromH ctx g = (g.headD zC).b - min ctx (g.headD zC).a := rfl
  have hH2 : fromH more g = (g.headD zC).b - min more (g.headD zC).a := rfl
  refine ⟨hG.ne, inc_from hG.inc hG.ne (fun k hk => ?_) (by omega), hG.ap, by omega, hb, by omega⟩
  cases g with
  | nil => cases hk
  | cons c r =>
    simp at hk
    subst hk
    show c.a - min more c.a ≤ c.a
    have h1 : fromG ctx (c :: r) = c.a - min ctx c.a := rfl
    have : 0 ≤ c.a := by
      have := hG.inc.1.1.1
      omega
    omega
theorem chain_more {ctx more : Int} (hc : ctx ≤ more) : ∀ {g : List Ch}, chain ctx g → chain more g
  | [], _ => trivial
  | _ :: _, h => ⟨fun d hd => by have := h.1 d hd; omega, chain_more hc h.2⟩
/-- made wide and narrowed again -/
theorem wide_back {ctx more : Int} {a b : List ByteArray} {g : List Ch} (hG : Grp ctx a b g) (hch : chain ctx g) (hc : ctx ≤ more) (hm : more ≤ 2147483647) (hv : vld (ofG more a b g) = true) : narN (ofG more a b g) ctx = 0 ∧ narA (ofG more a b g) ctx = [ofG ctx a b g] := by
  have c0 := hG.c0
  obtain ⟨c, rfl⟩ : ∃ c : Nat, ctx = c := ⟨ctx.toNat, by omega⟩
  have := narrow_built (grp_more hG hc hv) hc hm hv
  rw [grp_one hG.ne hch] at this
  exact this
/-! ### rows as a script -/
def prR : List Rw → Int → Int → List Pr
  | [], _, _ => []
  | r :: l, x, y => if r.k = 1 then (x, y) :: prR l (x + 1) (y + 1) else if r.k = 2 then prR l (x + 1) y else prR l x (y + 1)
theorem prR_app : ∀ (l m : List Rw) (x y : Int), (∀ r ∈ l, r.k = 1 ∨ r.k = 2 ∨ r.k = 3) → prR (l ++ m) x y = prR l x y ++ prR m (x + (olds l).length) (y + (fres l).length)
  | [], m, x, y, _ => by simp [prR, olds, fres]
  | r :: l, m, x, y, hk => by
    have ih := fun x y => prR_app l m x y (fun s hs => hk s (List.mem_cons_of_mem _ hs))
    rw [List.cons_append, prR, prR, olds_cons, fres_cons]
    rcases hk r List.mem_cons_self with e | e | e
    · rw [if_pos e, if_pos e, ih, if_pos (by simp [isO, e]), if_pos (by simp [isF, e]), List.length_cons, List.length_cons, List.cons_append]
      congr 2 <;> push_cast <;> congr 1 <;> omega
    · rw [if_neg (by omega), if_pos e, if_neg (by omega), if_pos e, ih, if_pos (by simp [isO, e]), if_neg (by simp [isF, e]), List.length_cons]
      congr 1
      push_cast
      congr 1
      omega
    · rw [if_neg (by omega), if_neg (by omega), if_neg (by omega), if_neg (by omega), ih, if_neg (by simp [isO, e]), if_pos (by simp [isF, e]), List.length_cons]
      congr 1
      push_cast
      congr 1
      omega
theorem prs_shift {S : List Ch} {N x y : Int} {k : Nat} (h1 : ∀ d, S.head? = some d → x + k ≤ d.a) (h2 : S = [] → x + k ≤ N) : Ed.prs S N x y = Ed.exN x y k ++ Ed.prs S N (x + k) (y + k) := by
  cases S with
  | nil =>
    have := h2 rfl
    rw [Ed.prs_nil, Ed.prs_nil, show (N - x).toNat = k + (N - (x + k)).toNat by omega, Ed.exN_add]
  | cons c r =>
    have := h1 c rfl
    rw [Ed.prs_cons, Ed.prs_cons, show (c.a - x).toNat = k + (c.a - (x + k)).toNat by omega, Ed.exN_add, List.append_assoc]
theorem scrS_head : ∀ (l : List Rw) (x y : Int) (cur : Option Ch), (∀ d, (scrS l x y cur).head? = some d → (match cur with | none => x ≤ d.a | some c => d.a = c.a))
  | [], x, y, none, d, hd => by cases hd
  | [], x, y, some c, d, hd => by
    have e : c = d := by simpa [scrS] using hd
    rw [e]
  | r :: l, x, y, none, d, hd => by
    rw [scrS] at hd
    split at hd
    · have := scrS_head l (x + 1) (y + 1) none d hd
      simp only at this ⊢
      omega
    · split at hd
      · have := scrS_head l (x + 1) y (some (addO x y none)) d hd
        simp only [addO] at this ⊢
        omega
      · have := scrS_head l x (y + 1) (some (addF x y none)) d hd
        simp only [addF] at this ⊢
        omega
  | r :: l, x, y, some c, d, hd => by
    rw [scrS] at hd
    split at hd
    · have e : c = d := by simpa using hd
      rw [e]
    · split at hd
      · have := scrS_head l (x + 1) y (some (addO x y (some c))) d hd
        exact this
      · have := scrS_head l x (y + 1) (some (addF x y (some c))) d hd
        exact this
theorem head_app {α : Type} {S R : List α} {d : α} (h : (S ++ R).head? = some d) : S.head? = some d ∨ (S = [] ∧ R.head? = some d) := by
  cases S with
  | nil => exact .inr ⟨rfl, h⟩
  | cons c S => exact .inl h
/-- the pairs of lines that stay -/
theorem prs_scrS {R : List Ch} {N : Int} : ∀ (l : List Rw) (x y : Int), (∀ r ∈ l, r.k = 1 ∨ r.k = 2 ∨ r.k = 3) → (∀ d, R.head? = some d → x + (olds l).length ≤ d.a) → (R = [] → x + (olds l).length ≤ N) →
    (Ed.prs (scrS l x y none ++ R) N x y = prR l x y ++ Ed.prs R N (x + (olds l).length) (y + (fres l).length)) ∧
    ∀ c : Ch, c.a + c.n = x → c.b + c.m = y → Ed.prs (scrS l x y (some c) ++ R) N c.a c.b = prR l x y ++ Ed.prs R N (x + (olds l).length) (y + (fres l).length)
  | [], x, y, _, _, _ => by
    refine ⟨by simp [scrS, prR, olds, fres], fun c h1 h2 => ?_⟩
    show Ed.prs (c :: R) N c.a c.b = _
    rw [Ed.prs_cons, h1, h2]
    simp [prR, olds, fres, Ed.exN]
  | r :: l, x, y, hk, hR, hN => by
    have hk' : ∀ s ∈ l, s.k = 1 ∨ s.k = 2 ∨ s.k = 3 := fun s hs => hk s (List.mem_cons_of_mem _ hs)
    rw [olds_cons] at hR hN
    rw [prR, olds_cons, fres_cons]
    rcases hk r List.mem_cons_self with e | e | e
    · rw [if_pos (show isO r = true by simp [isO, e]), List.length_cons] at hR hN
      rw [if_pos (show isO r = true by simp [isO, e]), if_pos (show isF r = true by simp [isF, e]), if_pos e, List.length_cons, List.length_cons]
      obtain ⟨i1, _⟩ := prs_scrS (R := R) (N := N) l (x + 1) (y + 1) hk' (fun d hd => by have := hR d hd; push_cast at this; omega) (fun h => by have := hN h; push_cast at this; omega)
      have hs : Ed.prs (scrS l (x + 1) (y + 1) none ++ R) N x y = (x, y) :: Ed.prs (scrS l (x + 1) (y + 1) none ++ R) N (x + 1) (y + 1) := by
        have := prs_shift (S := scrS l (x + 1) (y + 1) none ++ R) (N := N) (x := x) (y := y) (k := 1) (fun d hd => by
          rcases head_app hd with h | ⟨_, h⟩
          · exact scrS_head l (x + 1) (y + 1) none d h
          · have := hR d h; push_cast at this; show x + 1 ≤ d.a; omega) (fun h => by
          have h2 : R = [] := (List.append_eq_nil_iff.1 h).2
          have := hN h2; push_cast at this; show x + 1 ≤ N; omega)
        exact this
      have e1 : Ed.prs (scrS l (x + 1) (y + 1) none ++ R) N x y = (x, y) :: prR l (x + 1) (y + 1) ++ Ed.prs R N (x + ((olds l).length + 1 : Nat)) (y + ((fres l).length + 1 : Nat)) := by
        rw [hs, i1, List.cons_append]
        congr 3 <;> push_cast <;> omega
      refine ⟨?_, fun c h1 h2 => ?_⟩
      · rw [scrS, if_pos e]
        exact e1
      · rw [scrS, if_pos e]
        show Ed.prs (c :: (scrS l (x + 1) (y + 1) none ++ R)) N c.a c.b = _
        rw [Ed.prs_cons, h1, h2, Int.sub_self]
        exact e1
    · rw [if_pos (show isO r = true by simp [isO, e]), List.length_cons] at hR hN
      rw [if_pos (show isO r = true by simp [isO, e]), if_neg (show ¬ isF r = true by simp [isF, e]), if_neg (by omega), if_pos e, List.length_cons]
      obtain ⟨_, i2⟩ := prs_scrS (R := R) (N := N) l (x + 1) y hk' (fun d hd => by have := hR d hd; push_cast at this; omega) (fun h => by have := hN h; push_cast at this; omega)
      have e1 : x + 1 + ((olds l).length : Int) = x + ((olds l).length + 1 : Nat) := by push_cast; omega
      rw [e1] at i2
      refine ⟨?_, fun c h1 h2 => ?_⟩
      · rw [scrS, if_neg (by omega), if_pos e]
        exact i2 ⟨x, 1, y, 0⟩ rfl (by simp)
      · rw [scrS, if_neg (by omega), if_pos e]
        exact i2 ⟨c.a, c.n + 1, c.b, c.m⟩ (by show c.a + (c.n + 1) = x + 1; omega) h2
    · rw [if_neg (show ¬ isO r = true by simp [isO, e])] at hR hN
      rw [if_neg (show ¬ isO r = true by simp [isO, e]), if_pos (show isF r = true by simp [isF, e]), if_neg (by omega), if_neg (by omega), List.length_cons]
      obtain ⟨_, i2⟩ := prs_scrS (R := R) (N := N) l x (y + 1) hk' hR hN
      have e1 : y + 1 + ((fres l).length : Int) = y + ((fres l).length + 1 : Nat) := by push_cast; omega
      rw [e1] at i2
      refine ⟨?_, fun c h1 h2 => ?_⟩
      · rw [scrS, if_neg (by omega), if_neg (by omega)]
        exact i2 ⟨x, 0, y, 1⟩ (by simp) rfl
      · rw [scrS, if_neg (by omega), if_neg (by omega)]
        exact i2 ⟨c.a, c.n, c.b, c.m + 1⟩ h1 (by show c.b + (c.m + 1) = y + 1; omega)
theorem val_shift {S : List Ch} {x y x' y' n m : Int} (h : val S x y n m = true) (h1 : x' ≤ x) (h2 : x - x' = y - y') : val S x' y' n m = true := by
  cases S with
  | nil => unfold val at *; simp at *; omega
  | cons c r =>
    obtain ⟨⟨⟨p1, p2, p3⟩, ⟨p4, p5, p6⟩, p7, p8⟩, hr⟩ := Ed.val_cons.1 h
    exact Ed.val_cons.2 ⟨⟨⟨by omega, p2, p3⟩, ⟨by omega, p5, p6⟩, p7, by omega⟩, hr⟩
theorem val_scrS {R : List Ch} {n m : Int} : ∀ (l : List Rw) (x y : Int), (∀ r ∈ l, r.k = 1 ∨ r.k = 2 ∨ r.k = 3) → x + (olds l).length ≤ n → y + (fres l).length ≤ m → val R (x + (olds l).length) (y + (fres l).length) n m = true →
    val (scrS l x y none ++ R) x y n m = true ∧ ∀ c : Ch, c.a + c.n = x → c.b + c.m = y → 0 ≤ c.n → 0 ≤ c.m → ¬ (c.n = 0 ∧ c.m = 0) → val (scrS l x y (some c) ++ R) c.a c.b n m = true
  | [], x, y, _, hx, hy, hR => by
    simp only [olds, fres, List.filter_nil, List.map_nil, List.length_nil, Int.natCast_zero, Int.add_zero] at hx hy hR
    refine ⟨hR, fun c h1 h2 h3 h4 h5 => ?_⟩
    show val (c :: R) c.a c.b n m = true
    refine Ed.val_cons.2 ⟨⟨⟨Int.le_refl _, h3, by omega⟩, ⟨Int.le_refl _, h4, by omega⟩, h5, by omega⟩, ?_⟩
    rw [h1, h2]
    exact hR
  | r :: l, x, y, hk, hx, hy, hR => by
    have hk' : ∀ s ∈ l, s.k = 1 ∨ s.k = 2 ∨ s.k = 3 := fun s hs => hk s (List.mem_cons_of_mem _ hs)
    rw [olds_cons] at hx hR
    rw [fres_cons] at hy hR
    rcases hk r List.mem_cons_self with e | e | e
    · rw [if_pos (show isO r = true by simp [isO, e]), List.length_cons] at hx hR
      rw [if_pos (show isF r = true by simp [isF, e]), List.length_cons] at hy hR
      push_cast at hx hy hR
      obtain ⟨i1, _⟩ := val_scrS (R := R) (n := n) (m := m) l (x + 1) (y + 1) hk' (by omega) (by omega) (by
        rw [show x + 1 + ((olds l).length : Int) = x + ((olds l).length + 1) by omega, show y + 1 + ((fres l).length : Int) = y + ((fres l).length + 1) by omega]; exact hR)
      have i1' := val_shift (x' := x) (y' := y) i1 (by omega) (by omega)
      refine ⟨by rw [scrS, if_pos e]; exact i1', fun c h1 h2 h3 h4 h5 => ?_⟩
      rw [scrS, if_pos e]
      show val (c :: (scrS l (x + 1) (y + 1) none ++ R)) c.a c.b n m = true
      refine Ed.val_cons.2 ⟨⟨⟨Int.le_refl _, h3, by omega⟩, ⟨Int.le_refl _, h4, by omega⟩, h5, by omega⟩, ?_⟩
      rw [h1, h2]
      exact i1'
    · rw [if_pos (show isO r = true by simp [isO, e]), List.length_cons] at hx hR
      rw [if_neg (show ¬ isF r = true by simp [isF, e])] at hy hR
      push_cast at hx hR
      obtain ⟨_, i2⟩ := val_scrS (R := R) (n := n) (m := m) l (x + 1) y hk' (by omega) hy (by
        rw [show x + 1 + ((olds l).length : Int) = x + ((olds l).length + 1) by omega]; exact hR)
      refine ⟨?_, fun c h1 h2 h3 h4 h5 => ?_⟩
      · rw [scrS, if_neg (by omega), if_pos e]
        exact i2 ⟨x, 1, y, 0⟩ rfl (by simp) (by simp) (by simp) (by simp)
      · rw [scrS, if_neg (by omega), if_pos e]
        exact i2 ⟨c.a, c.n + 1, c.b, c.m⟩ (by show c.a + (c.n + 1) = x + 1; omega) h2 (by show 0 ≤ c.n + 1; omega) h4 (by show ¬ (c.n + 1 = 0 ∧ c.m = 0); omega)
    · rw [if_neg (show ¬ isO r = true by simp [isO, e])] at hx hR
      rw [if_pos (show isF r = true by simp [isF, e]), List.length_cons] at hy hR
      push_cast at hy hR
      obtain ⟨_, i2⟩ := val_scrS (R := R) (n := n) (m := m) l x (y + 1) hk' hx (by omega) (by
        rw [show y + 1 + ((fres l).length : Int) = y + ((fres l).length + 1) by omega]; exact hR)
      refine ⟨?_, fun c h1 h2 h3 h4 h5 => ?_⟩
      · rw [scrS, if_neg (by omega), if_neg (by omega)]
        exact i2 ⟨x, 0, y, 1⟩ (by simp) rfl (by simp) (by simp) (by simp)
      · rw [scrS, if_neg (by omega), if_neg (by omega)]
        exact i2 ⟨c.a, c.n, c.b, c.m + 1⟩ h1 (by show c.b + (c.m + 1) = y + 1; omega) h3 (by show 0 ≤ c.m + 1; omega) (by show ¬ (c.n = 0 ∧ c.m + 1 = 0); omega)
/-- what is left behind the rows -/
theorem scrS_ends {n m : Int} : ∀ (l : List Rw) (x y x0 y0 : Int), (∀ r ∈ l, r.k = 1 ∨ r.k = 2 ∨ r.k = 3) →
    (val (scrS l x y none) x0 y0 n m = true → x - x0 = y - y0 → n - (x + (olds l).length) = m - (y + (fres l).length)) ∧
    ∀ c : Ch, val (scrS l x y (some c)) x0 y0 n m = true → c.a + c.n = x → c.b + c.m = y → n - (x + (olds l).length) = m - (y + (fres l).length)
  | [], x, y, x0, y0, _ => by
    refine ⟨fun h h2 => ?_, fun c h h1 h2 => ?_⟩
    · have h : decide (n - x0 = m - y0) = true := h
      simp [olds, fres] at *
      omega
    · have h : val [c] x0 y0 n m = true := h
      have h3 := (Ed.val_cons.1 h).2
      have h3 : decide (n - (c.a + c.n) = m - (c.b + c.m)) = true := h3
      simp [olds, fres] at *
      omega
  | r :: l, x, y, x0, y0, hk => by
    have hk' : ∀ s ∈ l, s.k = 1 ∨ s.k = 2 ∨ s.k = 3 := fun s hs => hk s (List.mem_cons_of_mem _ hs)
    rw [olds_cons, fres_cons]
    rcases hk r List.mem_cons_self with e | e | e
    · rw [if_pos (show isO r = true by simp [isO, e]), if_pos (show isF r = true by simp [isF, e]), List.length_cons, List.length_cons]
      refine ⟨fun h h2 => ?_, fun c h h1 h2 => ?_⟩
      · rw [scrS, if_pos e] at h
        have := (scrS_ends (n := n) (m := m) l (x + 1) (y + 1) x0 y0 hk').1 h (by omega)
        push_cast
        omega
      · rw [scrS, if_pos e] at h
        have h : val (c :: scrS l (x + 1) (y + 1) none) x0 y0 n m = true := h
        have h3 := (Ed.val_cons.1 h).2
        have := (scrS_ends (n := n) (m := m) l (x + 1) (y + 1) (c.a + c.n) (c.b + c.m) hk').1 h3 (by omega)
        push_cast
        omega
    · rw [if_pos (show isO r = true by simp [isO, e]), if_neg (show ¬ isF r = true by simp [isF, e]), List.length_cons]
      have ih := (scrS_ends (n := n) (m := m) l (x + 1) y x0 y0 hk').2
      refine ⟨fun h h2 => ?_, fun c h h1 h2 => ?_⟩
      · rw [scrS, if_neg (by omega), if_pos e] at h
        have := ih ⟨x, 1, y, 0⟩ h rfl (by simp)
        push_cast
        omega
      · rw [scrS, if_neg (by omega), if_pos e] at h
        have := ih ⟨c.a, c.n + 1, c.b, c.m⟩ h (by show c.a + (c.n + 1) = x + 1; omega) h2
        push_cast
        omega
    · rw [if_neg (show ¬ isO r = true by simp [isO, e]), if_pos (show isF r = true by simp [isF, e]), List.length_cons]
      have ih := (scrS_ends (n := n) (m := m) l x (y + 1) x0 y0 hk').2
      refine ⟨fun h h2 => ?_, fun c h h1 h2 => ?_⟩
      · rw [scrS, if_neg (by omega), if_neg (by omega)] at h
        have := ih ⟨x, 0, y, 1⟩ h (by simp) rfl
        push_cast
        omega
      · rw [scrS, if_neg (by omega), if_neg (by omega)] at h
        have := ih ⟨c.a, c.n, c.b, c.m + 1⟩ h h1 (by show c.b + (c.m + 1) = y + 1; omega)
        push_cast
        omega
end Go.Proofs.YtddmfdjkkikapaaGreatDoor.Hu
