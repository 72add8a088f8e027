/-
  More context, plain: what the law asks of built hunks.
-/
import Derived.Test.YtddmfdjkkikapaaGreatDoorOm
namespace Go.Proofs.YtddmfdjkkikapaaGreatDoor
open Go
open Hu (Rw Hk)
open Ed (Ch)

/-- what is known of a script that Build takes -/
structure BdI (s : List Ch) (a b : List ByteArray) (ctx : Int) (t : List Ch) : Prop where
  c : 0 ≤ ctx ∧ ctx ≤ 2147483647
  va : Hu.valS a = true
  vb : Hu.valS b = true
  V : Ed.Val t a.length b.length
  ap : Ed.apart t
  eqs : ∀ pr ∈ Ed.prs t a.length 0 0, Hu.eqW a b pr = true
  J : bldA s a b ctx = (Hu.grp ctx t).map (Hu.ofG ctx a b)
  la : a.length ≤ 4194304
  lb : b.length ≤ 4194304
theorem bd_i {s : List Ch} {a b : List ByteArray} {ctx : Int} (h : bldN s a b ctx = 0) : BdI s a b ctx (Ed.normal s a.length b.length) := by
  obtain ⟨hc, hva, hvb, hk, he⟩ := bldN_zero h
  have hV0 := Ed.validN_zero.1 hk
  obtain ⟨hV, hpr⟩ := Ed.normal_Val hV0
  have hn := Ed.cnt_iff.1 hV.1
  have hm := Ed.cnt_iff.1 hV.2.1
  have hall := Hu.endsP_all ⟨s, hV0, rfl⟩ hva hvb
  rw [he] at hall
  exact ⟨hc, hva, hvb, hV, normal_apart hV0, fun pr hp => List.all_eq_true.1 hall.symm pr hp, by unfold bldA; rw [if_pos h]; rfl, by omega, by omega⟩
theorem BdI.grp {s : List Ch} {a b : List ByteArray} {ctx : Int} {t : List Ch} (h : BdI s a b ctx t) {g : List Ch} (hg : g ∈ Hu.grp ctx t) : Hu.Grp ctx a b g ∧ Hu.chain ctx g :=
  ⟨Hu.grp_all h.c.1 _ t 0 0 (Nat.le_refl _) h.ap (Hu.Ahead.start h.V) g hg, (Hu.grp_each ctx t g hg).2⟩
theorem wide_narrow {s : List Ch} {a b : List ByteArray} {ctx more : Int} (h : bldN s a b ctx = 0) (hc : ctx ≤ more) (hm : more ≤ 2147483647) : ∀ x ∈ bldA s a b ctx, wideN x a more = 0 → narN (Hu.wideH x a more) ctx = 0 ∧ narA (Hu.wideH x a more) ctx = [x] := by
  intro x hx hw
  have hI := bd_i h
  rw [hI.J] at hx
  obtain ⟨g, hg, rfl⟩ := List.mem_map.1 hx
  obtain ⟨hG, hch⟩ := hI.grp hg
  have hv : Hu.vld (Hu.wideH (Hu.ofG ctx a b g) a more) = true := by
    unfold wideN at hw
    split at hw
    · split at hw
      · split at hw
        · split at hw
          · split at hw
            · assumption
            · cases hw
          · cases hw
        · cases hw
      · cases hw
    · cases hw
  rw [Hu.wide_ofG hG hc] at hv ⊢
  exact Hu.wide_back hG hch hc hm hv
theorem grp_single {ctx : Int} {t : List Ch} (h : (Hu.grp ctx t).length = 1) : Hu.grp ctx t = [t] ∧ t ≠ [] := by
  have hne : t ≠ [] := fun e => by rw [e] at h; cases h
  have e := Hu.grp_glen ctx t hne
  rw [e] at h
  have h2 : (Hu.grp ctx (t.drop (Hu.glen ctx t))).length = 0 := by simpa using h
  have h3 : t.drop (Hu.glen ctx t) = [] := by
    cases hd : t.drop (Hu.glen ctx t) with
    | nil => rfl
    | cons d r =>
      rw [hd] at h2
      obtain ⟨g, gs, hg⟩ := Hu.grp_head ctx d r
      rw [hg] at h2
      cases h2
  have h4 : t.take (Hu.glen ctx t) = t := by
    have := List.take_append_drop (Hu.glen ctx t) t
    rw [h3, List.append_nil] at this
    exact this
  rw [e, h3, h4]
  exact ⟨rfl, hne⟩
/-- the one hunk, made wide, is the one that is built so -/
theorem wide_one {s : List Ch} {a b : List ByteArray} {ctx more : Int} (h : bldN s a b ctx = 0) (h2 : bldN s a b more = 0) (hc : ctx ≤ more) {x : Hk} (hx : bldA s a b ctx = [x]) : wideN x a more = 0 ∧ bldA s a b more = [Hu.wideH x a more] := by
  have hI := bd_i h
  have hI2 := bd_i h2
  have hJ := hI.J
  rw [hx] at hJ
  have hl : (Hu.grp ctx (Ed.normal s a.length b.length)).length = 1 := by
    have := congrArg List.length hJ
    simpa using this.symm
  obtain ⟨hg1, hne⟩ := grp_single hl
  have hgm : Ed.normal s a.length b.length ∈ Hu.grp ctx (Ed.normal s a.length b.length) := by rw [hg1]; exact List.mem_cons_self
  obtain ⟨hG, hch⟩ := hI.grp hgm
  rw [hg1] at hJ
  have hx2 : x = Hu.ofG ctx a b (Ed.normal s a.length b.length) := by simpa using hJ
  have hg2 := Hu.grp_one hne (Hu.chain_more hc hch)
  have hJ2 := hI2.J
  rw [hg2] at hJ2
  have hw : Hu.wideH x a more = Hu.ofG more a b (Ed.normal s a.length b.length) := by rw [hx2]; exact Hu.wide_ofG hG hc
  refine ⟨?_, by rw [hw, hJ2]; rfl⟩
  have hall : ∀ {c : Int}, bldN s a b c = 0 → ∀ y ∈ bldA s a b c, Hu.vld y = true := fun {c} hz y hy => by
    have ho := (bld_ar hz).ord
    unfold Hu.orderN at ho
    cases q : (bldA s a b c).all Hu.vld with
    | true => exact List.all_eq_true.1 q y hy
    | false => rw [q] at ho; simp at ho
  have hv1 : Hu.vld x = true := hall h x (by rw [hx]; exact List.mem_cons_self)
  have hv2 : Hu.vld (Hu.wideH x a more) = true := hall h2 _ (by rw [hw, hJ2]; exact List.mem_cons_self)
  generalize ht : Ed.normal s a.length b.length = t at *
  obtain ⟨t1, t2, t3⟩ := hG.ends
  have hge := Hu.endA_ge hG.inc
  have hend : (a.length : Int) - Hu.endA (Hu.fromG ctx t) t = b.length - Hu.endB (Hu.fromH ctx t) t := by
    have hv := Hu.val_drop t [] 0 0 a.length b.length (by rw [List.append_nil]; exact hI.V.2.2)
    rw [Hu.endA_any hne (Hu.fromG ctx t) 0, Hu.endB_any hne (Hu.fromH ctx t) 0]
    unfold Ed.val at hv
    simpa using hv
  have hF : Hu.fromG ctx t - 0 = Hu.fromH ctx t - 0 := by
    cases t with
    | nil => exact absurd rfl hne
    | cons c r =>
      have := (Hu.inc_val hI.V.2.2 (by omega) (by omega)).1.2.2.2
      show c.a - min ctx c.a - 0 = c.b - min ctx c.a - 0
      omega
  have hO := Hu.ofG_ok hI.va hI.vb hne hG.inc hG.f0 hG.h0 hG.c0 hI.la hI.lb (by omega) (fun pr hp => hI.eqs pr (by
    have := Hu.prs_sub t [] 0 0 (Hu.fromG ctx t) (Hu.fromH ctx t) (Hu.toG ctx a.length t) a.length hG.f0 hF (fun d hd => by cases hd) (fun _ => t2) pr hp
    rwa [List.append_nil] at this))
  have hst : Hu.stB a (Hu.olds x.rows) (Hu.fres x.rows) (Hu.plc x.a x.n) = true := by
    have hl := Hu.sl_len (l := a) hG.f0 (by omega) t2
    unfold Hu.stB
    rw [hx2, hO.pa, hO.olds, hl]
    rw [show Hu.fromG ctx t + (Hu.toG ctx a.length t - Hu.fromG ctx t) = Hu.toG ctx a.length t by omega]
    rw [hO.like.lack]
    by_cases hlt : Hu.toG ctx a.length t < a.length
    · rw [Hu.lack_sl hI.vb hG.h0 (by omega) (by omega)]
      simp
      exact t2
    · simp [hlt]
      exact t2
  unfold wideN
  rw [if_pos (by unfold ctxOk; have := hI2.c; simp; omega), if_pos hv1, if_pos hI.va, if_pos hst, if_pos hv2]
/-! ### two halves -/
theorem lack_take {l m : List ByteArray} (h : Hu.valS (l ++ m) = true) (hl : Hu.lack l = true) : m = [] := by
  cases m with
  | nil => rfl
  | cons y m =>
    exfalso
    obtain ⟨h1, h2⟩ := Hu.valS_iff.1 h
    unfold Hu.lack at hl
    cases hg : l.getLast? with
    | none => rw [hg] at hl; cases hl
    | some x =>
      rw [hg] at hl
      have hne : l ≠ [] := fun e => by rw [e] at hg; cases hg
      have hp : 0 < l.length := List.length_pos_iff.2 hne
      have := h2 (l.length - 1) (by rw [List.length_append, List.length_cons]; omega)
      rw [Hu.getD_app, if_pos (by omega)] at this
      rw [List.getLast?_eq_getElem?] at hg
      rw [List.getD_eq_getElem?_getD, hg] at this
      simp only [Option.getD_some] at this
      have hl : (!Hu.whT x) = true := hl
      rw [this] at hl
      cases hl
theorem areR_kinds {l : List Rw} (h : Hu.areR l = true) : ∀ r ∈ l, r.k = 1 ∨ r.k = 2 ∨ r.k = 3 := by
  intro r hr
  unfold Hu.areR at h
  rw [Bool.and_eq_true] at h
  have := List.all_eq_true.1 h.1 r hr
  simp [Hu.isC] at this
  omega
theorem splL_two (x : Hk) (k : Nat) : splL x k = [{ cutP x 0 k with head := x.head }, cutP x k x.rows.length] := rfl
theorem cut_a (x : Hk) (f t : Nat) : Hu.plc (cutP x f t).a (cutP x f t).n = Hu.plc x.a x.n + (Hu.olds (x.rows.take f)).length := Hu.plc_told _ _
theorem cut_b (x : Hk) (f t : Nat) : Hu.plc (cutP x f t).b (cutP x f t).m = Hu.plc x.b x.m + (Hu.fres (x.rows.take f)).length := Hu.plc_told _ _
/-- two halves of the one hunk tell its script -/
theorem split_script {s : List Ch} {a b : List ByteArray} {ctx : Int} (h : bldN s a b ctx = 0) {x : Hk} (hx : bldA s a b ctx = [x]) {k : Int} (hk : splN x k = 0) :
    Hu.scrN (splA x k) a.length b.length = 0 ∧ Hu.scrA (splA x k) a.length b.length = Hu.scrA [x] a.length b.length ∧ Hu.scrN [x] a.length b.length = 0 := by
  have hA := bld_ar h
  rw [hx] at hA
  have hs1 : Hu.scrN [x] a.length b.length = 0 := by
    unfold Hu.scrN
    rw [if_pos hA.ord, hA.scr, if_pos hA.val]
  have hB := hA.each x List.mem_cons_self
  have hspl : (splL x k.toNat).all Hu.vld = true := by
    unfold splN at hk
    split at hk
    · split at hk
      · split at hk
        · assumption
        · cases hk
      · cases hk
    · cases hk
  have hvx : Hu.vld x = true := by
    have ho := hA.ord
    unfold Hu.orderN at ho
    cases q : [x].all Hu.vld with
    | true => simpa using q
    | false => rw [q] at ho; simp at ho
  have hord : Hu.ordP [x] 0 0 false false = true := by
    have ho := hA.ord
    unfold Hu.orderN at ho
    cases q : [x].all Hu.vld with
    | false => rw [q] at ho; simp at ho
    | true =>
      rw [q, if_pos rfl] at ho
      cases q2 : Hu.ordP [x] 0 0 false false with
      | true => rfl
      | false => rw [q2] at ho; simp at ho
  have hpq : Hu.plc x.a x.n = Hu.plc x.b x.m ∧ 0 ≤ Hu.plc x.a x.n := by
    unfold Hu.ordP at hord
    split at hord
    · cases hord
    · rename_i hn
      refine ⟨?_, ?_⟩ <;> omega
  obtain ⟨p1, p2, p3, p4, p5, p6, p7, p8, p9, _⟩ := Hu.vld_parts hvx
  have hkd := areR_kinds p1
  have hK : splA x k = splL x k.toNat := by unfold splA; rw [if_pos hk]
  rw [hK]
  generalize k.toNat = j at *
  have htd : x.rows.take j ++ x.rows.drop j = x.rows := List.take_append_drop _ _
  have hk1 : ∀ r ∈ x.rows.take j, r.k = 1 ∨ r.k = 2 ∨ r.k = 3 := fun r hr => hkd r (List.mem_of_mem_take hr)
  have hk2 : ∀ r ∈ x.rows.drop j, r.k = 1 ∨ r.k = 2 ∨ r.k = 3 := fun r hr => hkd r (List.mem_of_mem_drop hr)
  have eo : Hu.olds (x.rows.take j) ++ Hu.olds (x.rows.drop j) = Hu.olds x.rows := by rw [← Hu.olds_app, htd]
  have ef : Hu.fres (x.rows.take j) ++ Hu.fres (x.rows.drop j) = Hu.fres x.rows := by rw [← Hu.fres_app, htd]
  have r1 : (cutP x 0 j).rows = x.rows.take j := by show Hu.sub x.rows 0 j = _; unfold Hu.sub; simp
  have r2 : (cutP x j x.rows.length).rows = x.rows.drop j := by
    show Hu.sub x.rows j x.rows.length = _
    unfold Hu.sub
    exact List.take_of_length_le (by rw [List.length_drop]; omega)
  have n1 : (cutP x 0 j).n = (Hu.olds (x.rows.take j)).length := by rw [← r1]; rfl
  have m1 : (cutP x 0 j).m = (Hu.fres (x.rows.take j)).length := by rw [← r1]; rfl
  have n2 : (cutP x j x.rows.length).n = (Hu.olds (x.rows.drop j)).length := by rw [← r2]; rfl
  have m2 : (cutP x j x.rows.length).m = (Hu.fres (x.rows.drop j)).length := by rw [← r2]; rfl
  have a1 := cut_a x 0 j
  have b1 := cut_b x 0 j
  have a2 := cut_a x j x.rows.length
  have b2 := cut_b x j x.rows.length
  rw [List.take_zero] at a1 b1
  have z1 : ((Hu.olds ([] : List Rw)).length : Int) = 0 := rfl
  have z2 : ((Hu.fres ([] : List Rw)).length : Int) = 0 := rfl
  rw [z1, Int.add_zero] at a1
  rw [z2, Int.add_zero] at b1
  generalize hP : Hu.plc x.a x.n = P at *
  generalize hQ : Hu.plc x.b x.m = Q at *
  have lo : (Hu.olds x.rows).length = (Hu.olds (x.rows.take j)).length + (Hu.olds (x.rows.drop j)).length := by rw [← eo, List.length_append]
  have lf : (Hu.fres x.rows).length = (Hu.fres (x.rows.take j)).length + (Hu.fres (x.rows.drop j)).length := by rw [← ef, List.length_append]
  have hl1 : Hu.lack (Hu.olds (x.rows.take j)) = true → (Hu.olds (x.rows.drop j)).length = 0 := fun e => by rw [lack_take (m := Hu.olds (x.rows.drop j)) (by rw [eo]; exact p5) e]; rfl
  have hl2 : Hu.lack (Hu.fres (x.rows.take j)) = true → (Hu.fres (x.rows.drop j)).length = 0 := fun e => by rw [lack_take (m := Hu.fres (x.rows.drop j)) (by rw [ef]; exact p9) e]; rfl
  have ho2 : Hu.orderN (splL x j) = 0 := by
    unfold Hu.orderN
    rw [hspl, if_pos rfl]
    have : Hu.ordP (splL x j) 0 0 false false = true := by
      rw [splL_two]
      have h1 : Hu.plc ({ cutP x 0 j with head := x.head } : Hk).a ({ cutP x 0 j with head := x.head } : Hk).n = P := a1
      have h2 : Hu.plc ({ cutP x 0 j with head := x.head } : Hk).b ({ cutP x 0 j with head := x.head } : Hk).m = Q := b1
      have h3 : ({ cutP x 0 j with head := x.head } : Hk).n = (Hu.olds (x.rows.take j)).length := n1
      have h4 : ({ cutP x 0 j with head := x.head } : Hk).m = (Hu.fres (x.rows.take j)).length := m1
      have h5 : ({ cutP x 0 j with head := x.head } : Hk).rows = x.rows.take j := r1
      unfold Hu.ordP
      rw [h1, h2, h3, h4, h5, if_neg (by simp; omega)]
      unfold Hu.ordP
      rw [a2, b2, n2, m2, if_neg]
      · rfl
      · simp only [Bool.false_or]
        rintro (h | h | ⟨h, h'⟩ | ⟨h, h'⟩)
        · omega
        · omega
        · have := hl1 h; omega
        · have := hl2 h; omega
    rw [this, if_pos rfl]
  have hsc1 : Hu.scr [x] = Hu.scrS x.rows P Q none := by
    unfold Hu.scr
    rw [List.flatMap_cons, List.flatMap_nil, List.append_nil, Hu.scrH_eq hkd, hP, hQ]
  have hsc2 : Hu.scr (splL x j) = Hu.scrS (x.rows.take j) P Q none ++ Hu.scrS (x.rows.drop j) (P + (Hu.olds (x.rows.take j)).length) (Q + (Hu.fres (x.rows.take j)).length) none := by
    rw [splL_two]
    unfold Hu.scr
    rw [List.flatMap_cons, List.flatMap_cons, List.flatMap_nil, List.append_nil]
    congr 1
    · have := Hu.scrH_eq (h := { cutP x 0 j with head := x.head }) (by intro r hr; exact hk1 r (by rw [← r1]; exact hr))
      rw [this]
      show Hu.scrS (cutP x 0 j).rows (Hu.plc (cutP x 0 j).a (cutP x 0 j).n) (Hu.plc (cutP x 0 j).b (cutP x 0 j).m) none = _
      rw [r1, a1, b1]
    · rw [Hu.scrH_eq (by rw [r2]; exact hk2), r2, a2, b2]
  have hV := hA.val
  rw [← hA.scr, hsc1] at hV
  obtain ⟨c1, c2, hv⟩ := Ed.validN_zero.1 hV
  have hends := (Hu.scrS_ends (n := a.length) (m := b.length) x.rows P Q 0 0 hkd).1 hv (by omega)
  have hpn : P + (Hu.olds x.rows).length ≤ a.length := by
    have := hB.p1
    rw [hP, p2] at this
    exact this
  have hv2 : Ed.val (Hu.scr (splL x j)) 0 0 a.length b.length = true := by
    rw [hsc2]
    have w1 := (Hu.val_scrS (R := []) (n := a.length) (m := b.length) (x.rows.drop j) (P + (Hu.olds (x.rows.take j)).length) (Q + (Hu.fres (x.rows.take j)).length) hk2 (by omega) (by omega) (by unfold Ed.val; simp; omega)).1
    rw [List.append_nil] at w1
    have w2 := (Hu.val_scrS (R := Hu.scrS (x.rows.drop j) (P + (Hu.olds (x.rows.take j)).length) (Q + (Hu.fres (x.rows.take j)).length) none) (n := a.length) (m := b.length) (x.rows.take j) P Q hk1 (by omega) (by omega) w1).1
    exact Hu.val_shift w2 (by omega) (by omega)
  have hprs : ∀ (S : List Ch), (∀ d, S.head? = some d → P ≤ d.a) → Ed.prs S a.length 0 0 = Ed.exN 0 0 P.toNat ++ Ed.prs S a.length P Q := by
    intro S hS
    have := Hu.prs_shift (S := S) (N := a.length) (x := 0) (y := 0) (k := P.toNat) (fun d hd => by have := hS d hd; omega) (fun _ => by omega)
    rw [this]
    congr 2 <;> omega
  have hp1 : Ed.prs (Hu.scrS x.rows P Q none) a.length P Q = Hu.prR x.rows P Q ++ Ed.prs [] a.length (P + (Hu.olds x.rows).length) (Q + (Hu.fres x.rows).length) := by
    have := (Hu.prs_scrS (R := []) (N := a.length) x.rows P Q hkd (fun d hd => by cases hd) (fun _ => hpn)).1
    rw [List.append_nil] at this
    exact this
  have hp3 : Ed.prs (Hu.scrS (x.rows.drop j) (P + (Hu.olds (x.rows.take j)).length) (Q + (Hu.fres (x.rows.take j)).length) none) a.length (P + (Hu.olds (x.rows.take j)).length) (Q + (Hu.fres (x.rows.take j)).length) = Hu.prR (x.rows.drop j) (P + (Hu.olds (x.rows.take j)).length) (Q + (Hu.fres (x.rows.take j)).length) ++ Ed.prs [] a.length (P + (Hu.olds x.rows).length) (Q + (Hu.fres x.rows).length) := by
    have := (Hu.prs_scrS (R := []) (N := a.length) (x.rows.drop j) (P + (Hu.olds (x.rows.take j)).length) (Q + (Hu.fres (x.rows.take j)).length) hk2 (fun d hd => by cases hd) (fun _ => by omega)).1
    rw [List.append_nil] at this
    rw [this]
    congr 2 <;> omega
  have hp2 : Ed.prs (Hu.scr (splL x j)) a.length P Q = Hu.prR x.rows P Q ++ Ed.prs [] a.length (P + (Hu.olds x.rows).length) (Q + (Hu.fres x.rows).length) := by
    rw [hsc2]
    have := (Hu.prs_scrS (R := Hu.scrS (x.rows.drop j) (P + (Hu.olds (x.rows.take j)).length) (Q + (Hu.fres (x.rows.take j)).length) none) (N := a.length) (x.rows.take j) P Q hk1 (fun d hd => Hu.scrS_head _ _ _ none d hd) (fun _ => by omega)).1
    rw [this, hp3, ← List.append_assoc, ← Hu.prR_app _ _ _ _ hk1, htd]
  have hN2 : Ed.validN (Hu.scr (splL x j)) a.length b.length = 0 := Ed.validN_zero.2 ⟨c1, c2, hv2⟩
  have hz2 : Hu.scrN (splL x j) a.length b.length = 0 := by
    unfold Hu.scrN
    rw [if_pos ho2, if_pos hN2]
  refine ⟨hz2, ?_, hs1⟩
  unfold Hu.scrA
  rw [if_pos hz2, if_pos hs1, Ed.normal_eq, Ed.normal_eq]
  congr 1
  rw [hprs _ (fun d hd => ?_), hprs _ (fun d hd => ?_), hp2, hsc1, hp1]
  · rw [hsc1] at hd
    exact Hu.scrS_head _ _ _ none d hd
  · rw [hsc2] at hd
    rcases Hu.head_app hd with h1 | ⟨_, h1⟩
    · exact Hu.scrS_head _ _ _ none d h1
    · have := Hu.scrS_head _ _ _ none d h1
      simp only at this
      omega
theorem split_rows {x : Hk} {k : Int} (hk : splN x k = 0) : ∃ y z, splA x k = [y, z] ∧ y.rows.length + z.rows.length = x.rows.length := by
  have hK : splA x k = splL x k.toNat := by unfold splA; rw [if_pos hk]
  rw [hK, splL_two]
  refine ⟨_, _, rfl, ?_⟩
  show (Hu.sub x.rows 0 k.toNat).length + (Hu.sub x.rows k.toNat x.rows.length).length = _
  unfold Hu.sub
  simp
  unfold splN at hk
  split at hk
  · omega
  · cases hk
end Go.Proofs.YtddmfdjkkikapaaGreatDoor
