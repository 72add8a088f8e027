/-
  Hunks the other way round, plain: built hunks, turned, are those that are built of the inverted script.
-/
import Derived.Test.YtnamioihapnefaaGreatDoorUk
import Derived.Test.YtnamioihapnefaaGreatDoorUb
import Derived.Test.YtnamioihapnefaaGreatDoorLg
namespace Go.Proofs.YtnamioihapnefaaGreatDoor.Hu
open Go
open Ed (Ch Pr okC val apart)

def eqS (a b : List ByteArray) (p : Pr) : Prop := a.getD p.1.toNat .empty = b.getD p.2.toNat .empty
theorem sl_same {a b : List ByteArray} {p p' q : Int} (hp : 0 ≤ p) (hp' : 0 ≤ p') (he' : p ≤ q) (hq : q ≤ a.length) (hbl' : p' + (q - p) ≤ b.length) (hE : ∀ pr ∈ Ed.prs [] q p p', eqS a b pr) : sl a p q = sl b p' (p' + (q - p)) := by
  have e1 := sl_len (l := a) hp he' hq
  have e2 := sl_len (l := b) (x := p') (y := p' + (q - p)) hp' (by omega) hbl'
  refine List.ext_getElem (by omega) (fun k h1 h2 => ?_)
  have hk : (k : Int) < q - p := by omega
  have g1 := sl_getD (l := a) (x := p) (y := q) hk
  have g2 := sl_getD (l := b) (x := p') (y := p' + (q - p)) (k := k) (by omega)
  have h3 := hE (p + k, p' + k) (by rw [Ed.prs_nil, Ed.mem_exN]; simp only; omega)
  unfold eqS at h3
  simp only at h3
  rw [show (p + (k : Int)).toNat = p.toNat + k by omega, show (p' + (k : Int)).toNat = p'.toNat + k by omega] at h3
  rw [List.getD_eq_getElem?_getD, List.getElem?_eq_getElem h1, Option.getD_some] at g1
  rw [List.getD_eq_getElem?_getD, List.getElem?_eq_getElem h2, Option.getD_some] at g2
  rw [g1, g2, h3]
theorem srtD_both (xs : List ByteArray) (l : List Rw) : srtD (mk 1 xs ++ l) [] = mk 1 xs ++ srtD l [] := by
  induction xs with
  | nil => rfl
  | cons x xs ih =>
    show srtD (⟨1, x⟩ :: (mk 1 xs ++ l)) [] = ⟨1, x⟩ :: (mk 1 xs ++ srtD l [])
    rw [srtD, if_neg (by show ¬ isC ⟨1, x⟩ = true; simp [isC]), ih]
    rfl
theorem srtD_chg {k : Int} (hk : k = 2 ∨ k = 3) (xs : List ByteArray) (l : List Rw) : ∀ run, srtD (mk k xs ++ l) run = srtD l (run ++ mk k xs) := by
  induction xs with
  | nil => intro run; rw [show mk k ([] : List ByteArray) = [] from rfl, List.append_nil]; rfl
  | cons x xs ih =>
    intro run
    show srtD (⟨k, x⟩ :: (mk k xs ++ l)) run = srtD l (run ++ ⟨k, x⟩ :: mk k xs)
    rw [srtD, if_pos (by show isC ⟨k, x⟩ = true; rcases hk with rfl | rfl <;> simp [isC]), ih, List.append_assoc]
    rfl
theorem srtD_end (l run : List Rw) (hl : l = [] ∨ ∃ r l', l = r :: l' ∧ isC r = false) : srtD l run = (kin 2 run ++ kin 3 run) ++ srtD l [] := by
  rcases hl with rfl | ⟨r, l', rfl, hr⟩
  · rw [srtD, srtD]
    simp [kin]
  · rw [srtD, srtD, if_neg (by rw [hr]; simp), if_neg (by rw [hr]; simp)]
    simp [kin]
theorem flp_mk1 (xs : List ByteArray) : (mk 1 xs).map flp = mk 1 xs := by
  induction xs with
  | nil => rfl
  | cons x xs ih => show flp ⟨1, x⟩ :: (mk 1 xs).map flp = _; rw [ih]; rfl
theorem flp_mk2 (xs : List ByteArray) : (mk 2 xs).map flp = mk 3 xs := by
  induction xs with
  | nil => rfl
  | cons x xs ih => show flp ⟨2, x⟩ :: (mk 2 xs).map flp = _; rw [ih]; rfl
theorem flp_mk3 (xs : List ByteArray) : (mk 3 xs).map flp = mk 2 xs := by
  induction xs with
  | nil => rfl
  | cons x xs ih => show flp ⟨3, x⟩ :: (mk 3 xs).map flp = _; rw [ih]; rfl
theorem kin_same (k : Int) (xs : List ByteArray) : kin k (mk k xs) = mk k xs := by
  unfold kin
  rw [List.filter_eq_self]
  intro r hr
  obtain ⟨x, _, rfl⟩ := List.mem_map.1 hr
  simp
theorem kin_other {k j : Int} (h : j ≠ k) (xs : List ByteArray) : kin k (mk j xs) = [] := by
  unfold kin
  rw [List.filter_eq_nil_iff]
  intro r hr
  obtain ⟨x, _, rfl⟩ := List.mem_map.1 hr
  simp [h]
theorem kin_app (k : Int) (l m : List Rw) : kin k (l ++ m) = kin k l ++ kin k m := List.filter_append ..
theorem rows_head {a b : List ByteArray} {c : Ch} {r : List Ch} {q n m : Int} (hr : inc r (c.a + c.n) (c.b + c.m) n m) (ha : apart (c :: r)) (h0 : 0 ≤ c.a + c.n) (hn : n ≤ a.length) : rowsG a b (c.a + c.n) r q = [] ∨ ∃ r' l', rowsG a b (c.a + c.n) r q = r' :: l' ∧ isC r' = false := by
  cases r with
  | nil => exact both_head (m := []) (by rw [List.append_nil]; rfl) (.inr rfl)
  | cons d r =>
    obtain ⟨⟨⟨s1, s2, s3⟩, ⟨s4, s5, s6⟩, s7, s8⟩, _⟩ := hr
    have hne := ha.1 d rfl
    have e4 := sl_len (l := a) (x := c.a + c.n) (y := d.a) h0 (by omega) (by omega)
    exact both_head (xs := sl a (c.a + c.n) d.a) rfl (.inl (fun e => by rw [e] at e4; simp at e4; omega))
theorem rev_rowsG {a b : List ByteArray} : ∀ (g : List Ch) (p p' q n m : Int), inc g p p' n m → apart g → 0 ≤ p → 0 ≤ p' → endA p g ≤ q → q ≤ a.length → n ≤ a.length → m ≤ b.length → endB p' g + (q - endA p g) ≤ b.length → (∀ pr ∈ Ed.prs g q p p', eqS a b pr) →
    srtD ((rowsG a b p g q).map flp) [] = rowsG b a p' (g.map Ed.inv) (endB p' g + (q - endA p g))
  | [], p, p', q, n, m, hi, _, hp, hp', he, hq, hn, hm, hbl, hE => by
    rw [rowsG, flp_mk1]
    have := srtD_both (sl a p q) []
    rw [List.append_nil] at this
    rw [this, sl_same hp hp' he hq hbl hE]
    show mk 1 _ ++ [] = _
    rw [List.append_nil]
    rfl
  | c :: r, p, p', q, n, m, hi, ha, hp, hp', he, hq, hn, hm, hbl, hE => by
    obtain ⟨⟨⟨p1, p2, p3⟩, ⟨p4, p5, p6⟩, p7, p8⟩, hr⟩ := hi
    have hq' : endA (c.a + c.n) r ≤ q := he
    have hge := endA_ge hr
    have hbl' : endB (c.b + c.m) r + (q - endA (c.a + c.n) r) ≤ b.length := hbl
    have ih := rev_rowsG (a := a) (b := b) r (c.a + c.n) (c.b + c.m) q n m hr ha.2 (by omega) (by omega) hq' hq hn hm hbl' (fun pr h => hE pr (by rw [Ed.prs_cons]; exact List.mem_append_right _ h))
    have h0 := sl_same (a := a) (b := b) hp hp' p1 (by omega) (by omega) (fun pr h => hE pr (by rw [Ed.prs_cons]; rw [Ed.prs_nil] at h; exact List.mem_append_left _ h))
    rw [show p' + (c.a - p) = c.b by omega] at h0
    have hh := rows_head (a := a) (b := b) (q := q) hr ha (by omega) hn
    have hh2 : (rowsG a b (c.a + c.n) r q).map flp = [] ∨ ∃ r' l', (rowsG a b (c.a + c.n) r q).map flp = r' :: l' ∧ isC r' = false := by
      rcases hh with e | ⟨r', l', e, e2⟩
      · exact .inl (by rw [e]; rfl)
      · refine .inr ⟨flp r', l'.map flp, by rw [e]; rfl, ?_⟩
        have e3 : ¬ r'.k = 2 ∧ ¬ r'.k = 3 := by unfold isC at e2; simpa using e2
        have e4 : flp r' = r' := by unfold flp; rw [if_neg e3.1, if_neg e3.2]
        rw [e4]
        exact e2
    rw [rowsG, List.map_append, List.map_append, List.map_append, flp_mk1, flp_mk2, flp_mk3, srtD_both, srtD_chg (.inr rfl), srtD_chg (.inl rfl), srtD_end _ _ hh2, ih, List.nil_append, kin_app, kin_app, kin_other (by decide), kin_same, kin_same, kin_other (by decide), List.nil_append, List.append_nil, h0, List.append_assoc]
    rfl
theorem endA_inv (y : Int) (g : List Ch) : endA y (g.map Ed.inv) = endB y g := by
  unfold endA endB
  rw [List.foldl_map]
  rfl
theorem inc_inv {g : List Ch} {x y n m : Int} (h : inc g x y n m) : inc (g.map Ed.inv) y x m n := by
  induction g generalizing x y with
  | nil => exact ⟨h.2, h.1⟩
  | cons c r ih => exact ⟨Ed.okC_inv h.1, ih h.2⟩
theorem comeS_inv (g : List Ch) : Ed.comeS (g.map Ed.inv) = Ed.goneS g := by
  unfold Ed.comeS Ed.goneS
  rw [List.map_map]
  rfl
theorem goneS_inv (g : List Ch) : Ed.goneS (g.map Ed.inv) = Ed.comeS g := by
  unfold Ed.comeS Ed.goneS
  rw [List.map_map]
  rfl
theorem grp_inv {ctx : Int} : ∀ (t : List Ch) (x y n m : Int), inc t x y n m → grp ctx (t.map Ed.inv) = (grp ctx t).map (fun g => g.map Ed.inv)
  | [], _, _, _, _, _ => rfl
  | [c], _, _, _, _, _ => rfl
  | c :: d :: r, x, y, n, m, hi => by
    have ih := grp_inv (ctx := ctx) (d :: r) _ _ n m hi.2
    obtain ⟨g, gs, hg⟩ := grp_head ctx d r
    have hd := hi.2.1.2.2.2
    have e1 : grp ctx (c :: d :: r) = if d.a - c.a - c.n ≤ 2 * ctx then (c :: (d :: g)) :: gs else [c] :: (d :: g) :: gs := by
      show cons1 ctx c (some d) (grp ctx (d :: r)) = _
      rw [hg]
      rfl
    have e2 : grp ctx ((c :: d :: r).map Ed.inv) = if d.b - c.b - c.m ≤ 2 * ctx then (Ed.inv c :: ((d :: g).map Ed.inv)) :: gs.map (fun g => g.map Ed.inv) else [Ed.inv c] :: ((d :: g).map Ed.inv) :: gs.map (fun g => g.map Ed.inv) := by
      show cons1 ctx (Ed.inv c) (some (Ed.inv d)) (grp ctx ((d :: r).map Ed.inv)) = _
      rw [ih, hg]
      rfl
    rw [e1, e2]
    by_cases h : d.a - c.a - c.n ≤ 2 * ctx
    · rw [if_pos h, if_pos (by omega)]
      rfl
    · rw [if_neg h, if_neg (by omega)]
      rfl
/-- one group -/
theorem rev_ofG {ctx : Int} {a b : List ByteArray} {g : List Ch} (hG : Grp ctx a b g) (hf : fromG ctx (g.map Ed.inv) = fromH ctx g) (hh : fromH ctx (g.map Ed.inv) = fromG ctx g) (ht : toG ctx b.length (g.map Ed.inv) = endB (fromH ctx g) g + (toG ctx a.length g - endA (fromG ctx g) g)) (hb : endB (fromH ctx g) g + (toG ctx a.length g - endA (fromG ctx g) g) ≤ b.length) (hE : ∀ pr ∈ Ed.prs g (toG ctx a.length g) (fromG ctx g) (fromH ctx g), eqS a b pr) :
    revH (ofG ctx a b g) = ofG ctx b a (g.map Ed.inv) := by
  obtain ⟨t1, t2, _⟩ := hG.ends
  have hr := rev_rowsG g (fromG ctx g) (fromH ctx g) (toG ctx a.length g) a.length b.length hG.inc hG.ap hG.f0 hG.h0 t1 t2 (Int.le_refl _) (Int.le_refl _) hb hE
  have hii := inc_inv hG.inc
  have hge := endA_ge hG.inc
  have o1 := olds_rowsG (a := a) (b := b) hG.inc hG.f0 t1
  have o2 := sl_len (l := a) (x := fromG ctx g) (y := toG ctx a.length g) hG.f0 (by omega) t2
  have f1 := fres_rowsG (a := a) (b := b) hG.inc hG.f0 hG.h0 t1 t2 (Int.le_refl _)
  have eB := endB_eq g _ _ _ _ hG.inc
  have h0 := hG.h0
  have f0 := hG.f0
  have o3 := olds_rowsG (a := b) (b := a) (q := endB (fromH ctx g) g + (toG ctx a.length g - endA (fromG ctx g) g)) hii h0 (by rw [endA_inv]; omega)
  have o4 := sl_len (l := b) (x := fromH ctx g) (y := endB (fromH ctx g) g + (toG ctx a.length g - endA (fromG ctx g) g)) h0 (by omega) hb
  have f2 := fres_rowsG (a := b) (b := a) (q := endB (fromH ctx g) g + (toG ctx a.length g - endA (fromG ctx g) g)) hii h0 f0 (by rw [endA_inv]; omega) hb (Int.le_refl _)
  rw [goneS_inv, comeS_inv] at f2
  have l1 : (olds (rowsG b a (fromH ctx g) (g.map Ed.inv) (endB (fromH ctx g) g + (toG ctx a.length g - endA (fromG ctx g) g)))).length = (fres (rowsG a b (fromG ctx g) g (toG ctx a.length g))).length := by rw [o3]; omega
  have l2 : (fres (rowsG b a (fromH ctx g) (g.map Ed.inv) (endB (fromH ctx g) g + (toG ctx a.length g - endA (fromG ctx g) g)))).length = (olds (rowsG a b (fromG ctx g) g (toG ctx a.length g))).length := by rw [o1]; omega
  unfold revH ofG hunkAt
  rw [hf, hh, ht]
  dsimp only
  rw [hr, l1, l2]
theorem turn_all {ctx : Int} {a b : List ByteArray} (hc0 : 0 ≤ ctx) : ∀ (N : Nat) (t : List Ch) (x y : Int), t.length ≤ N → val t x y a.length b.length = true → apart t → Ahead ctx t x y a.length b.length → (∀ pr ∈ Ed.prs t a.length x y, eqS a b pr) → ∀ g ∈ grp ctx t, revH (ofG ctx a b g) = ofG ctx b a (g.map Ed.inv)
  | 0, t, x, y, hN, _, _, _, _, g, hg => by
    have e : t = [] := List.length_eq_zero_iff.1 (by omega)
    subst e
    cases hg
  | N + 1, t, x, y, hN, hv, hap, hA, hE, g, hg => by
    by_cases hne : t = []
    · subst hne; cases hg
    · obtain ⟨g1, g2, g3, g4, _⟩ := hA.group hne hc0
      have hnx := hA.next hne
      have hp := glen_pos ctx t hne
      have hl := glen_le ctx t
      obtain ⟨c, hc⟩ : ∃ c, t.head? = some c := by
        cases t with
        | nil => exact absurd rfl hne
        | cons c r => exact ⟨c, rfl⟩
      obtain ⟨f1, f2⟩ := from_take (ctx := ctx) (k := glen ctx t) hc hp
      have hsp : t.take (glen ctx t) ++ t.drop (glen ctx t) = t := List.take_append_drop _ _
      have hv2 := val_drop (t.take (glen ctx t)) (t.drop (glen ctx t)) x y a.length b.length (by rw [hsp]; exact hv)
      have hE2 : ∀ pr ∈ Ed.prs (t.drop (glen ctx t)) a.length (endA x (t.take (glen ctx t))) (endB y (t.take (glen ctx t))), eqS a b pr := fun pr h => hE pr (by have := prs_drop (t.take (glen ctx t)) (t.drop (glen ctx t)) x y a.length pr h; rwa [hsp] at this)
      rw [grp_glen ctx t hne] at hg
      rcases List.mem_cons.1 hg with rfl | hg
      · have hG : Grp ctx a b (t.take (glen ctx t)) := ⟨g1, g2, apart_take hap _, g3, g4, hc0⟩
        have hi := hA.inc
        have hx0 := hA.x0
        have hy0 := hA.y0
        have hok : x ≤ c.a ∧ y ≤ c.b ∧ c.a - x = c.b - y := by
          cases t with
          | nil => exact absurd rfl hne
          | cons d r => simp at hc; subst hc; exact ⟨hi.1.1.1, hi.1.2.1.1, hi.1.2.2.2⟩
        have hcc : (c.a = c.b) ∨ (ctx < c.a ∧ ctx < c.b) := by
          rcases hA.gap with ⟨k1, k2⟩ | k
          · left; omega
          · right; have := k c hc; omega
        have hinvh : (t.take (glen ctx t)).map Ed.inv = ((t.map Ed.inv).take (glen ctx t)) := List.map_take
        have fi := from_take (ctx := ctx) (t := t.map Ed.inv) (c := Ed.inv c) (k := glen ctx t) (by rw [List.head?_map, hc]; rfl) hp
        have hfG : fromG ctx ((t.take (glen ctx t)).map Ed.inv) = fromH ctx (t.take (glen ctx t)) := by
          rw [hinvh, fi.1, f2]
          show c.b - min ctx c.b = _
          omega
        have hfH : fromH ctx ((t.take (glen ctx t)).map Ed.inv) = fromG ctx (t.take (glen ctx t)) := by
          rw [hinvh, fi.2, f1]
          show c.a - min ctx c.b = _
          omega
        obtain ⟨q1, q2, q3⟩ := hG.ends
        have eA := endA_any g1 (fromG ctx (t.take (glen ctx t))) x
        have eB := endB_any g1 (fromH ctx (t.take (glen ctx t))) y
        have hge := endA_ge g2
        have hxP : x ≤ c.a - min ctx c.a := by
          rcases hA.gap with ⟨k1, k2⟩ | k
          · omega
          · have := k c hc; omega
        have hd : ∀ d, (t.drop (glen ctx t)).head? = some d → 2 * ctx < d.a - endA x (t.take (glen ctx t)) ∧ d.a ≤ a.length ∧ d.b ≤ b.length ∧ d.a - endA x (t.take (glen ctx t)) = d.b - endB y (t.take (glen ctx t)) := by
          intro d hd
          have hgp : 2 * ctx < d.a - endA x (t.take (glen ctx t)) := by
            obtain ⟨l, hl2⟩ : ∃ l, t[glen ctx t - 1]? = some l := ⟨_, List.getElem?_eq_getElem (by omega)⟩
            have hd2 : t[glen ctx t]? = some d := by rw [List.head?_drop] at hd; exact hd
            have := glen_gap hl2 hd2
            have e3 : endA x (t.take (glen ctx t)) = l.a + l.n := by
              rw [endA_last g1]
              have : (t.take (glen ctx t)).getLastD zC = l := by
                rw [List.getLastD_eq_getLast?, List.getLast?_eq_getElem?, List.length_take, List.getElem?_take, show min (glen ctx t) t.length - 1 = glen ctx t - 1 by omega, if_pos (by omega), hl2]
                rfl
              rw [this]
            omega
          have hi2 := hnx.inc
          cases hr : t.drop (glen ctx t) with
          | nil => rw [hr] at hd; cases hd
          | cons e r =>
            rw [hr] at hd hi2
            simp at hd
            subst hd
            obtain ⟨⟨⟨p1, p2, p3⟩, ⟨p4, p5, p6⟩, p7, p8⟩, _⟩ := hi2
            omega
        have hne2 : (t.take (glen ctx t)).map Ed.inv ≠ [] := by simpa using g1
        have hto : toG ctx b.length ((t.take (glen ctx t)).map Ed.inv) = min (endB (fromH ctx (t.take (glen ctx t))) (t.take (glen ctx t)) + ctx) b.length := by
          rw [← endA_inv]
          unfold toG
          rw [← endA_last (x := fromH ctx (t.take (glen ctx t))) hne2]
        have key : min (endB (fromH ctx (t.take (glen ctx t))) (t.take (glen ctx t)) + ctx) (b.length : Int) = endB (fromH ctx (t.take (glen ctx t))) (t.take (glen ctx t)) + (toG ctx a.length (t.take (glen ctx t)) - endA (fromG ctx (t.take (glen ctx t))) (t.take (glen ctx t))) := by
          rw [q3, eA, eB]
          cases hr : (t.drop (glen ctx t)).head? with
          | some d => have := hd d hr; omega
          | none =>
            have e : t.drop (glen ctx t) = [] := List.head?_eq_none_iff.1 hr
            rw [e] at hv2
            have : (a.length : Int) - endA x (t.take (glen ctx t)) = b.length - endB y (t.take (glen ctx t)) := by simpa [val] using hv2
            omega
        refine rev_ofG hG hfG hfH (hto.trans key) (by rw [← key]; omega) (fun pr h => hE pr ?_)
        have h9 := prs_sub (t.take (glen ctx t)) (t.drop (glen ctx t)) x y (fromG ctx (t.take (glen ctx t))) (fromH ctx (t.take (glen ctx t))) (toG ctx a.length (t.take (glen ctx t))) a.length (by rw [f1]; exact hxP) (by rw [f1, f2]; omega) (fun d h => by have := hd d h; rw [q3, eA]; omega) (fun _ => q2) pr h
        rwa [hsp] at h9
      · exact turn_all hc0 N (t.drop (glen ctx t)) _ _ (by rw [List.length_drop]; omega) hv2 (apart_drop hap _) hnx hE2 g hg
theorem normal_inv {s : List Ch} {n m : Int} (h : Ed.Val s n m) : Ed.normal (s.map Ed.inv) m n = (Ed.normal s n m).map Ed.inv := by
  rw [Ed.normal_eq, Ed.normal_eq, Ed.prs_inv h.2.2, Ed.ofL_sw]
theorem map_fix {f : Hk → Hk} : ∀ {L : List Hk}, L.map f = L → ∀ x ∈ L, f x = x
  | [], _, x, hx => by cases hx
  | y :: L, h, x, hx => by
    rw [List.map_cons, List.cons.injEq] at h
    rcases List.mem_cons.1 hx with rfl | hx
    · exact h.1
    · exact map_fix h.2 x hx
end Go.Proofs.YtnamioihapnefaaGreatDoor.Hu
namespace Go.Proofs.YtnamioihapnefaaGreatDoor
open Go.RowKit
open Hu (Rw Hk)
open Ed (Ch Pr)
/-- what is known of built hunks that are turned -/
theorem built_turn1 {s : List Ch} {a b : List ByteArray} {ctx : Int} (h : bldN s a b ctx = 0) (hE : ∀ pr ∈ Ed.prs s a.length 0 0, Hu.eqS a b pr) : bldN (s.map Ed.inv) b a ctx = 0 ∧ (bldA s a b ctx).map Hu.revH = bldA (s.map Ed.inv) b a ctx := by
  obtain ⟨hcc, hva, hvb, hk, he⟩ := bldN_zero h
  have hV0 := Ed.validN_zero.1 hk
  obtain ⟨hV, hpr⟩ := Ed.normal_Val hV0
  have hVi := hV0.inv
  have hn := Ed.cnt_iff.1 hV.1
  have hm := Ed.cnt_iff.1 hV.2.1
  have hki : Ed.validN (s.map Ed.inv) b.length a.length = 0 := Ed.validN_zero.2 hVi
  have hall := Hu.endsP_all ⟨s.map Ed.inv, hVi, rfl⟩ hvb hva
  have hei : Hu.endsP (Ed.normal (s.map Ed.inv) b.length a.length) b a = true := by
    rw [hall, (Ed.normal_Val hVi).2, Ed.prs_inv hV0.2.2, List.all_eq_true]
    intro pr hp
    obtain ⟨q, hq, rfl⟩ := List.mem_map.1 hp
    have := hE q hq
    unfold Hu.eqS at this
    unfold Hu.eqW
    show (Hu.whT (b.getD q.2.toNat .empty) == Hu.whT (a.getD q.1.toNat .empty)) = true
    rw [this]
    simp
  have hN : bldN (s.map Ed.inv) b a ctx = 0 := by
    unfold bldN
    rw [if_pos (by unfold ctxOk; simp; omega), hva, hvb, if_pos (show (true && true) = true from rfl), if_pos hki, hei, if_pos rfl]
  refine ⟨hN, ?_⟩
  have hJ : bldA s a b ctx = Hu.bld ctx a b (Ed.normal s a.length b.length) := by unfold bldA; rw [if_pos h]
  have hJ2 : bldA (s.map Ed.inv) b a ctx = Hu.bld ctx b a (Ed.normal (s.map Ed.inv) b.length a.length) := by unfold bldA; rw [if_pos hN]
  rw [hJ, hJ2, Hu.normal_inv hV0]
  unfold Hu.bld
  rw [Hu.grp_inv _ 0 0 a.length b.length (Hu.inc_val hV.2.2 (by omega) (by omega)), List.map_map, List.map_map]
  refine List.map_congr_left (fun g hg => ?_)
  exact Hu.turn_all hcc.1 _ _ 0 0 (Nat.le_refl _) hV.2.2 (normal_apart hV0) (Hu.Ahead.start hV) (fun pr hp => hE pr (by rw [← hpr]; exact hp)) g hg
theorem built_turn {s : List Ch} {a b : List ByteArray} {ctx : Int} (h : bldN s a b ctx = 0) (hE : ∀ pr ∈ Ed.prs s a.length 0 0, Hu.eqS a b pr) : bldN (s.map Ed.inv) b a ctx = 0 ∧ (bldA s a b ctx).map Hu.revH = bldA (s.map Ed.inv) b a ctx ∧ ∀ x ∈ bldA s a b ctx, Hu.revH (Hu.revH x) = x := by
  obtain ⟨h1, h2⟩ := built_turn1 h hE
  refine ⟨h1, h2, ?_⟩
  have hV0 := Ed.validN_zero.1 (bldN_zero h).2.2.2.1
  obtain ⟨_, h3⟩ := built_turn1 h1 (fun pr hp => by
    rw [Ed.prs_inv hV0.2.2] at hp
    obtain ⟨q, hq, rfl⟩ := List.mem_map.1 hp
    exact (hE q hq).symm)
  rw [Ed.map_inv_inv, ← h2, List.map_map] at h3
  exact Hu.map_fix h3
end Go.Proofs.YtnamioihapnefaaGreatDoor
