/-
  The walk of the document's Join.
-/
import Derived.Test.YthgibnbpeopoaaaDoorDa
import Derived.Deep.DeepCutAuto
import Derived.Deep.Cut
import Derived.Deep.CutRange
namespace Go.Proofs.YthgibnbpeopoaaaDoor
open Go.RowKit
open Ed (Ch Run Pr)

def pick1 (p : Pr) : Option Pr → List Pr
  | some q => if q.1 = p.2 then [(p.1, q.2)] else []
  | none => []
theorem filt_none {Q : List Pr} {y : Int} (h : ∀ q ∈ Q, q.1 ≠ y) : Q.filter (fun q => decide (q.1 = y)) = [] := by
  rw [List.filter_eq_nil_iff]
  intro q hq
  simpa using h q hq
theorem thru_at {Q : List Pr} {p : Pr} {j : Nat} (hQ : Q.Pairwise Ed.lt) (hlo : ∀ (i : Nat) q, i < j → Q[i]? = some q → q.1 < p.2) (hhi : ∀ q, Q[j]? = some q → p.2 ≤ q.1) : Ed.thru Q p = pick1 p Q[j]? := by
  unfold Ed.thru
  have e : Q = Q.take j ++ Q.drop j := (List.take_append_drop j Q).symm
  have h1 : (Q.take j).filter (fun q => decide (q.1 = p.2)) = [] := filt_none (fun q hq => by
    obtain ⟨i, hi⟩ := List.getElem?_of_mem hq
    rw [List.getElem?_take] at hi
    split at hi
    · have := hlo i q (by assumption) hi; omega
    · cases hi)
  rw [e, List.filter_append, h1, List.nil_append, ← e]
  cases hj : Q[j]? with
  | none =>
    rw [List.drop_eq_nil_of_le (List.getElem?_eq_none_iff.1 hj)]
    rfl
  | some q =>
    have hd := drop_at hj
    rw [hd, List.filter_cons]
    have hr : (Q.drop (j + 1)).filter (fun q => decide (q.1 = p.2)) = [] := filt_none (fun z hz => by
      have hp : (q :: Q.drop (j + 1)).Pairwise Ed.lt := by rw [← hd]; exact hQ.drop
      have := (List.pairwise_cons.1 hp).1 z hz
      have := hhi q hj
      unfold Ed.lt at *
      omega)
    rw [hr]
    unfold pick1
    by_cases hq : q.1 = p.2
    · simp [hq]
    · simp [hq]
theorem comp_take {P Q : List Pr} {a : Nat} {p : Pr} (h : P[a]? = some p) : Ed.comp (P.take (a + 1)) Q = Ed.comp (P.take a) Q ++ Ed.thru Q p := by
  unfold Ed.comp
  rw [List.take_add_one, h, List.flatMap_append]
  simp
theorem pick1_len (p : Pr) (o : Option Pr) : (pick1 p o).length ≤ 1 := by
  cases o with
  | none => simp [pick1]
  | some q => unfold pick1; simp only; split <;> simp

def joinN (s t : List Ch) (n m k : Int) : Nat := if Ed.validN s n m = 0 then Ed.validN t m k else Ed.validN s n m
def joinA (s t : List Ch) (n m k : Int) : List Ch := if Ed.validN s n m = 0 ∧ Ed.validN t m k = 0 then Ed.joinP s t n m k else []
/-- whether Q's pair at j begins ahead of y -/
def lo1 (o : Option Pr) (y : Int) : Bool := match o with
  | some q => decide (q.1 < y)
  | none => false
def eq1 (o : Option Pr) (y : Int) : Bool := match o with
  | some q => decide (q.1 = y)
  | none => false

set_option maxHeartbeats 8000000 in
set_option maxRecDepth 100000 in
theorem refJoin_any {v u : Value} {s t : List Ch} {n m k : Int} {w : World} (hr : RdC w v s) (hwf : ∀ c ∈ s, WfC c) (hu : RdC w u t) (hwt : ∀ c ∈ t, WfC c) (hV : Ed.Val s n m) (hT : Ed.Val t m k) :
    Calls Tryd.prog 17 #[v, u, .int .i64 n, .int .i64 m, .int .i64 k] w fun e w' => ∃ v', e = .returned (.tuple #[v', .int .i64 0]) ∧ OwnC w' w.heap.size v' (Ed.joinP s t n m k) ∧ Below w.heap.size w w' := by
  obtain ⟨ip, hip, hp0, hp1, hp2⟩ := info_parts Tryd.infoPairT
  have hls := Val_len hV
  have hlt := Val_len hT
  have HC1 := hid (refValid_any (n := n) (m := m) hr hwf (by omega))
  have HC2 := hid (fun w1 (h : RdC w1 u t) => refValid_any (n := m) (m := k) h hwt (by omega))
  rw [Ed.validN_zero.2 hV] at HC1
  rw [Ed.validN_zero.2 hT] at HC2
  have HR := hid hr
  have HU := hid hu
  obtain ⟨a0, c0, rfl⟩ := hr.shape
  obtain ⟨a1, c1, rfl⟩ := hu.shape
  have hn := Ed.cnt_iff.1 hV.1
  have hm := Ed.cnt_iff.1 hV.2.1
  have hk := Ed.cnt_iff.1 hT.2.1
  have hpl := rise_len hV.rise hn.1
  have hql := rise_len hT.rise hm.1
  have HPP := hid (Ed.rise_iff.1 hV.rise)
  have HQQ := hid (Ed.rise_iff.1 hT.rise)
  have HPR := hid (fun w1 (h : RdC w1 (.slice a0 s.length c0) s) => refpairs_any h hV)
  have HQR := hid (fun w1 (h : RdC w1 (.slice a1 t.length c1) t) => refpairs_any h hT)
  have HRISE := hid (Ed.comp_rise hV.rise hT.rise)
  have HJ := hid (Ed.join_eq hV hT)
  have hcn := hV.1
  have hck := hT.2.1
  have HCN := hid hcn
  have HCK := hid hck
  generalize Ed.joinP s t n m k = J at HJ
  generalize Ed.prs s n 0 0 = P at *
  generalize Ed.prs t m 0 0 = Q at *
  have hPl : P.length ≤ 4194304 := by omega
  have hQl : Q.length ≤ 4194304 := by omega
  clear hr hwf hu hwt hV hT hpl hql hcn hck
  go_enter Tryd.func17, Tryd.ntmps17
  go_wp2_with fail
  refine HC1.out.mono ?_
  rintro e w1 ⟨rfl, hb1⟩
  have HB1 := hid hb1
  clear hb1
  go_wp2_with fail
  refine (HC2.out _ (HU.out.below HB1.out)).mono ?_
  rintro e w2 ⟨rfl, hb2⟩
  have HB2 := hid (HB1.out.trans (hb2.mono HB1.out.size))
  clear hb2
  go_wp2_with fail
  refine (HPR.out _ (HR.out.below HB2.out)).mono ?_
  rintro e w3 ⟨v3, rfl, hO3, hb3⟩
  obtain ⟨a3, c3, e3⟩ := own_shape hO3
  subst e3
  have HP3 := hid (own_rd hO3)
  have HB3 := hid (HB2.out.trans (hb3.mono HB2.out.size))
  clear hO3 hb3
  go_wp2_with fail
  refine (HQR.out _ (HU.out.below HB3.out)).mono ?_
  rintro e w4 ⟨v4, rfl, hO4, hb4⟩
  obtain ⟨a4, c4, e4⟩ := own_shape hO4
  subst e4
  have HQ4 := hid (own_rd hO4)
  have HP4 := hid (HP3.out.below hb4)
  have HB4 := hid (HB3.out.trans (hb4.mono HB3.out.size))
  clear hO4 hb4 HP3
  go_wp2
  go_loopw [15, 16, 17] (fun o j i wr => ∃ (a b : Nat) (O : List Pr), a ≤ P.length ∧ b ≤ Q.length ∧ i = .int .i64 a ∧ j = .int .i64 b ∧ O.length ≤ a ∧ Hid (O = Ed.comp (P.take a) Q) ∧ Hid (∀ (i : Nat) q, i < b → Q[i]? = some q → ∀ p ∈ P.drop a, q.1 < p.2) ∧ Hid (OwnP wr w4.heap.size o O) ∧ Hid (Below w4.heap.size w4 wr)) (fun _ _ i _ => P.length - (intOf i).toNat)
  case atStart => exact ⟨0, 0, [], Nat.zero_le _, Nat.zero_le _, rfl, rfl, Nat.le_refl _, hid rfl, hid (fun i q h => by omega), hid (World.ownsRow_nil _ _ _ _), hid (Below.refl _ _)⟩
  case round =>
    obtain ⟨a, b, O, ha, hb, rfl, rfl, hOl, HO, HLO, HOW, HB⟩ := hrel
    obtain ⟨w5, hw5⟩ : ∃ w5, w5 = wr := ⟨_, rfl⟩
    subst hw5
    obtain ⟨ao, co, eo⟩ := own_shape HOW.out
    subst eo
    by_cases hlt : a < P.length
    · obtain ⟨p, hp⟩ : ∃ p, P[a]? = some p := ⟨_, List.getElem?_eq_getElem hlt⟩
      obtain ⟨b1, o1, rfl, hb1l, d0, d1⟩ := rdP_at (HP4.out.below HB.out) hp
      have hb1w : b1 < w4.heap.size := by
        obtain ⟨_, _, e, h, _⟩ := rdP_at HP4.out hp
        cases e; exact h
      have HTK := hid (comp_take (Q := Q) hp)
      have HD := hid (drop_at hp)
      have HLO2 : Hid (∀ (i : Nat) q, i < b → Q[i]? = some q → q.1 < p.2) := hid (fun i q h1 h2 => HLO.out i q h1 h2 p (by rw [HD.out]; exact List.mem_cons_self ..))
      have i1 : (0 : Int) ≤ (a : Int) := by omega
      have i2 : (a : Int) < (P.length : Int) := by omega
      clear hp HLO
      go_wp2
      go_loopw [16] (fun j wr => ∃ b : Nat, b ≤ Q.length ∧ j = .int .i64 b ∧ (∃ q, wr = w5.drewN q) ∧ Hid (∀ (i : Nat) q, i < b → Q[i]? = some q → q.1 < p.2)) (fun j _ => Q.length - (intOf j).toNat)
      case atStart => exact ⟨b, hb, rfl, ⟨0, rfl⟩, HLO2⟩
      case round =>
        obtain ⟨b, hb, rfl, ⟨nq0, rfl⟩, HLO2⟩ := hrel
        go_upto_region 13 with fail
        go_cut [59] (fun c59 wc => c59 = .bool (lo1 Q[b]? p.2) ∧ ∃ q, wc = w5.drewN q)
        case first =>
          by_cases hbl : b < Q.length
          · obtain ⟨q, hq⟩ : ∃ q, Q[b]? = some q := ⟨_, List.getElem?_eq_getElem hbl⟩
            obtain ⟨b2, o2, rfl, _, e0, e1⟩ := rdP_at (HQ4.out.below HB.out) hq
            have HQ := hid hq
            have i3 : (0 : Int) ≤ (b : Int) := by omega
            have i4 : (b : Int) < (Q.length : Int) := by omega
            clear hq
            go_quiet (fail)
            go_wp2
            go_meet
            exact ⟨by rw [HQ.out]; rfl, _, by first | rfl | exact World.drewN_drewN _ _ _⟩
          · have hq : Q[b]? = none := List.getElem?_eq_none (by omega)
            have HQ := hid hq
            have i4 : ¬ (b : Int) < (Q.length : Int) := by omega
            clear hq
            go_quiet (fail)
            go_wp2
            go_meet
            exact ⟨by rw [HQ.out]; rfl, _, by first | rfl | exact World.drewN_drewN _ _ _⟩
        case rest =>
          obtain ⟨rfl, nq1, rfl⟩ := hcut
          cases hlo : lo1 Q[b]? p.2 with
          | true =>
            have hbl : b < Q.length := by
              rcases Nat.lt_or_ge b Q.length with h | h
              · exact h
              · rw [List.getElem?_eq_none h] at hlo; cases hlo
            have HLO3 : Hid (∀ (i : Nat) q, i < b + 1 → Q[i]? = some q → q.1 < p.2) := hid (fun i q h1 h2 => by
              by_cases hib : i = b
              · subst hib; rw [h2] at hlo; simpa [lo1] using hlo
              · exact HLO2.out i q (by omega) h2)
            clear hlo HLO2
            go_wp2
            go_roundw
            case rel => exact ⟨b + 1, by omega, by go_num, ⟨_, rfl⟩, HLO3⟩
            case measure => simp [intOf]; omega
          | false =>
            have HTH : Hid (Ed.thru Q p = pick1 p Q[b]?) := hid (thru_at HQQ.out.1 HLO2.out (fun q hq => by rw [hq] at hlo; simpa [lo1] using hlo))
            have HLO4 : Hid (∀ (i : Nat) q, i < b → Q[i]? = some q → ∀ p' ∈ P.drop (a + 1), q.1 < p'.2) := hid (fun i q h1 h2 p' hp' => by
              have hpw : (p :: P.drop (a + 1)).Pairwise Ed.lt := by rw [← HD.out]; exact HPP.out.1.drop
              have h3 := (List.pairwise_cons.1 hpw).1 p' hp'
              have h4 := HLO2.out i q h1 h2
              unfold Ed.lt at h3
              omega)
            clear hlo HLO2
            go_upto_region 15 with fail
            go_cut [78] (fun c78 wc => c78 = .bool (eq1 Q[b]? p.2) ∧ ∃ q, wc = w5.drewN q)
            case first =>
              by_cases hbl : b < Q.length
              · obtain ⟨q, hq⟩ : ∃ q, Q[b]? = some q := ⟨_, List.getElem?_eq_getElem hbl⟩
                obtain ⟨b2, o2, rfl, _, e0, e1⟩ := rdP_at (HQ4.out.below HB.out) hq
                have HQ := hid hq
                have i3 : (0 : Int) ≤ (b : Int) := by omega
                have i4 : (b : Int) < (Q.length : Int) := by omega
                have HE : Hid (eq1 (some q) p.2 = (q.1 == p.2)) := hid (by unfold eq1; simp only; rw [Bool.eq_iff_iff, decide_eq_true_eq, beq_iff_eq])
                clear hq
                go_quiet (fail)
                go_wp2
                go_meet
                exact ⟨by rw [HQ.out, HE.out], _, by first | rfl | exact World.drewN_drewN _ _ _⟩
              · have hq : Q[b]? = none := List.getElem?_eq_none (by omega)
                have HQ := hid hq
                have i4 : ¬ (b : Int) < (Q.length : Int) := by omega
                clear hq
                go_quiet (fail)
                go_wp2
                go_meet
                exact ⟨by rw [HQ.out]; rfl, _, by first | rfl | exact World.drewN_drewN _ _ _⟩
            case rest =>
              obtain ⟨rfl, nq2, rfl⟩ := hcut
              cases heq : eq1 Q[b]? p.2 with
              | true =>
                have hbl : b < Q.length := by
                  rcases Nat.lt_or_ge b Q.length with h | h
                  · exact h
                  · rw [List.getElem?_eq_none h] at heq; cases heq
                obtain ⟨q, hq⟩ : ∃ q, Q[b]? = some q := ⟨_, List.getElem?_eq_getElem hbl⟩
                obtain ⟨b2, o2, rfl, hb2l, e0, e1⟩ := rdP_at (HQ4.out.below HB.out) hq
                have HNEW : Hid (Ed.comp (P.take (a + 1)) Q = O ++ [(p.1, q.2)]) := hid (by
                  rw [HTK.out, HTH.out, ← HO.out, hq]
                  rw [hq] at heq
                  have : q.1 = p.2 := by simpa [eq1] using heq
                  unfold pick1
                  simp only
                  rw [if_pos this])
                have hb2w : b2 < w4.heap.size := by
                  obtain ⟨_, _, e, h, _⟩ := rdP_at HQ4.out hq
                  cases e; exact h
                have hb2r : b2 < w5.heap.size := hb2l
                have hb1r : b1 < w5.heap.size := hb1l
                have hnb1 : (Value.slice ao O.length co).ownBlock ≠ some b1 := fun h => by have := own_ge HOW.out _ h; omega
                have hnb2 : (Value.slice ao O.length co).ownBlock ≠ some b2 := fun h => by have := own_ge HOW.out _ h; omega
                have hBw := HB.out.size
                have i3 : (0 : Int) ≤ (b : Int) := by omega
                have i4 : (b : Int) < (Q.length : Int) := by omega
                obtain ⟨w6, hw6⟩ : ∃ w6, w6 = w5.drewN nq2 := ⟨_, rfl⟩
                have HOW6 : Hid (OwnP w6 w4.heap.size (.slice ao O.length co) O) := hid (by rw [hw6]; exact own_stays HOW.out (below_drewN (Below.refl _ _) _))
                have HB6 : Hid (Below w4.heap.size w4 w6) := hid (by rw [hw6]; exact below_drewN HB.out _)
                have d0' : w6.cell? ⟨b1, o1 + a * 2, none⟩ = some (.int .i64 p.1) := by rw [hw6]; exact d0
                have e1' : w6.cell? ⟨b2, o2 + b * 2 + 1, none⟩ = some (.int .i64 q.2) := by rw [hw6]; exact e1
                have hs6 : w6.heap.size = w5.heap.size := by rw [hw6]; rfl
                have hb1s : b1 < w6.heap.size := by omega
                have hb2s : b2 < w6.heap.size := by omega
                have hBs : w4.heap.size ≤ w6.heap.size := by omega
                clear hs6
                rw [← hw6]
                clear heq hq d0 d1 e0 e1 hw6
                go_wp2_with fail
                go_region_held3 (fun w' => w'.cell? ⟨b1, o1 + a * 2, none⟩ = some (.int .i64 p.1) ∧ w'.cell? ⟨b2, o2 + b * 2 + 1, none⟩ = some (.int .i64 q.2))
                  (first
                    | go_keep
                    | (go_split_ands
                       refine ⟨?_, ?_⟩
                       · (rw [hgrow.cell_far _ (by simp; omega) (Ne.symm hnb1)]; assumption)
                       · (rw [hgrow.cell_far _ (by simp; omega) (Ne.symm hnb2)]; assumption)))
                  ((refine step_append_lies _ (by rfl) _ _ _ (by rfl) w4.heap.size 62 ip _ 2 16 Tryd.underlying49 hip hp0 hp1 hp2 rfl (by omega) (.slice ao O.length co) O.length (psC O) (by rfl) ((HOW6.out.alloc _).drew)
                      ⟨w6.heap.size, 0, none⟩ 1 1 [.int .i64 p.1, .int .i64 q.2] (by rfl) (by rfl) (World.news_of_block (cs := #[.int .i64 p.1, .int .i64 q.2]) (t := 62) (fr := (0, 0)) (heap_alloc_new w6 _)) (by simp [Value.oneCell'])
                      (by omega) (by unfold maxLen; omega) (by omega) (by simp; omega) (w6.heap.size + 1) (by simp) ?_; intro gg cap w7 hown2 hgrow hat hlt2))
                have HO2 : Hid (OwnP w7 w4.heap.size (.slice (some ⟨gg, 0, none⟩) (O.length + 1) cap) (O ++ [(p.1, q.2)])) := hid (by
                  show World.ownsRow _ _ _ _ _ _ _
                  rw [List.length_append, psC_append]
                  exact hown2)
                have HB7 : Hid (Below w4.heap.size w4 w7) := hid ((HB6.out.trans (below_drewN ((Below.refl w4.heap.size w6).alloc HB6.out.size _) 1)).grown hgrow (by simp; omega) (own_ge HOW6.out))
                clear hown2 hgrow hat hlt2
                go_wp2
                go_roundw
                case rel => exact ⟨a + 1, b, O ++ [(p.1, q.2)], by omega, hb, by go_num, rfl, by rw [List.length_append, List.length_singleton]; omega, hid HNEW.out.symm, HLO4, HO2, HB7⟩
                case measure => simp [intOf]; omega
              | false =>
                have HNEW : Hid (O = Ed.comp (P.take (a + 1)) Q) := hid (by
                  rw [HTK.out, HTH.out, ← HO.out]
                  cases hq : Q[b]? with
                  | none => simp [pick1]
                  | some q =>
                    rw [hq] at heq
                    have : ¬ q.1 = p.2 := by simpa [eq1] using heq
                    unfold pick1
                    simp only
                    rw [if_neg this, List.append_nil])
                clear heq
                go_wp2
                go_roundw
                case rel => exact ⟨a + 1, b, O, by omega, hb, by go_num, rfl, by omega, HNEW, HLO4, hid (own_stays HOW.out (below_drewN (Below.refl _ _) _)), hid (below_drewN HB.out _)⟩
                case measure => simp [intOf]; omega
    · have hae : P.take a = P := List.take_of_length_le (by omega)
      have HOE : Hid (O = Ed.comp P Q) := hid (by rw [HO.out, hae])
      have hOl2 : O.length ≤ 4194304 := by omega
      have HWP : Hid (∀ p ∈ O, WfP p) := hid (fun p hp => by
        rw [HOE.out] at hp
        have := (Ed.rise_iff.1 HRISE.out).2 p hp
        unfold Ed.inB at this
        unfold WfP I64
        omega)
      have HB5 : Hid (Below w.heap.size w w5) := hid (HB4.out.trans (HB.out.mono HB4.out.size))
      have HOF := hid (refOf_any (n := n) (m := k) (own_rd HOW.out) HWP.out (by omega) HCN.out HCK.out)
      clear hae HO
      go_wp2_with fail
      refine HOF.out.mono ?_
      rintro e w6 ⟨⟨h0, _⟩ | ⟨_, v6, rfl, hO6⟩, hb6⟩
      · rw [HOE.out, HRISE.out] at h0; cases h0
      have HO6 : Hid (OwnC w6 w.heap.size v6 J) := hid (by rw [HJ.out, ← HOE.out]; exact own_mono hO6 HB5.out.size)
      have HB6 := hid (HB5.out.trans (hb6.mono HB5.out.size))
      clear hO6 hb6
      go_wp2
      go_ret2
      exact ⟨_, rfl, HO6.out, HB6.out⟩

set_option maxHeartbeats 1000000 in
theorem refJoin_all {v u : Value} {s t : List Ch} {n m k : Int} {w : World} (hr : RdC w v s) (hwf : ∀ c ∈ s, WfC c) (hl : s.length ≤ 10000000000000) (hu : RdC w u t) (hwt : ∀ c ∈ t, WfC c) (hlt : t.length ≤ 10000000000000) :
    Calls Tryd.prog 17 #[v, u, .int .i64 n, .int .i64 m, .int .i64 k] w fun e w' => ∃ v', e = .returned (.tuple #[v', .int .i64 (joinN s t n m k)]) ∧ OwnC w' w.heap.size v' (joinA s t n m k) ∧ Below w.heap.size w w' := by
  by_cases h1 : Ed.validN s n m = 0
  · by_cases h2 : Ed.validN t m k = 0
    · have e1 : joinN s t n m k = 0 := by unfold joinN; rw [if_pos h1, h2]
      have e2 : joinA s t n m k = Ed.joinP s t n m k := by unfold joinA; rw [if_pos ⟨h1, h2⟩]
      rw [e1, e2]
      exact refJoin_any hr hwf hu hwt (Ed.validN_zero.1 h1) (Ed.validN_zero.1 h2)
    · have e1 : joinN s t n m k = Ed.validN t m k := by unfold joinN; rw [if_pos h1]
      have e2 : joinA s t n m k = [] := by unfold joinA; rw [if_neg (fun h => h2 h.2)]
      rw [e1, e2]
      have HC1 := hid (refValid_any (n := n) (m := m) hr hwf hl)
      have HC2 := hid (fun w1 (h : RdC w1 u t) => refValid_any (n := m) (m := k) h hwt hlt)
      have HU := hid hu
      obtain ⟨a0, c0, rfl⟩ := hr.shape
      obtain ⟨a1, c1, rfl⟩ := hu.shape
      rw [h1] at HC1
      generalize Ed.validN t m k = z at HC2 h2
      have hz : ((z : Int) == 0) = false := ine (by omega)
      clear hr hwf hu hwt e1 e2 h1 h2
      go_enter Tryd.func17, Tryd.ntmps17
      go_wp2_with fail
      refine HC1.out.mono ?_
      rintro e w1 ⟨rfl, hb1⟩
      have HB1 := hid hb1
      clear hb1
      go_wp2_with fail
      refine (HC2.out _ (HU.out.below HB1.out)).mono ?_
      rintro e w2 ⟨rfl, hb2⟩
      have HB2 := hid (HB1.out.trans (hb2.mono HB1.out.size))
      clear hb2
      go_wp2
      go_ret2
      exact ⟨_, rfl, World.ownsRow_nil _ _ _ _, HB2.out⟩
  · have e1 : joinN s t n m k = Ed.validN s n m := by unfold joinN; rw [if_neg h1]
    have e2 : joinA s t n m k = [] := by unfold joinA; rw [if_neg (fun h => h1 h.1)]
    rw [e1, e2]
    have HC1 := hid (refValid_any (n := n) (m := m) hr hwf hl)
    obtain ⟨a0, c0, rfl⟩ := hr.shape
    obtain ⟨a1, c1, rfl⟩ := hu.shape
    generalize Ed.validN s n m = z at HC1 h1
    have hz : ((z : Int) == 0) = false := ine (by omega)
    clear hr hwf hu hwt e1 e2 h1
    go_enter Tryd.func17, Tryd.ntmps17
    go_wp2_with fail
    refine HC1.out.mono ?_
    rintro e w1 ⟨rfl, hb1⟩
    have HB1 := hid hb1
    clear hb1
    go_wp2
    go_ret2
    exact ⟨_, rfl, World.ownsRow_nil _ _ _ _, HB1.out⟩
end Go.Proofs.YthgibnbpeopoaaaDoor
