/-
  Pairs that rise and stand for equal numbers: the law's own function equal.
-/
import Derived.Test.YthgibnbpeopoaaaDoorDe
import Derived.Deep.DeepCutAuto
import Derived.Deep.Cut
import Derived.Deep.CutRange
namespace Go.Proofs.YthgibnbpeopoaaaDoor
open Go.RowKit
open Ed (Ch Run Pr)

def okP (a b : List Int) (x y : Int) (p : Pr) : Bool := decide (x ≤ p.1) && (decide (p.1 < a.length) && (decide (y ≤ p.2) && (decide (p.2 < b.length) && Ed.eqP a b p)))
def selP (a b : List Int) : List Pr → Int → Int → List Pr
  | [], _, _ => []
  | p :: r, x, y => if okP a b x y p then p :: selP a b r (p.1 + 1) (p.2 + 1) else selP a b r x y
theorem okP_iff {a b : List Int} {x y : Int} {p : Pr} : okP a b x y p = true ↔ x ≤ p.1 ∧ p.1 < a.length ∧ y ≤ p.2 ∧ p.2 < b.length ∧ Ed.eqP a b p = true := by
  unfold okP; simp
theorem sel_rise (a b : List Int) : ∀ (l : List Pr) (x y : Int), Ed.rise (selP a b l x y) x y a.length b.length = true
  | [], _, _ => rfl
  | p :: r, x, y => by
    rw [selP]
    cases h : okP a b x y p with
    | true =>
      rw [if_pos rfl, Ed.rise_cons]
      obtain ⟨h1, h2, h3, h4, _⟩ := okP_iff.1 h
      exact ⟨⟨⟨h1, h2⟩, h3, h4⟩, sel_rise a b r _ _⟩
    | false =>
      rw [if_neg (by decide)]
      exact sel_rise a b r x y
theorem sel_fits (a b : List Int) : ∀ (l : List Pr) (x y : Int), Ed.fitsP a b (selP a b l x y) = true
  | [], _, _ => rfl
  | p :: r, x, y => by
    rw [selP]
    cases h : okP a b x y p with
    | true =>
      rw [if_pos rfl]
      obtain ⟨_, _, _, _, h5⟩ := okP_iff.1 h
      show (Ed.eqP a b p && Ed.fitsP a b (selP a b r (p.1 + 1) (p.2 + 1))) = true
      rw [h5, sel_fits a b r _ _]
      rfl
    | false =>
      rw [if_neg (by decide)]
      exact sel_fits a b r x y
theorem sel_len (a b : List Int) : ∀ (l : List Pr) (x y : Int), (selP a b l x y).length ≤ l.length
  | [], _, _ => Nat.le_refl _
  | p :: r, x, y => by
    rw [selP]
    split
    · rw [List.length_cons, List.length_cons]; have := sel_len a b r (p.1 + 1) (p.2 + 1); omega
    · rw [List.length_cons]; have := sel_len a b r x y; omega
theorem wpList_append_prw {w : World} {ops : Array Oper} {rest : List Oper} {o : Oper} {a : Act} {Q : Exit → Act → World → Prop} (hgd : o.guard = none) (s x : Operand)
    (ho : o.op = .call { callee := .builtin .append, args := #[s, x], argTypes := #[49, 49] }) (B : Nat) (v : Value) (l : List Pr) (hs : a.eval s = v) (hown : OwnP w B v l)
    (g : Nat) (c : Pr) (hx : a.eval x = .slice (some ⟨g, 0, none⟩) 1 1) (hg : w.heap[g]? = some (.cells #[.int .i64 c.1, .int .i64 c.2] 62)) (hfit : l.length < 8796093021952) (hB : B ≤ w.heap.size)
    (h : ∀ v' w', OwnP w' B v' (l ++ [c]) → w.grownBy w' v.ownBlock → wpList Tryd.prog ops Q rest (a.put o.dst v') w') : wpList Tryd.prog ops Q (o :: rest) a w := by
  obtain ⟨i0, hi, hz0, hz1, hz2⟩ := info_parts Tryd.infoPairT
  refine wpList_append_lies _ hgd s x 49 ho B 62 i0 (.agg #[.int .i64 0, .int .i64 0]) 2 16 Tryd.underlying49 hi hz0 hz1 hz2 rfl (by decide) v l.length (psC l) hs hown ⟨g, 0, none⟩ 1 1 (pC c) hx rfl ?_ ?_ (by decide) ?_ ?_ hB w.heap.size rfl ?_
  · exact World.news_of_block (cs := #[.int .i64 c.1, .int .i64 c.2]) hg
  · have := psC_one [c]
    simpa [psC] using this
  · unfold maxLen; omega
  · omega
  · intro g' cap w' g2 g3 _ _
    refine h _ w' ?_ g3
    show w'.ownsRow _ _ _ _ _ _
    rw [List.length_append, psC_append]
    have e : psC [c] = pC c := by simp [psC]
    rw [e]; exact g2

set_option maxHeartbeats 8000000 in
set_option maxRecDepth 100000 in
theorem sel_any {v va vb : Value} {l : List Pr} {a b : List Int} {w : World} (hr : RdP w v l) (hwf : ∀ p ∈ l, WfP p) (hl : l.length ≤ 8796093021952) (ha : RdI w va a) (hb : RdI w vb b) (hla : a.length ≤ 17592186043904) (hlb : b.length ≤ 17592186043904) :
    Calls Tryd.prog 22 #[v, va, vb] w fun e w' => ∃ v', e = .returned v' ∧ OwnP w' w.heap.size v' (selP a b l 0 0) ∧ Below w.heap.size w w' := by
  have HR := hid hr
  have HRA := hid ha
  have HRB := hid hb
  have HWF := hid hwf
  obtain ⟨a0, c0, rfl⟩ := hr.shape
  obtain ⟨aa, ca, rfl⟩ := ha.shape
  obtain ⟨ab, cb, rfl⟩ := hb.shape
  obtain ⟨S, hS⟩ : ∃ S, S = selP a b l 0 0 := ⟨_, rfl⟩
  rw [← hS]
  have HS := hid hS
  clear hr hwf ha hb hS
  go_enter Tryd.func22, Tryd.ntmps22
  go_wp2
  go_loopw [7, 8, 9, 10] (fun o x y i wr => ∃ (k : Nat) (X Y : Int) (O : List Pr), k ≤ l.length ∧ i = .int .i64 k ∧ x = .int .i64 X ∧ y = .int .i64 Y ∧ 0 ≤ X ∧ X ≤ a.length ∧ 0 ≤ Y ∧ Y ≤ b.length ∧ O.length ≤ k ∧ Hid (S = O ++ selP a b (l.drop k) X Y) ∧ Hid (OwnP wr w.heap.size o O) ∧ Hid (Below w.heap.size w wr)) (fun _ _ _ i _ => l.length - (intOf i).toNat)
  case atStart => exact ⟨0, 0, 0, [], Nat.zero_le _, rfl, rfl, rfl, by omega, by omega, by omega, by omega, Nat.le_refl _, HS, hid (World.ownsRow_nil _ _ _ _), hid (Below.refl _ _)⟩
  case round =>
    obtain ⟨k, X, Y, O, hk, rfl, rfl, rfl, hX0, hX1, hY0, hY1, hOl, HE, HO, HB⟩ := hrel
    obtain ⟨ao, co, eo⟩ := own_shape HO.out
    subst eo
    by_cases hlt : k < l.length
    · obtain ⟨p, hp⟩ : ∃ p, l[k]? = some p := ⟨_, List.getElem?_eq_getElem hlt⟩
      obtain ⟨wp1, wp2⟩ := HWF.out p (List.mem_of_getElem? hp)
      have HD := hid (drop_at hp)
      rw [HD.out, selP] at HE
      obtain ⟨b1, o1, rfl, _, d0, d1⟩ := rdP_at (HR.out.below HB.out) hp
      obtain ⟨p1, p2⟩ := p
      simp only at d0 d1 wp1 wp2
      have i1 : (0 : Int) ≤ (k : Int) := by omega
      have i2 : (k : Int) < (l.length : Int) := by omega
      have hbN : Below wr.heap.size wr (wr.alloc (.cells #[.int .i64 p1, .int .i64 p2] 62)) := (Below.refl _ _).alloc (Nat.le_refl _) _
      have hgN := heap_alloc_new wr (.cells #[.int .i64 p1, .int .i64 p2] 62)
      have hsN : (wr.alloc (.cells #[.int .i64 p1, .int .i64 p2] 62)).heap.size = wr.heap.size + 1 := by simp
      have HBN := hid hbN
      have HGN := hid hgN
      have HSN := hid hsN
      clear hp hbN hgN hsN
      go_upto_region 7 with fail
      generalize (wr.alloc (.cells #[.int .i64 p1, .int .i64 p2] 62)) = w1 at HBN HGN HSN ⊢
      obtain ⟨g, hg⟩ : ∃ g, g = wr.heap.size := ⟨_, rfl⟩
      have HGE := hid hg
      rw [← hg] at HGN ⊢
      clear hg
      have m0 : w1.cell? ⟨g, 0, none⟩ = some (.int .i64 p1) := cell_of_blk HGN.out 0
      have m1 : w1.cell? ⟨g, 1, none⟩ = some (.int .i64 p2) := cell_of_blk HGN.out 1
      go_cut [58] (fun c58 wc => c58 = .bool (okP a b X Y (p1, p2)) ∧ ∃ q, wc = w1.drewN q)
      case first =>
        by_cases q1 : X ≤ p1
        case neg =>
          have HF : Hid (okP a b X Y (p1, p2) = false) := hid (by unfold okP; simp only; rw [decide_eq_false q1]; rfl)
          have e1 : decide (X ≤ p1) = false := decide_eq_false q1
          go_quiet (fail)
          go_wp2
          go_meet
          exact ⟨by rw [HF.out], _, rfl⟩
        by_cases q2 : p1 < a.length
        case neg =>
          have HF : Hid (okP a b X Y (p1, p2) = false) := hid (by unfold okP; simp only; rw [decide_eq_false q2]; simp)
          have e1 : decide (X ≤ p1) = true := decide_eq_true q1
          have e2 : decide (p1 < (a.length : Int)) = false := decide_eq_false q2
          go_quiet (fail)
          go_wp2
          go_meet
          exact ⟨by rw [HF.out], _, rfl⟩
        by_cases q3 : Y ≤ p2
        case neg =>
          have HF : Hid (okP a b X Y (p1, p2) = false) := hid (by unfold okP; simp only; rw [decide_eq_false q3]; simp)
          have e1 : decide (X ≤ p1) = true := decide_eq_true q1
          have e2 : decide (p1 < (a.length : Int)) = true := decide_eq_true q2
          have e3 : decide (Y ≤ p2) = false := decide_eq_false q3
          go_quiet (fail)
          go_wp2
          go_meet
          exact ⟨by rw [HF.out], _, rfl⟩
        by_cases q4 : p2 < b.length
        case neg =>
          have HF : Hid (okP a b X Y (p1, p2) = false) := hid (by unfold okP; simp only; rw [decide_eq_false q4]; simp)
          have e1 : decide (X ≤ p1) = true := decide_eq_true q1
          have e2 : decide (p1 < (a.length : Int)) = true := decide_eq_true q2
          have e3 : decide (Y ≤ p2) = true := decide_eq_true q3
          have e4 : decide (p2 < (b.length : Int)) = false := decide_eq_false q4
          go_quiet (fail)
          go_wp2
          go_meet
          exact ⟨by rw [HF.out], _, rfl⟩
        obtain ⟨n1, rfl⟩ := Int.eq_ofNat_of_zero_le (show 0 ≤ p1 by omega)
        obtain ⟨n2, rfl⟩ := Int.eq_ofNat_of_zero_le (show 0 ≤ p2 by omega)
        obtain ⟨z1, hz1⟩ : ∃ z, a[n1]? = some z := ⟨_, List.getElem?_eq_getElem (by omega)⟩
        obtain ⟨z2, hz2⟩ : ∃ z, b[n2]? = some z := ⟨_, List.getElem?_eq_getElem (by omega)⟩
        obtain ⟨b2, o2, rfl, hl2, f1⟩ := rdI_at ((HRA.out.below HB.out).below HBN.out) hz1
        obtain ⟨b3, o3, rfl, hl3, f2⟩ := rdI_at ((HRB.out.below HB.out).below HBN.out) hz2
        have HF : Hid (okP a b X Y ((n1 : Int), (n2 : Int)) = (z1 == z2)) := hid (by
          unfold okP Ed.eqP
          simp only
          rw [decide_eq_true q1, decide_eq_true q2, decide_eq_true q3, decide_eq_true q4]
          simp only [Bool.true_and, Int.toNat_natCast]
          rw [hz1, hz2]
          rfl)
        have e1 : decide (X ≤ (n1 : Int)) = true := decide_eq_true q1
        have e2 : decide ((n1 : Int) < (a.length : Int)) = true := decide_eq_true q2
        have e3 : decide (Y ≤ (n2 : Int)) = true := decide_eq_true q3
        have e4 : decide ((n2 : Int) < (b.length : Int)) = true := decide_eq_true q4
        have i3 : (0 : Int) ≤ (n1 : Int) := by omega
        have i4 : (0 : Int) ≤ (n2 : Int) := by omega
        clear hz1 hz2
        go_quiet (fail)
        go_wp2
        go_meet
        exact ⟨by rw [HF.out], _, rfl⟩
      case rest =>
        obtain ⟨rfl, q, rfl⟩ := hcut
        cases hok : okP a b X Y (p1, p2) with
        | true =>
          rw [hok, if_pos rfl] at HE
          obtain ⟨q1, q2, q3, q4, _⟩ := okP_iff.1 hok
          simp only at q1 q2 q3 q4
          have HE2 : Hid (S = (O ++ [(p1, p2)]) ++ selP a b (l.drop (k + 1)) (p1 + 1) (p2 + 1)) := hid (by rw [HE.out]; simp)
          have HBd : Hid (Below w.heap.size w (w1.drewN q)) := hid (below_drewN (HB.out.trans (HBN.out.mono HB.out.size)) q)
          have hbM : Below (w1.drewN q).heap.size (w1.drewN q) ((w1.drewN q).alloc (.cells #[.int .i64 p1, .int .i64 p2] 62)) := (Below.refl _ _).alloc (Nat.le_refl _) _
          have hgM := heap_alloc_new (w1.drewN q) (.cells #[.int .i64 p1, .int .i64 p2] 62)
          have m0' : (w1.drewN q).cell? ⟨g, 0, none⟩ = some (.int .i64 p1) := m0
          have m1' : (w1.drewN q).cell? ⟨g, 1, none⟩ = some (.int .i64 p2) := m1
          have HOb : Hid (OwnP (w1.drewN q) w.heap.size (.slice ao O.length co) O) := hid (own_stays (own_stays HO.out HBN.out) (below_drewN (Below.refl _ _) q))
          have HOc := hid (own_stays HOb.out hbM)
          have HBM := hid hbM
          have HGM := hid hgM
          have hng : (Value.slice ao O.length co).ownBlock ≠ some g := fun h => by have := own_lt HO.out _ h; have := HGE.out; omega
          have hgl : g < (w1.drewN q).heap.size := lt_of_heap HGN.out
          have i5 : IntKind.i64.wrap (p1 + 1) = p1 + 1 := wrapOk (by omega) (by omega)
          have i6 : IntKind.i64.wrap (p2 + 1) = p2 + 1 := wrapOk (by omega) (by omega)
          have hfit : O.length < 8796093021952 := by omega
          have hg1 : (w1.drewN q).heap[g]? = some (.cells #[.int .i64 p1, .int .i64 p2] 62) := HGN.out
          have HG1 := hid hg1
          clear hok hbM hgM m0 m1 hg1
          obtain ⟨w2, hw2⟩ : ∃ w2, w2 = w1.drewN q := ⟨_, rfl⟩
          rw [← hw2] at HBd HOb HOc HBM HGM m0' m1' hgl HG1 ⊢
          clear hw2
          go_wp2_with (at_builtin; refine wpList_append_prw rfl _ _ rfl w.heap.size _ O rfl HOc.out w2.heap.size (p1, p2) rfl HGM.out hfit (Nat.le_trans HBd.out.size HBM.out.size) ?_; intro v3 w3 hO3 hg3; have HO3 := hid hO3; have HB3 : Hid (Below w.heap.size w w3) := hid ((HBd.out.trans (HBM.out.mono HBd.out.size)).grown hg3 (Nat.le_trans HBd.out.size HBM.out.size) (own_ge HOc.out)); have hb3 := (hg3.block g (Nat.lt_of_lt_of_le hgl HBM.out.size) (Ne.symm hng)).trans ((HBM.out.block g hgl).trans HG1.out); have m0 : w3.cell? ⟨g, 0, none⟩ = some (.int .i64 p1) := cell_of_blk hb3 0; have m1 : w3.cell? ⟨g, 1, none⟩ = some (.int .i64 p2) := cell_of_blk hb3 1; clear hO3 hg3 hb3)
          go_roundw
          case rel => exact ⟨k + 1, p1 + 1, p2 + 1, O ++ [(p1, p2)], by omega, by go_num, by go_num, by go_num, by omega, by omega, by omega, by omega, by rw [List.length_append, List.length_singleton]; omega, HE2, HO3, HB3⟩
          case measure => simp [intOf]; omega
        | false =>
          rw [hok, if_neg (by decide)] at HE
          have HBd : Hid (Below w.heap.size w (w1.drewN q)) := hid (below_drewN (HB.out.trans (HBN.out.mono HB.out.size)) q)
          have HOb : Hid (OwnP (w1.drewN q) w.heap.size (.slice ao O.length co) O) := hid (own_stays (own_stays HO.out HBN.out) (below_drewN (Below.refl _ _) q))
          clear hok
          go_wp2
          go_roundw
          case rel => exact ⟨k + 1, X, Y, O, by omega, by go_num, rfl, rfl, by omega, by omega, by omega, by omega, by omega, HE, HOb, HBd⟩
          case measure => simp [intOf]; omega
    · have HEE : Hid (S = O) := hid (by rw [HE.out, List.drop_eq_nil_of_le (by omega)]; simp [selP])
      have HOE : Hid (OwnP wr w.heap.size (.slice ao O.length co) S) := hid (by rw [HEE.out]; exact HO.out)
      go_wp2
      go_ret
      exact ⟨_, rfl, HOE.out, HB.out⟩
end Go.Proofs.YthgibnbpeopoaaaDoor
