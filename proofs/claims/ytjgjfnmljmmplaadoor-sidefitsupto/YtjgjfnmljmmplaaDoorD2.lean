/-
  The walk of the document's Of.
-/
import Derived.Test.YtjgjfnmljmmplaaDoorD1
namespace Go.Proofs.YtjgjfnmljmmplaaDoor
open Go.RowKit
open Ed (Ch Run Pr)

theorem wpList_append_ch {w : World} {ops : Array Oper} {rest : List Oper} {o : Oper} {a : Act} {Q : Exit → Act → World → Prop} (hgd : o.guard = none) (s x : Operand)
    (ho : o.op = .call { callee := .builtin .append, args := #[s, x], argTypes := #[22, 22] }) (B : Nat) (v : Value) (l : List Ch) (hs : a.eval s = v) (hown : OwnC w B v l)
    (g : Nat) (c : Ch) (hx : a.eval x = .slice (some ⟨g, 0, none⟩) 1 1) (hg : w.heap[g]? = some (.cells #[.int .i64 c.a, .int .i64 c.n, .int .i64 c.b, .int .i64 c.m] 45)) (hfit : l.length ≤ 1000000000) (hB : B ≤ w.heap.size)
    (h : ∀ v' w', OwnC w' B v' (l ++ [c]) → Below B w w' → wpList Tryd.prog ops Q rest (a.put o.dst v') w') : wpList Tryd.prog ops Q (o :: rest) a w := by
  obtain ⟨i0, hi, hz0, hz1, hz2⟩ := info_parts Tryd.infoChange
  refine wpList_append_lies _ hgd s x 22 ho B 45 i0 (.agg #[.int .i64 0, .int .i64 0, .int .i64 0, .int .i64 0]) 4 32 Tryd.underlying22 hi hz0 hz1 hz2 rfl (by decide) v l.length (csC l) hs hown ⟨g, 0, none⟩ 1 1 (cC c) hx rfl ?_ ?_ (by decide) ?_ ?_ hB w.heap.size rfl ?_
  · exact World.news_of_block (cs := #[.int .i64 c.a, .int .i64 c.n, .int .i64 c.b, .int .i64 c.m]) hg
  · have := csC_one [c]
    simpa [csC] using this
  · unfold maxLen; omega
  · omega
  · intro g' cap w' g2 g3 _ _
    refine h _ w' ?_ ((Below.refl _ _).grown g3 hB (own_ge hown))
    show w'.ownsRow _ _ _ _ _ _
    rw [List.length_append, csC_append]
    have e : csC [c] = cC c := by simp [csC]
    rw [e]; exact g2
/-- the state of the document's loop -/
def ROf (w : World) (P : List Pr) (n m : Int) (k : Nat) (ca cb : Int) (vo : Value) (wr : World) : Prop :=
  ∃ cs, OwnC wr w.heap.size vo cs ∧ cs.length ≤ k ∧ Below w.heap.size w wr ∧ ((k ≤ P.length ∧ 0 ≤ ca ∧ ca ≤ n ∧ 0 ≤ cb ∧ cb ≤ m ∧ (k : Int) ≤ ca ∧ Ed.ofL P 0 0 n m = cs ++ Ed.ofL (P.drop k) ca cb n m ∧ Ed.rise P 0 0 n m = Ed.rise (P.drop k) ca cb n m) ∨ (k = P.length + 1 ∧ Ed.ofL P 0 0 n m = cs ∧ Ed.rise P 0 0 n m = true))

set_option maxHeartbeats 8000000 in
set_option maxRecDepth 100000 in
theorem refOf_any {v : Value} {P : List Pr} {n m : Int} {w : World} (hr : RdP w v P) (hwf : ∀ p ∈ P, WfP p) (hl : P.length ≤ 10000000000000) (hcn : Ed.cnt n = true) (hcm : Ed.cnt m = true) :
    Calls Tryd.prog 34 #[v, .int .i64 n, .int .i64 m] w fun e w' => (Ed.rise P 0 0 n m = false ∧ e = .returned (.tuple #[.slice none 0 0, .int .i64 60]) ∨ Ed.rise P 0 0 n m = true ∧ ∃ v', e = .returned (.tuple #[v', .int .i64 0]) ∧ OwnC w' w.heap.size v' (Ed.ofL P 0 0 n m)) ∧ Below w.heap.size w w' := by
  obtain ⟨a, c, rfl⟩ := hr.shape
  have HR := hid hr
  have HWF := hid hwf
  clear hr hwf
  obtain ⟨hn0, hn1⟩ := Ed.cnt_iff.1 hcn
  obtain ⟨hm0, hm1⟩ := Ed.cnt_iff.1 hcm
  clear hcn hcm
  have hi0 : ¬ n < 0 := by omega
  have hi1 : ¬ 4194304 < n := by omega
  have hi2 : ¬ m < 0 := by omega
  have hi3 : ¬ 4194304 < m := by omega
  go_enter Tryd.func34, Tryd.ntmps34
  go_wp2
  go_loopw [8, 9, 10, 11] (fun o x y i wr => ∃ (k : Nat) (ca cb : Int), i = .int .i64 k ∧ x = .int .i64 ca ∧ y = .int .i64 cb ∧ k ≤ P.length + 1 ∧ Hid (ROf w P n m k ca cb o wr)) (fun _ _ _ i _ => P.length + 1 - (intOf i).toNat)
  case atStart => exact ⟨0, 0, 0, rfl, rfl, rfl, by omega, [], World.ownsRow_nil _ _ _ _, Nat.le_refl _, Below.refl _ _, .inl ⟨Nat.zero_le _, by omega, hn0, by omega, hm0, by omega, rfl, rfl⟩⟩
  case round =>
    obtain ⟨k, ca, cb, rfl, rfl, rfl, hkP, HI⟩ := hrel
    obtain ⟨cs, hO, hcl, hb, hcase⟩ := HI.out
    rcases hcase with ⟨hk, hca0, hca1, hcb0, hcb1, hka, eL, eR⟩ | ⟨hk, eL, eR⟩
    · have hle : (k : Int) ≤ (P.length : Int) := by omega
      have HO := hid hO
      have HB := hid hb
      have HL := hid eL
      have HR' := hid eR
      obtain ⟨ao, co, rfl⟩ := own_shape hO
      clear hO hb eL eR HI
      by_cases hlt : k < P.length
      · obtain ⟨x, hx⟩ : ∃ x, P[k]? = some x := ⟨_, List.getElem?_eq_getElem hlt⟩
        obtain ⟨⟨wa1, wa2⟩, ⟨wb1, wb2⟩⟩ := HWF.out x (List.mem_of_getElem? hx)
        obtain ⟨b, o, rfl, hblt, c0, c1⟩ := rdP_at (HR.out.below HB.out) hx
        obtain ⟨x1, x2⟩ := x
        dsimp only at wa1 wa2 wb1 wb2 c0 c1
        have HL2 : Hid (Ed.ofL P 0 0 n m = cs ++ (Ed.gap ca cb x1 x2 ++ Ed.ofL (P.drop (k + 1)) (x1 + 1) (x2 + 1) n m)) := hid (by rw [HL.out, drop_at hx]; rfl)
        have HR2 : Hid (Ed.rise P 0 0 n m = (decide ((ca ≤ x1 ∧ x1 < n) ∧ cb ≤ x2 ∧ x2 < m) && Ed.rise (P.drop (k + 1)) (x1 + 1) (x2 + 1) n m)) := hid (by rw [HR'.out, drop_at hx]; rfl)
        have HBAD : Hid (¬((ca ≤ x1 ∧ x1 < n) ∧ cb ≤ x2 ∧ x2 < m) → Ed.rise P 0 0 n m = false) := hid (fun h => by rw [HR2.out, decide_eq_false h]; rfl)
        have i1 : (0 : Int) ≤ (k : Int) := by omega
        have i2 : (k : Int) < (P.length : Int) := by omega
        clear hx HL HR'
        by_cases f0 : x1 < ca
        · have HE := hid (HBAD.out (by omega))
          go_wp2
          go_quiet (fail)
          go_wp2
          go_ret2
          exact ⟨.inl ⟨HE.out, rfl⟩, below_drewN HB.out _⟩
        by_cases f1 : x2 < cb
        · have HE := hid (HBAD.out (by omega))
          go_wp2
          go_quiet (fail)
          go_wp2
          go_ret2
          exact ⟨.inl ⟨HE.out, rfl⟩, below_drewN HB.out _⟩
        by_cases f2 : n ≤ x1
        · have HE := hid (HBAD.out (by omega))
          go_wp2
          go_quiet (fail)
          go_wp2
          go_ret2
          exact ⟨.inl ⟨HE.out, rfl⟩, below_drewN HB.out _⟩
        by_cases f3 : m ≤ x2
        · have HE := hid (HBAD.out (by omega))
          go_wp2
          go_quiet (fail)
          go_wp2
          go_ret2
          exact ⟨.inl ⟨HE.out, rfl⟩, below_drewN HB.out _⟩
        have HR3 : Hid (Ed.rise P 0 0 n m = Ed.rise (P.drop (k + 1)) (x1 + 1) (x2 + 1) n m) := hid (by rw [HR2.out, decide_eq_true (by omega)]; rfl)
        by_cases g0 : ca < x1
        · have GAP : Hid (Ed.gap ca cb x1 x2 = [⟨ca, x1 - ca, cb, x2 - cb⟩]) := hid (by unfold Ed.gap; rw [if_pos (by omega)])
          go_wp2
          go_quiet (fail)
          have HO2 := hid (own_stays HO.out (below_drewN (Below.refl _ _) nq))
          have HB2 := hid (below_drewN HB.out nq)
          generalize wr.drewN nq = w1 at HO2 HB2 ⊢
          have hbN := (Below.refl w1.heap.size w1).alloc (Nat.le_refl _) (.cells #[.int .i64 ca, .int .i64 (x1 - ca), .int .i64 cb, .int .i64 (x2 - cb)] 45)
          have HBN := hid hbN
          clear hbN
          go_wp2_with (at_builtin; refine wpList_append_ch rfl _ _ rfl w.heap.size _ cs rfl (own_stays HO2.out HBN.out) w1.heap.size ⟨ca, x1 - ca, cb, x2 - cb⟩ rfl (heap_alloc_new w1 _) (by omega) (Nat.le_trans HB2.out.size HBN.out.size) ?_; intro v2 w2 hO2 hb2; have HO3 := hid hO2; have HB3 := hid ((HB2.out.trans (HBN.out.mono HB2.out.size)).trans hb2); clear hO2 hb2)
          go_roundw
          case rel => exact ⟨k + 1, x1 + 1, x2 + 1, by go_num, by go_num, by go_num, by omega, cs ++ [⟨ca, x1 - ca, cb, x2 - cb⟩], HO3.out, by rw [List.length_append]; simp; omega, HB3.out, .inl ⟨by omega, by omega, by omega, by omega, by omega, by omega, by rw [HL2.out, GAP.out]; simp, HR3.out⟩⟩
          case measure => simp [intOf]; omega
        by_cases g1 : cb < x2
        · have GAP : Hid (Ed.gap ca cb x1 x2 = [⟨ca, x1 - ca, cb, x2 - cb⟩]) := hid (by unfold Ed.gap; rw [if_pos (by omega)])
          go_wp2
          go_quiet (fail)
          have HO2 := hid (own_stays HO.out (below_drewN (Below.refl _ _) nq))
          have HB2 := hid (below_drewN HB.out nq)
          generalize wr.drewN nq = w1 at HO2 HB2 ⊢
          have hbN := (Below.refl w1.heap.size w1).alloc (Nat.le_refl _) (.cells #[.int .i64 ca, .int .i64 (x1 - ca), .int .i64 cb, .int .i64 (x2 - cb)] 45)
          have HBN := hid hbN
          clear hbN
          go_wp2_with (at_builtin; refine wpList_append_ch rfl _ _ rfl w.heap.size _ cs rfl (own_stays HO2.out HBN.out) w1.heap.size ⟨ca, x1 - ca, cb, x2 - cb⟩ rfl (heap_alloc_new w1 _) (by omega) (Nat.le_trans HB2.out.size HBN.out.size) ?_; intro v2 w2 hO2 hb2; have HO3 := hid hO2; have HB3 := hid ((HB2.out.trans (HBN.out.mono HB2.out.size)).trans hb2); clear hO2 hb2)
          go_roundw
          case rel => exact ⟨k + 1, x1 + 1, x2 + 1, by go_num, by go_num, by go_num, by omega, cs ++ [⟨ca, x1 - ca, cb, x2 - cb⟩], HO3.out, by rw [List.length_append]; simp; omega, HB3.out, .inl ⟨by omega, by omega, by omega, by omega, by omega, by omega, by rw [HL2.out, GAP.out]; simp, HR3.out⟩⟩
          case measure => simp [intOf]; omega
        have GAP : Hid (Ed.gap ca cb x1 x2 = []) := hid (by unfold Ed.gap; rw [if_neg (by omega)])
        go_wp2
        go_quiet (fail)
        go_wp2
        go_roundw
        case rel => exact ⟨k + 1, x1 + 1, x2 + 1, by go_num, by go_num, by go_num, by omega, cs, own_stays HO.out (below_drewN (Below.refl _ _) _), by omega, below_drewN HB.out _, .inl ⟨by omega, by omega, by omega, by omega, by omega, by omega, by rw [HL2.out, GAP.out]; simp, HR3.out⟩⟩
        case measure => simp [intOf]; omega
      · have hkk : P.drop k = [] := List.drop_eq_nil_of_le (by omega)
        have hkP2 : k = P.length := by omega
        have HL2 : Hid (Ed.ofL P 0 0 n m = cs ++ Ed.gap ca cb n m) := hid (by rw [HL.out, hkk]; rfl)
        have HR3 : Hid (Ed.rise P 0 0 n m = true) := hid (by rw [HR'.out, hkk]; rfl)
        have i2 : ¬ (k : Int) < (P.length : Int) := by omega
        have HKP := hid hkP2
        clear hkk HL HR' hkP2
        by_cases g0 : ca < n
        · have GAP : Hid (Ed.gap ca cb n m = [⟨ca, n - ca, cb, m - cb⟩]) := hid (by unfold Ed.gap; rw [if_pos (by omega)])
          have HO2 := hid HO.out
          have HB2 := hid HB.out
          obtain ⟨w1, hw1⟩ : ∃ w1, w1 = wr := ⟨_, rfl⟩
          subst hw1
          have hbN := (Below.refl w1.heap.size w1).alloc (Nat.le_refl _) (.cells #[.int .i64 ca, .int .i64 (n - ca), .int .i64 cb, .int .i64 (m - cb)] 45)
          have HBN := hid hbN
          clear hbN
          go_wp2_with (at_builtin; refine wpList_append_ch rfl _ _ rfl w.heap.size _ cs rfl (own_stays HO2.out HBN.out) w1.heap.size ⟨ca, n - ca, cb, m - cb⟩ rfl (heap_alloc_new w1 _) (by omega) (Nat.le_trans HB2.out.size HBN.out.size) ?_; intro v2 w2 hO2 hb2; have HO3 := hid hO2; have HB3 := hid ((HB2.out.trans (HBN.out.mono HB2.out.size)).trans hb2); clear hO2 hb2)
          go_roundw
          case rel => exact ⟨k + 1, n + 1, m + 1, by go_num, by go_num, by go_num, by omega, cs ++ [⟨ca, n - ca, cb, m - cb⟩], HO3.out, by rw [List.length_append]; simp; omega, HB3.out, .inr ⟨by have := HKP.out; omega, by rw [HL2.out, GAP.out]; try simp, HR3.out⟩⟩
          case measure => simp [intOf]; omega
        by_cases g1 : cb < m
        · have GAP : Hid (Ed.gap ca cb n m = [⟨ca, n - ca, cb, m - cb⟩]) := hid (by unfold Ed.gap; rw [if_pos (by omega)])
          have HO2 := hid HO.out
          have HB2 := hid HB.out
          obtain ⟨w1, hw1⟩ : ∃ w1, w1 = wr := ⟨_, rfl⟩
          subst hw1
          have hbN := (Below.refl w1.heap.size w1).alloc (Nat.le_refl _) (.cells #[.int .i64 ca, .int .i64 (n - ca), .int .i64 cb, .int .i64 (m - cb)] 45)
          have HBN := hid hbN
          clear hbN
          go_wp2_with (at_builtin; refine wpList_append_ch rfl _ _ rfl w.heap.size _ cs rfl (own_stays HO2.out HBN.out) w1.heap.size ⟨ca, n - ca, cb, m - cb⟩ rfl (heap_alloc_new w1 _) (by omega) (Nat.le_trans HB2.out.size HBN.out.size) ?_; intro v2 w2 hO2 hb2; have HO3 := hid hO2; have HB3 := hid ((HB2.out.trans (HBN.out.mono HB2.out.size)).trans hb2); clear hO2 hb2)
          go_roundw
          case rel => exact ⟨k + 1, n + 1, m + 1, by go_num, by go_num, by go_num, by omega, cs ++ [⟨ca, n - ca, cb, m - cb⟩], HO3.out, by rw [List.length_append]; simp; omega, HB3.out, .inr ⟨by have := HKP.out; omega, by rw [HL2.out, GAP.out]; try simp, HR3.out⟩⟩
          case measure => simp [intOf]; omega
        have GAP : Hid (Ed.gap ca cb n m = []) := hid (by unfold Ed.gap; rw [if_neg (by omega)])
        go_wp2
        go_roundw
        case rel => exact ⟨k + 1, n + 1, m + 1, by go_num, by go_num, by go_num, by omega, cs, HO.out, by omega, HB.out, .inr ⟨by have := HKP.out; omega, by rw [HL2.out, GAP.out]; try simp, HR3.out⟩⟩
        case measure => simp [intOf]; omega
    · have hle : ¬ (k : Int) ≤ (P.length : Int) := by omega
      have HE : Hid (OwnC wr w.heap.size _ (Ed.ofL P 0 0 n m)) := hid (by rw [eL]; exact hO)
      have HB := hid hb
      have HR' := hid eR
      clear hO hb eL eR HI
      go_wp2
      go_ret2
      exact ⟨.inr ⟨HR'.out, _, rfl, HE.out⟩, HB.out⟩
end Go.Proofs.YtjgjfnmljmmplaaDoor
