/-
  Several texts in one: D2, D3.
-/
import Derived.Test.YthnibchlgcgalaaGreatDoorGrC4
import Derived.Laws.OwnMore
import Derived.Laws.StructEq
/-
  The walk of the document's Of.
-/
namespace Go.Proofs.YthnibchlgcgalaaGreatDoor
open Go.RowKit
open Ed (Ch Run Pr)

theorem wpList_append_ch {w : World} {ops : Array Oper} {rest : List Oper} {o : Oper} {a : Act} {Q : Exit → Act → World → Prop} (hgd : o.guard = none) (s x : Operand)
    (ho : o.op = .call { callee := .builtin .append, args := #[s, x], argTypes := #[35, 35] }) (B : Nat) (v : Value) (l : List Ch) (hs : a.eval s = v) (hown : OwnC w B v l)
    (g : Nat) (c : Ch) (hx : a.eval x = .slice (some ⟨g, 0, none⟩) 1 1) (hg : w.heap[g]? = some (.cells #[.int .i64 c.a, .int .i64 c.n, .int .i64 c.b, .int .i64 c.m] 68)) (hfit : l.length ≤ 1000000000) (hB : B ≤ w.heap.size)
    (h : ∀ v' w', OwnC w' B v' (l ++ [c]) → Below B w w' → wpList Tryz.prog ops Q rest (a.put o.dst v') w') : wpList Tryz.prog ops Q (o :: rest) a w := by
  obtain ⟨i0, hi, hz0, hz1, hz2⟩ := info_parts Tryz.infoChange
  refine wpList_append_lies _ hgd s x 35 ho B 68 i0 (.agg #[.int .i64 0, .int .i64 0, .int .i64 0, .int .i64 0]) 4 32 Tryz.underlying35 hi hz0 hz1 hz2 rfl (by decide) v l.length (csC l) hs hown ⟨g, 0, none⟩ 1 1 (cC c) hx rfl ?_ ?_ (by decide) ?_ ?_ hB w.heap.size rfl ?_
  · exact World.news_of_block (cs := #[.int .i64 c.a, .int .i64 c.n, .int .i64 c.b, .int .i64 c.m]) hg
  · have := csC_one [c]
    simpa [csC] using this
  · unfold maxLen; omega
  · omega
  · intro g' cap w' g2 g3 _ _
    refine h _ w' ?_ ((Below.refl _ _).grown g3 hB (own_ge hown))
    show w'.ownsRow _ _ _ _ _ _
    rw [List.length_append, csC_append]
    have e : csC [c] = cC c := by simp [csC]
    rw [e]; exact g2
/-- the state of the document's loop -/
def ROf (w : World) (P : List Pr) (n m : Int) (k : Nat) (ca cb : Int) (vo : Value) (wr : World) : Prop :=
  ∃ cs, OwnC wr w.heap.size vo cs ∧ cs.length ≤ k ∧ Below w.heap.size w wr ∧ ((k ≤ P.length ∧ 0 ≤ ca ∧ ca ≤ n ∧ 0 ≤ cb ∧ cb ≤ m ∧ (k : Int) ≤ ca ∧ Ed.ofL P 0 0 n m = cs ++ Ed.ofL (P.drop k) ca cb n m ∧ Ed.rise P 0 0 n m = Ed.rise (P.drop k) ca cb n m) ∨ (k = P.length + 1 ∧ Ed.ofL P 0 0 n m = cs ∧ Ed.rise P 0 0 n m = true))

set_option maxHeartbeats 8000000 in
set_option maxRecDepth 100000 in
theorem refOf_any {v : Value} {P : List Pr} {n m : Int} {w : World} (hr : RdP w v P) (hwf : ∀ p ∈ P, WfP p) (hl : P.length ≤ 10000000000000) (hcn : Ed.cnt n = true) (hcm : Ed.cnt m = true) :
    Calls Tryz.prog 42 #[v, .int .i64 n, .int .i64 m] w fun e w' => (Ed.rise P 0 0 n m = false ∧ e = .returned (.tuple #[.slice none 0 0, .int .i64 60]) ∨ Ed.rise P 0 0 n m = true ∧ ∃ v', e = .returned (.tuple #[v', .int .i64 0]) ∧ OwnC w' w.heap.size v' (Ed.ofL P 0 0 n m)) ∧ Below w.heap.size w w' := by
  obtain ⟨a, c, rfl⟩ := hr.shape
  have HR := hid hr
  have HWF := hid hwf
  clear hr hwf
  obtain ⟨hn0, hn1⟩ := Ed.cnt_iff.1 hcn
  obtain ⟨hm0, hm1⟩ := Ed.cnt_iff.1 hcm
  clear hcn hcm
  have hi0 : ¬ n < 0 := by omega
  have hi1 : ¬ 4194304 < n := by omega
  have hi2 : ¬ m < 0 := by omega
  have hi3 : ¬ 4194304 < m := by omega
  go_enter Tryz.func42, Tryz.ntmps42
  go_wp2
  go_loopw [8, 9, 10, 11] (fun o x y i wr => ∃ (k : Nat) (ca cb : Int), i = .int .i64 k ∧ x = .int .i64 ca ∧ y = .int .i64 cb ∧ k ≤ P.length + 1 ∧ Hid (ROf w P n m k ca cb o wr)) (fun _ _ _ i _ => P.length + 1 - (intOf i).toNat)
  case atStart => exact ⟨0, 0, 0, rfl, rfl, rfl, by omega, [], World.ownsRow_nil _ _ _ _, Nat.le_refl _, Below.refl _ _, .inl ⟨Nat.zero_le _, by omega, hn0, by omega, hm0, by omega, rfl, rfl⟩⟩
  case round =>
    obtain ⟨k, ca, cb, rfl, rfl, rfl, hkP, HI⟩ := hrel
    obtain ⟨cs, hO, hcl, hb, hcase⟩ := HI.out
    rcases hcase with ⟨hk, hca0, hca1, hcb0, hcb1, hka, eL, eR⟩ | ⟨hk, eL, eR⟩
    · have hle : (k : Int) ≤ (P.length : Int) := by omega
      have HO := hid hO
      have HB := hid hb
      have HL := hid eL
      have HR' := hid eR
      obtain ⟨ao, co, rfl⟩ := own_shape hO
      clear hO hb eL eR HI
      by_cases hlt : k < P.length
      · obtain ⟨x, hx⟩ : ∃ x, P[k]? = some x := ⟨_, List.getElem?_eq_getElem hlt⟩
        obtain ⟨⟨wa1, wa2⟩, ⟨wb1, wb2⟩⟩ := HWF.out x (List.mem_of_getElem? hx)
        obtain ⟨b, o, rfl, hblt, c0, c1⟩ := rdP_at (HR.out.below HB.out) hx
        obtain ⟨x1, x2⟩ := x
        dsimp only at wa1 wa2 wb1 wb2 c0 c1
        have HL2 : Hid (Ed.ofL P 0 0 n m = cs ++ (Ed.gap ca cb x1 x2 ++ Ed.ofL (P.drop (k + 1)) (x1 + 1) (x2 + 1) n m)) := hid (by rw [HL.out, drop_at hx]; rfl)
        have HR2 : Hid (Ed.rise P 0 0 n m = (decide ((ca ≤ x1 ∧ x1 < n) ∧ cb ≤ x2 ∧ x2 < m) && Ed.rise (P.drop (k + 1)) (x1 + 1) (x2 + 1) n m)) := hid (by rw [HR'.out, drop_at hx]; rfl)
        have HBAD : Hid (¬((ca ≤ x1 ∧ x1 < n) ∧ cb ≤ x2 ∧ x2 < m) → Ed.rise P 0 0 n m = false) := hid (fun h => by rw [HR2.out, decide_eq_false h]; rfl)
        have i1 : (0 : Int) ≤ (k : Int) := by omega
        have i2 : (k : Int) < (P.length : Int) := by omega
        clear hx HL HR'
        by_cases f0 : x1 < ca
        · have HE := hid (HBAD.out (by omega))
          go_wp2
          go_quiet (fail)
          go_wp2
          go_ret2
          exact ⟨.inl ⟨HE.out, rfl⟩, below_drewN HB.out _⟩
        by_cases f1 : x2 < cb
        · have HE := hid (HBAD.out (by omega))
          go_wp2
          go_quiet (fail)
          go_wp2
          go_ret2
          exact ⟨.inl ⟨HE.out, rfl⟩, below_drewN HB.out _⟩
        by_cases f2 : n ≤ x1
        · have HE := hid (HBAD.out (by omega))
          go_wp2
          go_quiet (fail)
          go_wp2
          go_ret2
          exact ⟨.inl ⟨HE.out, rfl⟩, below_drewN HB.out _⟩
        by_cases f3 : m ≤ x2
        · have HE := hid (HBAD.out (by omega))
          go_wp2
          go_quiet (fail)
          go_wp2
          go_ret2
          exact ⟨.inl ⟨HE.out, rfl⟩, below_drewN HB.out _⟩
        have HR3 : Hid (Ed.rise P 0 0 n m = Ed.rise (P.drop (k + 1)) (x1 + 1) (x2 + 1) n m) := hid (by rw [HR2.out, decide_eq_true (by omega)]; rfl)
        by_cases g0 : ca < x1
        · have GAP : Hid (Ed.gap ca cb x1 x2 = [⟨ca, x1 - ca, cb, x2 - cb⟩]) := hid (by unfold Ed.gap; rw [if_pos (by omega)])
          go_wp2
          go_quiet (fail)
          have HO2 := hid (own_stays HO.out (below_drewN (Below.refl _ _) nq))
          have HB2 := hid (below_drewN HB.out nq)
          generalize wr.drewN nq = w1 at HO2 HB2 ⊢
          have hbN := (Below.refl w1.heap.size w1).alloc (Nat.le_refl _) (.cells #[.int .i64 ca, .int .i64 (x1 - ca), .int .i64 cb, .int .i64 (x2 - cb)] 68)
          have HBN := hid hbN
          clear hbN
          go_wp2_with (at_builtin; refine wpList_append_ch rfl _ _ rfl w.heap.size _ cs rfl (own_stays HO2.out HBN.out) w1.heap.size ⟨ca, x1 - ca, cb, x2 - cb⟩ rfl (heap_alloc_new w1 _) (by omega) (Nat.le_trans HB2.out.size HBN.out.size) ?_; intro v2 w2 hO2 hb2; have HO3 := hid hO2; have HB3 := hid ((HB2.out.trans (HBN.out.mono HB2.out.size)).trans hb2); clear hO2 hb2)
          go_roundw
          case rel => exact ⟨k + 1, x1 + 1, x2 + 1, by go_num, by go_num, by go_num, by omega, cs ++ [⟨ca, x1 - ca, cb, x2 - cb⟩], HO3.out, by rw [List.length_append]; simp; omega, HB3.out, .inl ⟨by omega, by omega, by omega, by omega, by omega, by omega, by rw [HL2.out, GAP.out]; simp, HR3.out⟩⟩
          case measure => simp [intOf]; omega
        by_cases g1 : cb < x2
        · have GAP : Hid (Ed.gap ca cb x1 x2 = [⟨ca, x1 - ca, cb, x2 - cb⟩]) := hid (by unfold Ed.gap; rw [if_pos (by omega)])
          go_wp2
          go_quiet (fail)
          have HO2 := hid (own_stays HO.out (below_drewN (Below.refl _ _) nq))
          have HB2 := hid (below_drewN HB.out nq)
          generalize wr.drewN nq = w1 at HO2 HB2 ⊢
          have hbN := (Below.refl w1.heap.size w1).alloc (Nat.le_refl _) (.cells #[.int .i64 ca, .int .i64 (x1 - ca), .int .i64 cb, .int .i64 (x2 - cb)] 68)
          have HBN := hid hbN
          clear hbN
          go_wp2_with (at_builtin; refine wpList_append_ch rfl _ _ rfl w.heap.size _ cs rfl (own_stays HO2.out HBN.out) w1.heap.size ⟨ca, x1 - ca, cb, x2 - cb⟩ rfl (heap_alloc_new w1 _) (by omega) (Nat.le_trans HB2.out.size HBN.out.size) ?_; intro v2 w2 hO2 hb2; have HO3 := hid hO2; have HB3 := hid ((HB2.out.trans (HBN.out.mono HB2.out.size)).trans hb2); clear hO2 hb2)
          go_roundw
          case rel => exact ⟨k + 1, x1 + 1, x2 + 1, by go_num, by go_num, by go_num, by omega, cs ++ [⟨ca, x1 - ca, cb, x2 - cb⟩], HO3.out, by rw [List.length_append]; simp; omega, HB3.out, .inl ⟨by omega, by omega, by omega, by omega, by omega, by omega, by rw [HL2.out, GAP.out]; simp, HR3.out⟩⟩
          case measure => simp [intOf]; omega
        have GAP : Hid (Ed.gap ca cb x1 x2 = []) := hid (by unfold Ed.gap; rw [if_neg (by omega)])
        go_wp2
        go_quiet (fail)
        go_wp2
        go_roundw
        case rel => exact ⟨k + 1, x1 + 1, x2 + 1, by go_num, by go_num, by go_num, by omega, cs, own_stays HO.out (below_drewN (Below.refl _ _) _), by omega, below_drewN HB.out _, .inl ⟨by omega, by omega, by omega, by omega, by omega, by omega, by rw [HL2.out, GAP.out]; simp, HR3.out⟩⟩
        case measure => simp [intOf]; omega
      · have hkk : P.drop k = [] := List.drop_eq_nil_of_le (by omega)
        have hkP2 : k = P.length := by omega
        have HL2 : Hid (Ed.ofL P 0 0 n m = cs ++ Ed.gap ca cb n m) := hid (by rw [HL.out, hkk]; rfl)
        have HR3 : Hid (Ed.rise P 0 0 n m = true) := hid (by rw [HR'.out, hkk]; rfl)
        have i2 : ¬ (k : Int) < (P.length : Int) := by omega
        have HKP := hid hkP2
        clear hkk HL HR' hkP2
        by_cases g0 : ca < n
        · have GAP : Hid (Ed.gap ca cb n m = [⟨ca, n - ca, cb, m - cb⟩]) := hid (by unfold Ed.gap; rw [if_pos (by omega)])
          have HO2 := hid HO.out
          have HB2 := hid HB.out
          obtain ⟨w1, hw1⟩ : ∃ w1, w1 = wr := ⟨_, rfl⟩
          subst hw1
          have hbN := (Below.refl w1.heap.size w1).alloc (Nat.le_refl _) (.cells #[.int .i64 ca, .int .i64 (n - ca), .int .i64 cb, .int .i64 (m - cb)] 68)
          have HBN := hid hbN
          clear hbN
          go_wp2_with (at_builtin; refine wpList_append_ch rfl _ _ rfl w.heap.size _ cs rfl (own_stays HO2.out HBN.out) w1.heap.size ⟨ca, n - ca, cb, m - cb⟩ rfl (heap_alloc_new w1 _) (by omega) (Nat.le_trans HB2.out.size HBN.out.size) ?_; intro v2 w2 hO2 hb2; have HO3 := hid hO2; have HB3 := hid ((HB2.out.trans (HBN.out.mono HB2.out.size)).trans hb2); clear hO2 hb2)
          go_roundw
          case rel => exact ⟨k + 1, n + 1, m + 1, by go_num, by go_num, by go_num, by omega, cs ++ [⟨ca, n - ca, cb, m - cb⟩], HO3.out, by rw [List.length_append]; simp; omega, HB3.out, .inr ⟨by have := HKP.out; omega, by rw [HL2.out, GAP.out]; try simp, HR3.out⟩⟩
          case measure => simp [intOf]; omega
        by_cases g1 : cb < m
        · have GAP : Hid (Ed.gap ca cb n m = [⟨ca, n - ca, cb, m - cb⟩]) := hid (by unfold Ed.gap; rw [if_pos (by omega)])
          have HO2 := hid HO.out
          have HB2 := hid HB.out
          obtain ⟨w1, hw1⟩ : ∃ w1, w1 = wr := ⟨_, rfl⟩
          subst hw1
          have hbN := (Below.refl w1.heap.size w1).alloc (Nat.le_refl _) (.cells #[.int .i64 ca, .int .i64 (n - ca), .int .i64 cb, .int .i64 (m - cb)] 68)
          have HBN := hid hbN
          clear hbN
          go_wp2_with (at_builtin; refine wpList_append_ch rfl _ _ rfl w.heap.size _ cs rfl (own_stays HO2.out HBN.out) w1.heap.size ⟨ca, n - ca, cb, m - cb⟩ rfl (heap_alloc_new w1 _) (by omega) (Nat.le_trans HB2.out.size HBN.out.size) ?_; intro v2 w2 hO2 hb2; have HO3 := hid hO2; have HB3 := hid ((HB2.out.trans (HBN.out.mono HB2.out.size)).trans hb2); clear hO2 hb2)
          go_roundw
          case rel => exact ⟨k + 1, n + 1, m + 1, by go_num, by go_num, by go_num, by omega, cs ++ [⟨ca, n - ca, cb, m - cb⟩], HO3.out, by rw [List.length_append]; simp; omega, HB3.out, .inr ⟨by have := HKP.out; omega, by rw [HL2.out, GAP.out]; try simp, HR3.out⟩⟩
          case measure => simp [intOf]; omega
        have GAP : Hid (Ed.gap ca cb n m = []) := hid (by unfold Ed.gap; rw [if_neg (by omega)])
        go_wp2
        go_roundw
        case rel => exact ⟨k + 1, n + 1, m + 1, by go_num, by go_num, by go_num, by omega, cs, HO.out, by omega, HB.out, .inr ⟨by have := HKP.out; omega, by rw [HL2.out, GAP.out]; try simp, HR3.out⟩⟩
        case measure => simp [intOf]; omega
    · have hle : ¬ (k : Int) ≤ (P.length : Int) := by omega
      have HE : Hid (OwnC wr w.heap.size _ (Ed.ofL P 0 0 n m)) := hid (by rw [eL]; exact hO)
      have HB := hid hb
      have HR' := hid eR
      clear hO hb eL eR HI
      go_wp2
      go_ret2
      exact ⟨.inr ⟨HR'.out, _, rfl, HE.out⟩, HB.out⟩
end Go.Proofs.YthnibchlgcgalaaGreatDoor
/-
  Of, both, whatever the numbers; samePairs; a list of pairs, appended whole.
-/
namespace Go.Proofs.YthnibchlgcgalaaGreatDoor
open Go.RowKit
open Ed (Ch Run Pr)

/-- the script of pairs, where there is one -/
def ofA (P : List Pr) (n m : Int) : List Ch := if ofN P n m = 0 then Ed.ofL P 0 0 n m else []
theorem ofN_arg {P : List Pr} {n m : Int} (h : Ed.cnt n = false ∨ Ed.cnt m = false) : ofN P n m = 1 ∧ ofA P n m = [] := by
  have e : ofN P n m = 1 := by
    unfold ofN
    rw [if_neg]
    rw [Bool.and_eq_true]
    rintro ⟨h1, h2⟩
    rcases h with h | h
    · rw [h1] at h; cases h
    · rw [h2] at h; cases h
  exact ⟨e, by unfold ofA; rw [e]; rfl⟩
theorem ofN_bad {P : List Pr} {n m : Int} (hn : Ed.cnt n = true) (hm : Ed.cnt m = true) (h : Ed.rise P 0 0 n m = false) : ofN P n m = 60 ∧ ofA P n m = [] := by
  have e : ofN P n m = 60 := by unfold ofN; rw [hn, hm, h]; rfl
  exact ⟨e, by unfold ofA; rw [e]; rfl⟩
theorem ofN_good {P : List Pr} {n m : Int} (hn : Ed.cnt n = true) (hm : Ed.cnt m = true) (h : Ed.rise P 0 0 n m = true) : ofN P n m = 0 ∧ ofA P n m = Ed.ofL P 0 0 n m := by
  have e : ofN P n m = 0 := by unfold ofN; rw [hn, hm, h]; rfl
  exact ⟨e, by unfold ofA; rw [e]; rfl⟩

set_option maxHeartbeats 2000000 in
theorem refOf_all {v : Value} {P : List Pr} {n m : Int} {w : World} (hr : RdP w v P) (hwf : ∀ p ∈ P, WfP p) (hl : P.length ≤ 10000000000000) :
    Calls Tryz.prog 42 #[v, .int .i64 n, .int .i64 m] w fun e w' => ∃ v', e = .returned (.tuple #[v', .int .i64 (ofN P n m)]) ∧ OwnC w' w.heap.size v' (ofA P n m) ∧ Below w.heap.size w w' := by
  have key : ∀ (h : Ed.cnt n = false ∨ Ed.cnt m = false), Calls Tryz.prog 42 #[v, .int .i64 n, .int .i64 m] w fun e w' => ∃ v', e = .returned (.tuple #[v', .int .i64 (ofN P n m)]) ∧ OwnC w' w.heap.size v' (ofA P n m) ∧ Below w.heap.size w w' := by
    intro h
    obtain ⟨e1, e2⟩ := ofN_arg (P := P) h
    rw [e1, e2]
    obtain ⟨a, c, rfl⟩ := hr.shape
    clear hr hwf
    have h' : (n < 0 ∨ 4194304 < n) ∨ (m < 0 ∨ 4194304 < m) := by
      rcases h with h | h
      · left
        by_cases q : 0 ≤ n ∧ n ≤ 4194304
        · rw [Ed.cnt_iff.2 q] at h; cases h
        · omega
      · right
        by_cases q : 0 ≤ m ∧ m ≤ 4194304
        · rw [Ed.cnt_iff.2 q] at h; cases h
        · omega
    clear h
    by_cases g0 : n < 0
    · go_enter Tryz.func42, Tryz.ntmps42
      go_wp2
      go_ret2
      exact ⟨_, rfl, World.ownsRow_nil _ _ _ _, Below.refl _ _⟩
    by_cases g1 : 4194304 < n
    · go_enter Tryz.func42, Tryz.ntmps42
      go_wp2
      go_ret2
      exact ⟨_, rfl, World.ownsRow_nil _ _ _ _, Below.refl _ _⟩
    by_cases g2 : m < 0
    · go_enter Tryz.func42, Tryz.ntmps42
      go_wp2
      go_ret2
      exact ⟨_, rfl, World.ownsRow_nil _ _ _ _, Below.refl _ _⟩
    have g3 : 4194304 < m := by omega
    go_enter Tryz.func42, Tryz.ntmps42
    go_wp2
    go_ret2
    exact ⟨_, rfl, World.ownsRow_nil _ _ _ _, Below.refl _ _⟩
  cases hcn : Ed.cnt n with
  | false => exact key (.inl hcn)
  | true =>
    cases hcm : Ed.cnt m with
    | false => exact key (.inr hcm)
    | true =>
      refine (refOf_any hr hwf hl hcn hcm).mono ?_
      rintro e w' ⟨⟨h1, rfl⟩ | ⟨h1, v', rfl, hO⟩, hb⟩
      · obtain ⟨e1, e2⟩ := ofN_bad hcn hcm h1
        rw [e1, e2]
        exact ⟨_, rfl, World.ownsRow_nil _ _ _ _, hb⟩
      · obtain ⟨e1, e2⟩ := ofN_good hcn hcm h1
        rw [e1, e2]
        exact ⟨v', rfl, hO, hb⟩

/-! ### samePairs -/
theorem run_equalIn_pair (w : World) (d : Nat) (x1 x2 y1 y2 : Int) : (Op.equalIn (d + 2) 66 (.agg #[.int .i64 x1, .int .i64 x2]) (.agg #[.int .i64 y1, .int .i64 y2])).run Tryz.prog w = .ok (x1 == y1 && x2 == y2) w := by
  have hsz : ∀ w, (sizeOf 3).run Tryz.prog w = .ok 1 w := fun w => by kernel_rfl
  have hr : List.range' 0 2 = [0, 1] := rfl
  rw [Op.equalIn]
  cases h1 : (x1 == y1) <;> cases h2 : (x2 == y2) <;> simp [run_underlying Tryz.underlying66, run_underlying Tryz.underlying3, hsz, part, isAgg, run_equalIn_int (P := Tryz.prog) w d 3 .i64 .i64 _ _ Tryz.underlying3, h1, h2, hr]
theorem pair_equal (w : World) (x1 x2 y1 y2 : Int) : (Op.equalIn 10000 66 (.agg #[.int .i64 x1, .int .i64 x2]) (.agg #[.int .i64 y1, .int .i64 y2])).run Tryz.prog w = .ok (x1 == y1 && x2 == y2) w := run_equalIn_pair w 9998 x1 x2 y1 y2
attribute [local go_sem] pair_equal
theorem eq_atP {l m : List Pr} (hl : l.length = m.length) (h : ∀ (k : Nat) x, l[k]? = some x → m[k]? = some x) : l = m := by
  apply List.ext_getElem?
  intro k
  cases hk : l[k]? with
  | some x => rw [h k x hk]
  | none =>
    have : l.length ≤ k := List.getElem?_eq_none_iff.1 hk
    rw [List.getElem?_eq_none (by omega)]
/-! ### append of a whole list to nothing -/
/-- what an argument's row is -/
def ArgS (v : Value) : Prop := v = .slice none 0 0 ∨ ∃ ad n c, v = .slice (some ad) n c
theorem wpList_append_new {w : World} {ops : Array Oper} {rest : List Oper} {o : Oper} {a : Act} {Q : Exit → Act → World → Prop} (hgd : o.guard = none) (s x : Operand) (t e : TypeId)
    (ho : o.op = .call { callee := .builtin .append, args := #[s, x], argTypes := #[t, t] }) {z : Value} {sz bytes : Nat} (hu : Tryz.prog.underlying t = some (.slice e)) (hinf : (Tryz.prog.info? e).map (fun i => (i.zero, i.size, i.bytes)) = some (some z, sz, bytes)) (hzc : z.cells.size = sz) (hsz : 0 < sz)
    (hs : a.eval s = .slice none 0 0) (u : Value) (n : Nat) (cs : List Value) (hx : a.eval x = u) (hr : RdX w u n cs) (hA : ArgS u) (hlen : cs.length = n * sz) (h1 : ∀ y ∈ cs, y.oneCell' = true) (h63 : n ≤ maxLen) (hby : n * bytes ≤ 140737488355328)
    (h : ∀ v' w', w'.ownsRow w.heap.size e sz v' n cs → Below w.heap.size w w' → wpList Tryz.prog ops Q rest (a.put o.dst v') w') : wpList Tryz.prog ops Q (o :: rest) a w :=
  wpList_plain hgd fun _ hK => by
    obtain ⟨i0, hi, hz0, hz1, hz2⟩ := info_parts hinf
    have hown0 : w.ownsRow w.heap.size e sz (.slice none 0 0) 0 [] := World.ownsRow_nil _ _ _ _
    have hrun : ∃ v' w', (Builtin.append_ #[t, t] o.type #[.slice none 0 0, u]).run Tryz.prog w = .ok v' w' ∧ w'.ownsRow w.heap.size e sz v' n cs ∧ Below w.heap.size w w' := by
      rcases hA with rfl | ⟨ad, n', c, rfl⟩
      · rcases hr with ⟨rfl, _⟩ | ⟨b, o', c, hv, _⟩
        · have hcs : cs = [] := List.length_eq_zero_iff.1 (by rw [hlen]; simp)
          subst hcs
          exact ⟨_, _, run_append_owned_none (P := Tryz.prog) (w := w) w.heap.size t o.type e i0 sz hu hi _ 0 [] hown0, hown0, Below.refl _ _⟩
        · cases hv
      · have hnn : n' = n ∧ ∀ j y, cs[j]? = some y → w.cell? (ad.add j) = some y := by
          rcases hr with ⟨rfl, a', c', hv⟩ | ⟨b, o', c', hv, _, _, hX⟩
          · cases hv
            have hcs : cs = [] := List.length_eq_zero_iff.1 (by rw [hlen]; simp)
            subst hcs
            exact ⟨rfl, fun j y hj => by simp at hj⟩
          · cases hv
            refine ⟨rfl, fun j y hj => ?_⟩
            rw [Go.WideShapes.add_plain]
            exact hX j y hj
        obtain ⟨rfl, hnews⟩ := hnn
        obtain ⟨v', w', hr', h2, h3, _⟩ := run_append_own (P := Tryz.prog) w w.heap.size t o.type e i0 z sz bytes hu hi hz0 hz1 hz2 hzc hsz _ 0 [] hown0 ad n' c cs hlen hnews h1 (by omega) (by rw [Nat.zero_add]; exact hby) (Nat.le_refl _)
        exact ⟨v', w', hr', by simpa using h2, (Below.refl _ _).grown h3 (Nat.le_refl _) (fun k hk => by cases hk)⟩
    obtain ⟨v', w', hrun, h2, h3⟩ := hrun
    unfold Oper.wp execOp
    simp only [ho, resolve, invoke, builtin, Sem.run_bind, Sem.run_pure, Result.andThen_ok, List.map_toArray, List.map_cons, List.map_nil, hs, hx, hrun]
    exact hK _ _ (h v' w' h2 h3)
theorem Tryz.infoPair : (Tryz.prog.info? 66).map (fun i => (i.zero, i.size, i.bytes)) = some (some (.agg #[.int .i64 0, .int .i64 0]), 2, 16) := by kernel_rfl
end Go.Proofs.YthnibchlgcgalaaGreatDoor
