/-
  Several texts in one: C8, D5, D6, D7, D9, Dn.
-/
import Derived.Test.YthnibchlgcgalaaGreatDoorGrC4
import Derived.Test.YthnibchlgcgalaaGreatDoorGrJ9
import Derived.OwnWalk
import Derived.Test.YthnibchlgcgalaaGreatDoorGrD2
/-
  The walk of the document's Valid.
-/
namespace Go.Proofs.YthnibchlgcgalaaGreatDoor
open Go.RowKit
open Ed (Ch Run Pr)

theorem ret_nat {a b : Nat} (h : a = b) : Ending.returned (.int .i64 (a : Int)) = .returned (.int .i64 (b : Int)) := by rw [h]
set_option maxHeartbeats 8000000 in
set_option maxRecDepth 100000 in
theorem refValid_any {v : Value} {s : List Ch} {n m : Int} {w : World} (hr : RdC w v s) (hwf : ∀ c ∈ s, WfC c) (hl : s.length ≤ 10000000000000) :
    Calls Tryz.prog 41 #[v, .int .i64 n, .int .i64 m] w fun e w' => e = .returned (.int .i64 (Ed.validN s n m)) ∧ Below w.heap.size w w' := by
  obtain ⟨a, c, rfl⟩ := hr.shape
  have HR := hid hr
  have HWF := hid hwf
  clear hr hwf
  have hb0 := Below.refl w.heap.size w
  by_cases g0 : n < 0
  · have HE : Hid (Ed.validN s n m = 1) := hid (by unfold Ed.validN; rw [if_neg]; rw [Bool.and_eq_true, Ed.cnt_iff, Ed.cnt_iff]; omega)
    go_enter Tryz.func41, Tryz.ntmps41
    go_wp2
    go_ret
    exact ⟨by rw [HE.out]; rfl, hb0⟩
  by_cases g1 : 4194304 < n
  · have HE : Hid (Ed.validN s n m = 1) := hid (by unfold Ed.validN; rw [if_neg]; rw [Bool.and_eq_true, Ed.cnt_iff, Ed.cnt_iff]; omega)
    go_enter Tryz.func41, Tryz.ntmps41
    go_wp2
    go_ret
    exact ⟨by rw [HE.out]; rfl, hb0⟩
  by_cases g2 : m < 0
  · have HE : Hid (Ed.validN s n m = 1) := hid (by unfold Ed.validN; rw [if_neg]; rw [Bool.and_eq_true, Ed.cnt_iff, Ed.cnt_iff]; omega)
    go_enter Tryz.func41, Tryz.ntmps41
    go_wp2
    go_ret
    exact ⟨by rw [HE.out]; rfl, hb0⟩
  by_cases g3 : 4194304 < m
  · have HE : Hid (Ed.validN s n m = 1) := hid (by unfold Ed.validN; rw [if_neg]; rw [Bool.and_eq_true, Ed.cnt_iff, Ed.cnt_iff]; omega)
    go_enter Tryz.func41, Tryz.ntmps41
    go_wp2
    go_ret
    exact ⟨by rw [HE.out]; rfl, hb0⟩
  have HE : Hid (Ed.validN s n m = if Ed.val s 0 0 n m then 0 else 60) := hid (by unfold Ed.validN; rw [if_pos]; rw [Bool.and_eq_true, Ed.cnt_iff, Ed.cnt_iff]; omega)
  go_enter Tryz.func41, Tryz.ntmps41
  go_wp2
  go_loopw [7, 8, 9] (fun x y i wr => ∃ (k : Nat) (ca cb : Int), k ≤ s.length ∧ i = .int .i64 k ∧ x = .int .i64 ca ∧ y = .int .i64 cb ∧ 0 ≤ ca ∧ ca ≤ n ∧ 0 ≤ cb ∧ cb ≤ m ∧ Hid (Ed.val s 0 0 n m = Ed.val (s.drop k) ca cb n m) ∧ Below w.heap.size w wr) (fun _ _ i _ => s.length - (intOf i).toNat)
  case atStart => exact ⟨0, 0, 0, Nat.zero_le _, rfl, rfl, rfl, by omega, by omega, by omega, by omega, rfl, hb0⟩
  case round =>
    obtain ⟨k, ca, cb, hk, rfl, rfl, rfl, hca0, hca1, hcb0, hcb1, HV, hb⟩ := hrel
    clear hb0
    by_cases hlt : k < s.length
    · obtain ⟨x, hx⟩ : ∃ x, s[k]? = some x := ⟨_, List.getElem?_eq_getElem hlt⟩
      obtain ⟨⟨wa1, wa2⟩, ⟨wn1, wn2⟩, ⟨wb1, wb2⟩, ⟨wm1, wm2⟩⟩ := HWF.out x (List.mem_of_getElem? hx)
      obtain ⟨b, o, rfl, hblt, c0, c1, c2, c3⟩ := rdC_at (HR.out.below hb) hx
      have HV2 : Hid (Ed.val s 0 0 n m = (decide (Ed.okC ca cb n m x) && Ed.val (s.drop (k + 1)) (x.a + x.n) (x.b + x.m) n m)) := hid (by rw [HV.out, drop_at hx]; rfl)
      have HB1 := hid (hb.alloc hb.size (.cells #[.int .i64 x.a, .int .i64 x.n, .int .i64 x.b, .int .i64 x.m] 68))
      have HBAD : ¬ Ed.okC ca cb n m x → Hid (Ed.validN s n m = 60) := fun h => hid (by rw [HE.out, HV2.out, decide_eq_false h]; rfl)
      have HBAD := hid HBAD
      have i1 : (0 : Int) ≤ (k : Int) := by omega
      have i2 : (k : Int) < (s.length : Int) := by omega
      clear hx hb HV
      by_cases f0 : x.a < ca
      · have HE6 := HBAD.out (by unfold Ed.okC; omega)
        go_wp2
        go_ret
        exact ⟨by rw [HE6.out]; rfl, HB1.out⟩
      by_cases f1 : x.b < cb
      · have HE6 := HBAD.out (by unfold Ed.okC; omega)
        go_wp2
        go_ret
        exact ⟨by rw [HE6.out]; rfl, HB1.out⟩
      by_cases f2 : n < x.a
      · have HE6 := HBAD.out (by unfold Ed.okC; omega)
        go_wp2
        go_ret
        exact ⟨by rw [HE6.out]; rfl, HB1.out⟩
      by_cases f3 : m < x.b
      · have HE6 := HBAD.out (by unfold Ed.okC; omega)
        go_wp2
        go_ret
        exact ⟨by rw [HE6.out]; rfl, HB1.out⟩
      by_cases f4 : x.a - ca = x.b - cb
      case neg =>
        have HE6 := HBAD.out (by unfold Ed.okC; omega)
        have z4 : (x.a - ca == x.b - cb) = false := zne f4
        have e4 : x.a - ca < x.b - cb ∨ x.b - cb < x.a - ca := by omega
        have p1 : ca ≤ x.a := by omega
        have p2 : cb ≤ x.b := by omega
        have p3 : x.a ≤ n := by omega
        have p4 : x.b ≤ m := by omega
        go_wp2
        go_ret
        exact ⟨by rw [HE6.out]; rfl, HB1.out⟩
      have z4 : (x.a - ca == x.b - cb) = true := zeq f4
      have F4 := hid f4
      clear f4
      by_cases f5 : x.n < 0
      · have HE6 := HBAD.out (by unfold Ed.okC; omega)
        go_wp2
        go_ret
        exact ⟨by rw [HE6.out]; rfl, HB1.out⟩
      by_cases f6 : x.m < 0
      · have HE6 := HBAD.out (by unfold Ed.okC; omega)
        go_wp2
        go_ret
        exact ⟨by rw [HE6.out]; rfl, HB1.out⟩
      by_cases f7 : n - x.a < x.n
      · have HE6 := HBAD.out (by unfold Ed.okC; omega)
        go_wp2
        go_ret
        exact ⟨by rw [HE6.out]; rfl, HB1.out⟩
      by_cases f8 : m - x.b < x.m
      · have HE6 := HBAD.out (by unfold Ed.okC; omega)
        go_wp2
        go_ret
        exact ⟨by rw [HE6.out]; rfl, HB1.out⟩
      by_cases y0 : x.n = 0
      · obtain ⟨xa, xn, xb, xm⟩ := x
        dsimp only at *
        subst y0
        by_cases y2 : xm = 0
        · have HE6 := HBAD.out (by unfold Ed.okC; dsimp only; omega)
          subst y2
          go_wp2
          go_ret
          exact ⟨by rw [HE6.out]; rfl, HB1.out⟩
        · have y3 : (xm == 0) = false := zne y2
          have HG2 : Hid (Ed.val s 0 0 n m = Ed.val (s.drop (k + 1)) (xa + 0) (xb + xm) n m) := hid (by rw [HV2.out, decide_eq_true (by have := F4.out; unfold Ed.okC; dsimp only; omega)]; rfl)
          clear y2
          go_wp2
          go_roundw
          case rel => exact ⟨k + 1, xa + 0, xb + xm, by omega, by go_num, by go_num, by go_num, by omega, by omega, by omega, by omega, HG2.out, HB1.out⟩
          case measure => simp [intOf]; omega
      · have y1 : (x.n == 0) = false := zne y0
        have HG2 : Hid (Ed.val s 0 0 n m = Ed.val (s.drop (k + 1)) (x.a + x.n) (x.b + x.m) n m) := hid (by rw [HV2.out, decide_eq_true (by have := F4.out; unfold Ed.okC; omega)]; rfl)
        go_wp2
        go_roundw
        case rel => exact ⟨k + 1, x.a + x.n, x.b + x.m, by omega, by go_num, by go_num, by go_num, by omega, by omega, by omega, by omega, HG2.out, HB1.out⟩
        case measure => simp [intOf]; omega
    · have hkk : s.drop k = [] := List.drop_eq_nil_of_le (by omega)
      have hv : Ed.val s 0 0 n m = decide (n - ca = m - cb) := by rw [HV.out, hkk]; rfl
      have HB := hid hb
      clear HV hkk hb
      by_cases hq : n - ca = m - cb
      · rw [decide_eq_true hq] at hv
        have hz : (n - ca == m - cb) = true := zeq hq
        have HE0 : Hid (Ed.validN s n m = 0) := hid (by rw [HE.out, hv]; rfl)
        clear hv hq
        go_wp2
        go_ret
        exact ⟨by rw [HE0.out]; rfl, HB.out⟩
      · rw [decide_eq_false hq] at hv
        have hz : (n - ca == m - cb) = false := zne hq
        have HE0 : Hid (Ed.validN s n m = 60) := hid (by rw [HE.out, hv]; rfl)
        clear hv hq
        go_wp2
        go_ret
        exact ⟨by rw [HE0.out]; rfl, HB.out⟩
end Go.Proofs.YthnibchlgcgalaaGreatDoor
/-
  The walk of Invert.
-/
namespace Go.Proofs.YthnibchlgcgalaaGreatDoor
open Go.RowKit
open Ed (Ch Run Pr)

def z0 : Ch := ⟨0, 0, 0, 0⟩
def CRow (w : World) (g : Nat) (l : List Ch) : Prop := w.heap[g]? = some (.cells (csC l).toArray 68)
theorem made_cs (n : Nat) : (madeCells (Value.agg #[.int .i64 0, .int .i64 0, .int .i64 0, .int .i64 0]).cells (n * 4)).toList = csC (List.replicate n z0) := by
  apply List.ext_getElem?
  intro j
  by_cases hj : j < n * 4
  · obtain ⟨c, hc⟩ : ∃ c, (List.replicate n z0)[j / 4]? = some c := ⟨_, List.getElem?_eq_getElem (by rw [List.length_replicate]; omega)⟩
    have hc' : c = z0 := List.eq_of_mem_replicate (List.mem_of_getElem? hc)
    have h1 := csC_get hc (j % 4) (by omega)
    rw [show j / 4 * 4 + j % 4 = j by omega] at h1
    rw [h1, hc']
    have hm : j % 4 < 4 := by omega
    simp only [madeCells, Value.cells]
    rw [Array.getElem?_toList, Array.getElem?_eq_getElem (by simpa using hj)]
    simp
    generalize j % 4 = q at hm ⊢
    match q, hm with
    | 0, _ => rfl
    | 1, _ => rfl
    | 2, _ => rfl
    | 3, _ => rfl
  · rw [List.getElem?_eq_none, List.getElem?_eq_none]
    · rw [csC_length, List.length_replicate]; omega
    · simp [madeCells]; omega
theorem made_crow {w : World} {B g n : Nat} (h : w.ownsRow B 68 4 (.slice (some ⟨g, 0, none⟩) n n) n (madeCells (Value.agg #[.int .i64 0, .int .i64 0, .int .i64 0, .int .i64 0]).cells (n * 4)).toList) : CRow w g (List.replicate n z0) := by
  rcases h.2 with ⟨hv, _⟩ | ⟨g', cap, cur, hv, hg, hh, hc, _, hsz, ht⟩
  · cases hv
  · cases hv
    have e : cur.toList = csC (List.replicate n z0) := by
      rw [← made_cs, ← ht, List.take_of_length_le]
      rw [Array.length_toList, hsz]
      exact Nat.le_refl _
    have e2 : cur = (csC (List.replicate n z0)).toArray := by
      apply Array.ext'
      rw [e]
    rw [e2] at hh
    exact hh
theorem csC_set (l : List Ch) (k : Nat) (c : Ch) (hk : k < l.length) : ((((csC l).set (k * 4) (.int .i64 c.a)).set (k * 4 + 1) (.int .i64 c.n)).set (k * 4 + 2) (.int .i64 c.b)).set (k * 4 + 3) (.int .i64 c.m) = csC (l.set k c) := by
  induction l generalizing k with
  | nil => simp at hk
  | cons x l ih =>
    cases k with
    | zero => rfl
    | succ k =>
      have ih' := ih k (by simpa using hk)
      rw [List.set_cons_succ]
      show (((((cC x ++ csC l).set ((k + 1) * 4) _).set ((k + 1) * 4 + 1) _).set ((k + 1) * 4 + 2) _).set ((k + 1) * 4 + 3) _) = cC x ++ csC (l.set k c)
      rw [← ih']
      have e : ∀ (j : Nat) (y : List Value) (u : Value), (cC x ++ y).set ((k + 1) * 4 + j) u = cC x ++ y.set (k * 4 + j) u := fun j y u => by
        rw [List.set_append, if_neg (by show ¬ (k + 1) * 4 + j < 4; omega)]
        congr 2
        show (k + 1) * 4 + j - 4 = k * 4 + j
        omega
      have e0 : ∀ (y : List Value) (u : Value), (cC x ++ y).set ((k + 1) * 4) u = cC x ++ y.set (k * 4) u := fun y u => e 0 y u
      rw [e0, e, e, e]
theorem CRow.set {w : World} {g : Nat} {l : List Ch} (h : CRow w g l) (k : Nat) (c : Ch) (hk : k < l.length) : CRow ((((w.setCell ⟨g, k * 4, none⟩ (.int .i64 c.a)).setCell ⟨g, k * 4 + 1, none⟩ (.int .i64 c.n)).setCell ⟨g, k * 4 + 2, none⟩ (.int .i64 c.b)).setCell ⟨g, k * 4 + 3, none⟩ (.int .i64 c.m)) g (l.set k c) := by
  have h1 := set_heap _ g (k * 4) _ _ (.int .i64 c.a) h
  have h2 := set_heap _ g (k * 4 + 1) _ _ (.int .i64 c.n) h1
  have h3 := set_heap _ g (k * 4 + 2) _ _ (.int .i64 c.b) h2
  have h4 := set_heap _ g (k * 4 + 3) _ _ (.int .i64 c.m) h3
  unfold CRow
  rw [h4, ← csC_set l k c hk]
  simp
theorem CRow.own {w : World} {B g n : Nat} {l : List Ch} (h : CRow w g l) (hl : l.length = n) (hB : B ≤ g) (hn : n ≤ maxLen) : OwnC w B (.slice (some ⟨g, 0, none⟩) n n) l := by
  subst hl
  exact ⟨by rw [csC_length], .inr ⟨g, l.length, (csC l).toArray, rfl, hB, h, Nat.le_refl _, hn, by rw [List.size_toArray, csC_length], by rw [List.toList_toArray]; exact List.take_of_length_le (Nat.le_of_eq (csC_length l))⟩⟩
/-- the changes so far, the rest nothing -/
def rowC (A : List Ch) (k : Nat) : List Ch := A.take k ++ List.replicate (A.length - k) z0
theorem rowC_len (A : List Ch) (k : Nat) (h : k ≤ A.length) : (rowC A k).length = A.length := by unfold rowC; simp; omega
theorem rowC_zero (A : List Ch) : rowC A 0 = List.replicate A.length z0 := by simp [rowC]
theorem rowC_all (A : List Ch) (k : Nat) (h : A.length ≤ k) : rowC A k = A := by
  unfold rowC
  rw [List.take_of_length_le h, Nat.sub_eq_zero_of_le h]; simp
theorem rowC_set (A : List Ch) (k : Nat) (n : Ch) (h : A[k]? = some n) : (rowC A k).set k n = rowC A (k + 1) := by
  have hl : k < A.length := by
    rcases Nat.lt_or_ge k A.length with q | q
    · exact q
    · rw [List.getElem?_eq_none q] at h; cases h
  unfold rowC
  have hk : (A.take k).length = k := by rw [List.length_take]; omega
  rw [List.set_append, if_neg (by omega), hk, Nat.sub_self]
  obtain ⟨m, hm⟩ : ∃ m, A.length - k = m + 1 := ⟨A.length - k - 1, by omega⟩
  have hm' : A.length - (k + 1) = m := by omega
  rw [hm, hm', List.replicate_succ, List.set_cons_zero, List.take_add_one, h]
  simp

end Go.Proofs.YthnibchlgcgalaaGreatDoor
/-
  The walk of Pairs.
-/
namespace Go.Proofs.YthnibchlgcgalaaGreatDoor
open Go.RowKit
open Ed (Ch Run Pr)

theorem Tryz.infoPairT : (Tryz.prog.info? 66).map (fun i => (i.zero, i.size, i.bytes)) = some (some (.agg #[.int .i64 0, .int .i64 0]), 2, 16) := by kernel_rfl
abbrev OwnP (w : World) (B : Nat) (v : Value) (l : List Pr) : Prop := w.ownsRow B 66 2 v l.length (psC l)
/-- a variable in block g holds a row of pairs of the call's own -/
def PrAt (B g : Nat) (l : List Pr) (X : Nat → Prop) (w : World) : Prop :=
  ∃ v, w.heap[g]? = some (.cells #[v] 62) ∧ OwnP w B v l ∧ v.ownBlock ≠ some g ∧ B ≤ g ∧ X = fun k => k = g ∨ v.ownBlock = some k
theorem PrAt.later {B g : Nat} {l : List Pr} {X : Nat → Prop} {w w' : World} (h : PrAt B g l X w) (hb : Below w.heap.size w w') : PrAt B g l X w' := by
  obtain ⟨v, h1, h2, h3, h4, h5⟩ := h
  exact ⟨v, (hb.block g (lt_of_heap h1)).trans h1, own_stays h2 hb, h3, h4, h5⟩
theorem PrAt.in {B g : Nat} {l : List Pr} {X : Nat → Prop} {w : World} (h : PrAt B g l X w) : ∀ k, X k → B ≤ k ∧ k < w.heap.size := by
  obtain ⟨v, h1, h2, h3, h4, rfl⟩ := h
  intro k hk
  rcases hk with rfl | hk
  · exact ⟨h4, lt_of_heap h1⟩
  · exact ⟨own_ge h2 k hk, own_lt h2 k hk⟩
theorem rise_len {P : List Pr} {a b n m : Int} (h : Ed.rise P a b n m = true) (ha : a ≤ n) : (P.length : Int) ≤ n - a := by
  induction P generalizing a b with
  | nil => simp; omega
  | cons p P ih =>
    obtain ⟨hp, hr⟩ := Ed.rise_cons.1 h
    have := ih hr (by omega)
    rw [List.length_cons]
    push_cast
    omega
theorem exN_snoc (x y : Int) (i : Nat) : Ed.exN x y (i + 1) = Ed.exN x y i ++ [(x + i, y + i)] := by
  rw [Ed.exN_add]; rfl
/-- one more pair: what append leaves, stored -/
theorem PrAt.push {B g gg cap : Nat} {l : List Pr} {X : Nat → Prop} {p : Pr} {w0 w1 w2 : World} (h : PrAt B g l X w0) {v : Value} (hv : w0.heap[g]? = some (.cells #[v] 62)) (hb : Below w0.heap.size w0 w1) (hgrow : w1.grownBy w2 v.ownBlock) (hown : w2.ownsRow B 66 2 (.slice (some ⟨gg, 0, none⟩) (l.length + 1) cap) (l.length + 1) (psC l ++ [.int .i64 p.1, .int .i64 p.2])) (hat : v.ownBlock = some gg ∨ w0.heap.size ≤ gg) :
    (∃ X', PrAt B g (l ++ [p]) X' (w2.setCell ⟨g, 0, none⟩ (.slice (some ⟨gg, 0, none⟩) (l.length + 1) cap)) ∧ ∀ k, X' k → X k ∨ w0.heap.size ≤ k) ∧ Kept X w0 (w2.setCell ⟨g, 0, none⟩ (.slice (some ⟨gg, 0, none⟩) (l.length + 1) cap)) := by
  obtain ⟨v', h1, h2, h3, h4, rfl⟩ := h
  have e : v' = v := by
    rw [h1] at hv
    injection hv with hv
    injection hv with hv
    simpa using hv
  subst e
  have lg := lt_of_heap h1
  have hgg : gg ≠ g := by
    rcases hat with h | h
    · intro e; subst e; exact h3 h
    · omega
  have hg2 : w2.heap[g]? = some (.cells #[v'] 62) := (hgrow.block g (Nat.lt_of_lt_of_le lg hb.size) (Ne.symm h3)).trans ((hb.block g lg).trans h1)
  have hg3 := set_heap w2 g 0 _ _ (.slice (some ⟨gg, 0, none⟩) (l.length + 1) cap) hg2
  refine ⟨⟨_, ⟨.slice (some ⟨gg, 0, none⟩) (l.length + 1) cap, hg3, ?_, fun h => by cases h; exact hgg rfl, h4, rfl⟩, ?_⟩, ?_⟩
  · show World.ownsRow _ _ _ _ _ _ _
    rw [List.length_append, psC_append]
    exact own_far hown (fun k hk => by cases hk; exact set_other w2 hgg)
  · intro k hk
    rcases hk with rfl | hk
    · exact .inl (.inl rfl)
    · cases hk
      rcases hat with h | h
      · exact .inl (.inr h)
      · exact .inr h
  · refine ⟨?_, ?_, ?_, ?_, fun k hk hx => ?_⟩
    · exact (set_os _ _ _ _).trans (hgrow.os.trans hb.os)
    · exact (set_tape _ _ _ _).trans (hgrow.tape.trans hb.tape)
    · exact (set_output _ _ _ _).trans (hgrow.output.trans hb.output)
    · rw [set_size]; exact Nat.le_trans hb.size hgrow.size
    · have hkg : k ≠ g := fun e => hx (.inl e)
      have hkr : v'.ownBlock ≠ some k := fun e => hx (.inr e)
      rw [set_other w2 hkg, hgrow.block k (Nat.lt_of_lt_of_le hk hb.size) (Ne.symm hkr)]
      exact hb.block k hk
theorem Kept.step {X X' : Nat → Prop} {w w1 w2 : World} (h : Kept X w w1) (h' : Kept X' w1 w2) (hX : ∀ k, X' k → X k ∨ w.heap.size ≤ k) : Kept X w w2 :=
  ⟨h'.os.trans h.os, h'.tape.trans h.tape, h'.output.trans h.output, Nat.le_trans h.size h'.size, fun g hg hx => (h'.block g (Nat.lt_of_lt_of_le hg h.size) (fun hx' => by
    rcases hX g hx' with q | q
    · exact hx q
    · omega)).trans (h.block g hg hx)⟩

theorem exs_snoc (d : List Run) (r : Run) : Ed.exs (d ++ [r]) = Ed.exs d ++ Ed.ex r := by
  rw [Ed.exs_append]; simp [Ed.exs]
end Go.Proofs.YthnibchlgcgalaaGreatDoor
/-
  Normal and Pairs with Valid's error.
-/
namespace Go.Proofs.YthnibchlgcgalaaGreatDoor
open Go.RowKit
open Ed (Ch Run Pr)

/-- the normal script, the pairs, where s is a script -/
def nrmA (s : List Ch) (n m : Int) : List Ch := if Ed.validN s n m = 0 then Ed.normal s n m else []
def prsA (s : List Ch) (n m : Int) : List Pr := if Ed.validN s n m = 0 then Ed.prs s n 0 0 else []
end Go.Proofs.YthnibchlgcgalaaGreatDoor
/-
  The walk of the document's pairs.
-/
namespace Go.Proofs.YthnibchlgcgalaaGreatDoor
open Go.RowKit
open Ed (Ch Run Pr)

theorem wpList_append_pr {w : World} {ops : Array Oper} {rest : List Oper} {o : Oper} {a : Act} {Q : Exit → Act → World → Prop} (hgd : o.guard = none) (s x : Operand)
    (ho : o.op = .call { callee := .builtin .append, args := #[s, x], argTypes := #[62, 62] }) (B : Nat) (v : Value) (l : List Pr) (hs : a.eval s = v) (hown : OwnP w B v l)
    (g : Nat) (c : Pr) (hx : a.eval x = .slice (some ⟨g, 0, none⟩) 1 1) (hg : w.heap[g]? = some (.cells #[.int .i64 c.1, .int .i64 c.2] 66)) (hfit : l.length ≤ 1000000000) (hB : B ≤ w.heap.size)
    (h : ∀ v' w', OwnP w' B v' (l ++ [c]) → Below B w w' → wpList Tryz.prog ops Q rest (a.put o.dst v') w') : wpList Tryz.prog ops Q (o :: rest) a w := by
  obtain ⟨i0, hi, hz0, hz1, hz2⟩ := info_parts Tryz.infoPairT
  refine wpList_append_lies _ hgd s x 62 ho B 66 i0 (.agg #[.int .i64 0, .int .i64 0]) 2 16 Tryz.underlying62 hi hz0 hz1 hz2 rfl (by decide) v l.length (psC l) hs hown ⟨g, 0, none⟩ 1 1 (pC c) hx rfl ?_ ?_ (by decide) ?_ ?_ hB w.heap.size rfl ?_
  · exact World.news_of_block (cs := #[.int .i64 c.1, .int .i64 c.2]) hg
  · have := psC_one [c]
    simpa [psC] using this
  · unfold maxLen; omega
  · omega
  · intro g' cap w' g2 g3 _ _
    refine h _ w' ?_ ((Below.refl _ _).grown g3 hB (own_ge hown))
    show w'.ownsRow _ _ _ _ _ _
    rw [List.length_append, psC_append]
    have e : psC [c] = pC c := by simp [psC]
    rw [e]; exact g2
/-- the state of the document's loop -/
def RPr (w : World) (s : List Ch) (n m : Int) (k : Nat) (ca cb : Int) (vo : Value) (wr : World) : Prop :=
  ∃ l, OwnP wr w.heap.size vo l ∧ Below w.heap.size w wr ∧ ((k ≤ s.length ∧ 0 ≤ ca ∧ ca ≤ n ∧ 0 ≤ cb ∧ cb ≤ m ∧ Ed.val (s.drop k) ca cb n m = true ∧ Ed.prs s n 0 0 = l ++ Ed.prs (s.drop k) n ca cb) ∨ (k = s.length + 1 ∧ Ed.prs s n 0 0 = l))
/-- the state of the inner loop -/
def RIn (w : World) (l : List Pr) (ca cb : Int) (N i : Nat) (vo : Value) (wr : World) : Prop := OwnP wr w.heap.size vo (l ++ Ed.exN ca cb i) ∧ Below w.heap.size w wr ∧ i ≤ N

set_option maxHeartbeats 8000000 in
set_option maxRecDepth 100000 in
theorem refpairs_any {v : Value} {s : List Ch} {n m : Int} {w : World} (hr : RdC w v s) (hV : Ed.Val s n m) :
    Calls Tryz.prog 43 #[v, .int .i64 n] w fun e w' => ∃ v', e = .returned v' ∧ OwnP w' w.heap.size v' (Ed.prs s n 0 0) ∧ Below w.heap.size w w' := by
  have hl := Val_len hV
  obtain ⟨a, c, rfl⟩ := hr.shape
  have HR := hid hr
  obtain ⟨hn0, hn1⟩ := Ed.cnt_iff.1 hV.1
  obtain ⟨hm0, hm1⟩ := Ed.cnt_iff.1 hV.2.1
  have HPL : Hid ((Ed.prs s n 0 0).length ≤ 4194304) := hid (by have := rise_len hV.rise hn0; omega)
  have HV0 := hid hV.2.2
  clear hr hV
  go_enter Tryz.func43, Tryz.ntmps43
  go_wp2
  go_loopw [5, 6, 7, 8] (fun o x y i wr => ∃ (k : Nat) (ca cb : Int), i = .int .i64 k ∧ x = .int .i64 ca ∧ y = .int .i64 cb ∧ k ≤ s.length + 1 ∧ Hid (RPr w s n m k ca cb o wr)) (fun _ _ _ i _ => s.length + 1 - (intOf i).toNat)
  case atStart => exact ⟨0, 0, 0, rfl, rfl, rfl, by omega, [], World.ownsRow_nil _ _ _ _, Below.refl _ _, .inl ⟨Nat.zero_le _, by omega, hn0, by omega, hm0, HV0.out, rfl⟩⟩
  case round =>
    obtain ⟨k, ca, cb, rfl, rfl, rfl, hkP, HI⟩ := hrel
    obtain ⟨w1, rfl⟩ : ∃ w1, w1 = wr := ⟨_, rfl⟩
    obtain ⟨l, hO, hb, hcase⟩ := HI.out
    rcases hcase with ⟨hk, hca0, hca1, hcb0, hcb1, hval, eP⟩ | ⟨hk, eP⟩
    · have hle : (k : Int) ≤ (s.length : Int) := by omega
      have HO := hid hO
      have HB := hid hb
      have HVL := hid hval
      have HP := hid eP
      obtain ⟨ao, co, rfl⟩ := own_shape hO
      clear hO hb eP hval HI
      by_cases hlt : k < s.length
      · obtain ⟨x, hx⟩ : ∃ x, s[k]? = some x := ⟨_, List.getElem?_eq_getElem hlt⟩
        obtain ⟨b, o, rfl, hbl, _⟩ := rdC_at HR.out hx
        have HDR := hid (drop_at hx)
        have hval := HVL.out
        rw [HDR.out] at hval
        obtain ⟨⟨⟨p1, p2, p3⟩, ⟨p4, p5, p6⟩, _, p8⟩, hv2⟩ := Ed.val_cons.1 hval
        have HV2 := hid hv2
        have HP8 := hid p8
        obtain ⟨N, hN⟩ : ∃ N : Nat, (N : Int) = x.a - ca := ⟨(x.a - ca).toNat, by omega⟩
        have HN := hid hN
        have HP2 : Hid (Ed.prs s n 0 0 = (l ++ Ed.exN ca cb N) ++ Ed.prs (s.drop (k + 1)) n (x.a + x.n) (x.b + x.m)) := hid (by
          rw [HP.out, HDR.out, Ed.prs_cons, show (x.a - ca).toNat = N by omega, List.append_assoc])
        have HLN : Hid (l.length + N ≤ 4194304) := hid (by
          have h := HPL.out
          rw [HP2.out, List.length_append, List.length_append, Ed.exN_length] at h
          omega)
        have HX := hid hx
        obtain ⟨b', o', eb, _, c0, c1, c2, c3⟩ := rdC_at (HR.out.below HB.out) hx
        cases eb
        have i1 : (0 : Int) ≤ (k : Int) := by omega
        have i2 : (k : Int) < (s.length : Int) := by omega
        have hNN : (N : Int) ≤ 4194304 := by omega
        clear hx hval hv2 p8 hN HVL
        go_wp2
        go_loopw [5, 6, 7] (fun oo xx yy wr => ∃ i : Nat, xx = .int .i64 (ca + i) ∧ yy = .int .i64 (cb + i) ∧ i ≤ N ∧ Hid (RIn w l ca cb N i oo wr)) (fun _ xx _ _ => (x.a - intOf xx).toNat)
        case atStart => exact ⟨0, by simp, by simp, Nat.zero_le _, by show OwnP _ _ _ _; rw [show Ed.exN ca cb 0 = [] from rfl, List.append_nil]; exact HO.out, HB.out, Nat.zero_le _⟩
        case round =>
          obtain ⟨i, rfl, rfl, hi, HIn⟩ := hrel
          have HO2 := hid HIn.out.1
          have HB2 := hid HIn.out.2.1
          clear HIn
          by_cases hin : i < N
          · have g1 : ca + (i : Int) < x.a := by have := HN.out; omega
            have hfit : (l ++ Ed.exN ca cb i).length ≤ 1000000000 := by have h1 := HLN.out; rw [List.length_append, Ed.exN_length]; omega
            have HBN := hid ((Below.refl wr.heap.size wr).alloc (Nat.le_refl _) (.cells #[.int .i64 (ca + i), .int .i64 (cb + i)] 66))
            go_wp2_with (at_builtin; refine wpList_append_pr rfl _ _ rfl w.heap.size _ (l ++ Ed.exN ca cb i) rfl (own_stays HO2.out HBN.out) wr.heap.size (ca + i, cb + i) rfl (heap_alloc_new wr _) hfit (Nat.le_trans HB2.out.size HBN.out.size) ?_; intro v2 w2 hO3 hb3; have HO3 := hid hO3; have HB3 := hid ((HB2.out.trans (HBN.out.mono HB2.out.size)).trans hb3); clear hO3 hb3)
            go_roundw
            case rel => exact ⟨i + 1, by go_num, by go_num, by omega, by show OwnP _ _ _ _; rw [exN_snoc, ← List.append_assoc]; exact HO3.out, HB3.out, by omega⟩
            case measure => simp [intOf]; omega
          · have hiN : i = N := by omega
            have g1 : ¬ ca + (i : Int) < x.a := by have := HN.out; omega
            obtain ⟨b', o', eb, _, c0', c1', c2', c3'⟩ := rdC_at (HR.out.below HB2.out) HX.out
            cases eb
            have HE : Hid (OwnP wr w.heap.size _ (l ++ Ed.exN ca cb N)) := hid (by have h := HO2.out; rw [hiN] at h; exact h)
            clear hiN
            go_wp2
            go_quiet (fail)
            go_wp2
            go_quiet (fail)
            go_wp2
            go_roundw
            case rel => exact ⟨k + 1, x.a + x.n, x.b + x.m, by go_num, by go_num, by go_num, by omega, l ++ Ed.exN ca cb N, own_stays HE.out (by first | exact below_drewN (Below.refl _ _) _ | exact below_drewN (below_drewN (Below.refl _ _) _) _), by first | exact below_drewN HB2.out _ | exact below_drewN (below_drewN HB2.out _) _, .inl ⟨by omega, by omega, by omega, by omega, by omega, HV2.out, HP2.out⟩⟩
            case measure => simp [intOf]; omega
      · have hkk : s.drop k = [] := List.drop_eq_nil_of_le (by omega)
        have hval := HVL.out
        rw [hkk] at hval
        have hq : n - ca = m - cb := by simpa [Ed.val] using hval
        obtain ⟨N, hN⟩ : ∃ N : Nat, (N : Int) = n - ca := ⟨(n - ca).toNat, by omega⟩
        have HN := hid hN
        have HP2 : Hid (Ed.prs s n 0 0 = l ++ Ed.exN ca cb N) := hid (by rw [HP.out, hkk, Ed.prs_nil, show (n - ca).toNat = N by omega])
        have HLN : Hid (l.length + N ≤ 4194304) := hid (by
          have h := HPL.out
          rw [HP2.out, List.length_append, Ed.exN_length] at h
          omega)
        have i2 : ¬ (k : Int) < (s.length : Int) := by omega
        have hNN : (N : Int) ≤ 4194304 := by omega
        have HKL : Hid (k = s.length) := hid (by omega)
        clear hkk hval hq hN HVL
        go_wp2
        go_loopw [5, 6, 7] (fun oo xx yy wr => ∃ i : Nat, xx = .int .i64 (ca + i) ∧ yy = .int .i64 (cb + i) ∧ i ≤ N ∧ Hid (RIn w l ca cb N i oo wr)) (fun _ xx _ _ => (n - intOf xx).toNat)
        case atStart => exact ⟨0, by simp, by simp, Nat.zero_le _, by show OwnP _ _ _ _; rw [show Ed.exN ca cb 0 = [] from rfl, List.append_nil]; exact HO.out, HB.out, Nat.zero_le _⟩
        case round =>
          obtain ⟨i, rfl, rfl, hi, HIn⟩ := hrel
          have HO2 := hid HIn.out.1
          have HB2 := hid HIn.out.2.1
          clear HIn
          by_cases hin : i < N
          · have g1 : ca + (i : Int) < n := by have := HN.out; omega
            have hfit : (l ++ Ed.exN ca cb i).length ≤ 1000000000 := by have h1 := HLN.out; rw [List.length_append, Ed.exN_length]; omega
            have HBN := hid ((Below.refl wr.heap.size wr).alloc (Nat.le_refl _) (.cells #[.int .i64 (ca + i), .int .i64 (cb + i)] 66))
            go_wp2_with (at_builtin; refine wpList_append_pr rfl _ _ rfl w.heap.size _ (l ++ Ed.exN ca cb i) rfl (own_stays HO2.out HBN.out) wr.heap.size (ca + i, cb + i) rfl (heap_alloc_new wr _) hfit (Nat.le_trans HB2.out.size HBN.out.size) ?_; intro v2 w2 hO3 hb3; have HO3 := hid hO3; have HB3 := hid ((HB2.out.trans (HBN.out.mono HB2.out.size)).trans hb3); clear hO3 hb3)
            go_roundw
            case rel => exact ⟨i + 1, by go_num, by go_num, by omega, by show OwnP _ _ _ _; rw [exN_snoc, ← List.append_assoc]; exact HO3.out, HB3.out, by omega⟩
            case measure => simp [intOf]; omega
          · have hiN : i = N := by omega
            have g1 : ¬ ca + (i : Int) < n := by have := HN.out; omega
            have HE : Hid (OwnP wr w.heap.size _ (l ++ Ed.exN ca cb N)) := hid (by have h := HO2.out; rw [hiN] at h; exact h)
            clear hiN
            go_wp2
            go_roundw
            case rel => exact ⟨k + 1, ca + i, cb + i, by go_num, by go_num, by go_num, by omega, l ++ Ed.exN ca cb N, HE.out, HB2.out, .inr ⟨by have := HKL.out; omega, HP2.out⟩⟩
            case measure => simp [intOf]; omega
    · have hle : ¬ (k : Int) ≤ (s.length : Int) := by omega
      have HE : Hid (OwnP w1 w.heap.size _ (Ed.prs s n 0 0)) := hid (by rw [eP]; exact hO)
      have HB := hid hb
      clear hO hb eP HI
      go_wp2
      go_ret
      exact ⟨_, rfl, HE.out, HB.out⟩
end Go.Proofs.YthnibchlgcgalaaGreatDoor
/-
  The document's Pairs and Normal (Da without twin).
-/
namespace Go.Proofs.YthnibchlgcgalaaGreatDoor
open Go.RowKit
open Ed (Ch Run Pr)

set_option maxHeartbeats 1000000 in
theorem refPairs_all {v : Value} {s : List Ch} {n m : Int} {w : World} (hr : RdC w v s) (hwf : ∀ c ∈ s, WfC c) (hl : s.length ≤ 10000000000000) :
    Calls Tryz.prog 19 #[v, .int .i64 n, .int .i64 m] w fun e w' => ∃ v', e = .returned (.tuple #[v', .int .i64 (Ed.validN s n m)]) ∧ OwnP w' w.heap.size v' (prsA s n m) ∧ Below w.heap.size w w' := by
  have HC := hid (refValid_any (n := n) (m := m) hr hwf hl)
  have HR := hid hr
  obtain ⟨a, c, rfl⟩ := hr.shape
  by_cases hk : Ed.validN s n m = 0
  · have e : prsA s n m = Ed.prs s n 0 0 := by unfold prsA; rw [if_pos hk]
    have HV := hid (Ed.validN_zero.1 hk)
    rw [e]
    rw [hk] at HC ⊢
    clear hr hwf e hk
    go_enter Tryz.func19, Tryz.ntmps19
    go_wp2_with fail
    refine HC.out.mono ?_
    rintro e w1 ⟨rfl, hb1⟩
    have HB := hid hb1
    clear hb1
    go_wp2_with fail
    refine (refpairs_any (HR.out.below HB.out) HV.out).mono ?_
    rintro e w2 ⟨v2, rfl, hO2, hb2⟩
    have HO2 : Hid (OwnP w2 w.heap.size v2 (Ed.prs s n 0 0)) := hid (own_mono hO2 HB.out.size)
    have HB2 := hid (HB.out.trans (hb2.mono HB.out.size))
    clear hO2 hb2
    go_wp2
    go_ret2
    exact ⟨_, rfl, HO2.out, HB2.out⟩
  · have e : prsA s n m = [] := by unfold prsA; rw [if_neg hk]
    rw [e]
    generalize Ed.validN s n m = k at HC hk
    have hz : ((k : Int) == 0) = false := ine (by omega)
    clear hr hwf e hk
    go_enter Tryz.func19, Tryz.ntmps19
    go_wp2_with fail
    refine HC.out.mono ?_
    rintro e w1 ⟨rfl, hb1⟩
    have HB := hid hb1
    clear hb1
    go_wp2
    go_ret2
    exact ⟨_, rfl, World.ownsRow_nil _ _ _ _, HB.out⟩
set_option maxHeartbeats 1000000 in
theorem refNormal_all {v : Value} {s : List Ch} {n m : Int} {w : World} (hr : RdC w v s) (hwf : ∀ c ∈ s, WfC c) (hl : s.length ≤ 10000000000000) :
    Calls Tryz.prog 18 #[v, .int .i64 n, .int .i64 m] w fun e w' => ∃ v', e = .returned (.tuple #[v', .int .i64 (Ed.validN s n m)]) ∧ OwnC w' w.heap.size v' (nrmA s n m) ∧ Below w.heap.size w w' := by
  have HC := hid (refValid_any (n := n) (m := m) hr hwf hl)
  have HR := hid hr
  obtain ⟨a, c, rfl⟩ := hr.shape
  by_cases hk : Ed.validN s n m = 0
  · have e : nrmA s n m = Ed.normal s n m := by unfold nrmA; rw [if_pos hk]
    have HV := hid (Ed.validN_zero.1 hk)
    have hpl := rise_len HV.out.rise (Ed.cnt_iff.1 HV.out.1).1
    have hn := Ed.cnt_iff.1 HV.out.1
    have hm := Ed.cnt_iff.1 HV.out.2.1
    have HWP : Hid (∀ p ∈ Ed.prs s n 0 0, WfP p) := hid (fun p hp => by
      have := (Ed.rise_iff.1 HV.out.rise).2 p hp
      unfold Ed.inB at this
      unfold WfP I64
      omega)
    rw [e]
    rw [hk] at HC ⊢
    clear hr hwf e hk
    go_enter Tryz.func18, Tryz.ntmps18
    go_wp2_with fail
    refine HC.out.mono ?_
    rintro e w1 ⟨rfl, hb1⟩
    have HB := hid hb1
    clear hb1
    go_wp2_with fail
    refine (refpairs_any (HR.out.below HB.out) HV.out).mono ?_
    rintro e w2 ⟨v2, rfl, hO2, hb2⟩
    have HB2 := hid (HB.out.trans (hb2.mono HB.out.size))
    have HOF := hid (refOf_any (n := n) (m := m) (own_rd hO2) HWP.out (by omega) HV.out.1 HV.out.2.1)
    obtain ⟨a2, c2, e2⟩ := own_shape hO2
    subst e2
    clear hO2 hb2
    go_wp2_with fail
    refine HOF.out.mono ?_
    rintro e w3 ⟨⟨h0, _⟩ | ⟨_, v3, rfl, hO3⟩, hb3⟩
    · rw [HV.out.rise] at h0; cases h0
    have HO3 : Hid (OwnC w3 w.heap.size v3 (Ed.normal s n m)) := hid (by rw [Ed.normal_eq]; exact own_mono hO3 HB2.out.size)
    have HB3 := hid (HB2.out.trans (hb3.mono HB2.out.size))
    clear hO3 hb3
    go_wp2
    go_ret2
    exact ⟨_, rfl, HO3.out, HB3.out⟩
  · have e : nrmA s n m = [] := by unfold nrmA; rw [if_neg hk]
    rw [e]
    generalize Ed.validN s n m = k at HC hk
    have hz : ((k : Int) == 0) = false := ine (by omega)
    clear hr hwf e hk
    go_enter Tryz.func18, Tryz.ntmps18
    go_wp2_with fail
    refine HC.out.mono ?_
    rintro e w1 ⟨rfl, hb1⟩
    have HB := hid hb1
    clear hb1
    go_wp2
    go_ret2
    exact ⟨_, rfl, World.ownsRow_nil _ _ _ _, HB.out⟩
end Go.Proofs.YthnibchlgcgalaaGreatDoor
