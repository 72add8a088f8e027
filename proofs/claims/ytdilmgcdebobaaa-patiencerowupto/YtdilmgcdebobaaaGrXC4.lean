/-
  Several texts in one: XC4, XD1.
-/
import Derived.Test.YtdilmgcdebobaaaXC3
/-
  The walks of (*writer).ended and Normal.
-/
namespace Go.Proofs.Ytdilmgcdebobaaa.Cx
open Go.RowKit
open Ed (Ch Run Pr)

theorem val_len {s : List Ch} {a b n m : Int} (h : Ed.val s a b n m = true) (ha : a ≤ n) (hb : b ≤ m) : (s.length : Int) ≤ (n - a) + (m - b) := by
  induction s generalizing a b with
  | nil => simp; omega
  | cons c r ih =>
    obtain ⟨⟨h1, h2, h3, h4⟩, hr⟩ := Ed.val_cons.1 h
    have := ih hr (by omega) (by omega)
    rw [List.length_cons]
    push_cast
    omega
theorem Val_len {s : List Ch} {n m : Int} (h : Ed.Val s n m) : s.length ≤ 8388608 := by
  have hn := Ed.cnt_iff.1 h.1
  have hm := Ed.cnt_iff.1 h.2.1
  have := val_len h.2.2 hn.1 hm.1
  omega
theorem run1_len (a b k : Int) : (Ed.run1 a b k).length ≤ 1 := by
  unfold Ed.run1; split <;> simp
theorem runs_len : ∀ (s : List Ch) (n a b : Int), (Ed.runs s n a b).length ≤ s.length + 1
  | [], n, a, b => run1_len _ _ _
  | c :: r, n, a, b => by
    rw [Ed.runs, List.length_append, List.length_cons]
    have h1 := run1_len a b (c.a - a)
    have h2 := runs_len r n (c.a + c.n) (c.b + c.m)
    omega
theorem gap_len (a b x y : Int) : (Ed.gap a b x y).length ≤ 1 := by
  unfold Ed.gap; split <;> simp
theorem stay_len : ∀ (d : List Run) (st : WS), (d.foldl stayP st).1.length ≤ st.1.length + d.length
  | [], st => Nat.le_refl _
  | r :: d, st => by
    rw [List.foldl_cons, List.length_cons]
    have h1 := stay_len d (stayP st r)
    have h2 := gap_len st.2.1 st.2.2 r.1 r.2.1
    have h3 : (stayP st r).1.length = st.1.length + (Ed.gap st.2.1 st.2.2 r.1 r.2.1).length := by unfold stayP; rw [List.length_append]
    omega
theorem wrC_len (d : List Run) : (wrC d).1.length ≤ d.length := by
  have := stay_len d ([], 0, 0)
  simpa [wrC] using this

set_option maxHeartbeats 1000000 in
theorem ended_any {B g : Nat} {st : WS} {X : Nat → Prop} {n m : Int} {w : World} (hW : WrAt B g st X w) (hl : st.1.length ≤ 1000000000) (hB : B ≤ w.heap.size) (ha : 0 ≤ st.2.1) (hb : 0 ≤ st.2.2) (h4 : st.2.1 ≤ 100000000) (h5 : st.2.2 ≤ 100000000) (hn : 0 ≤ n) (hm : 0 ≤ m) (h1 : n ≤ 4194304) (h2 : m ≤ 4194304) :
    Calls Try.prog 60 #[.pointer (some ⟨g, 0, none⟩), .int .i64 n, .int .i64 m] w fun e w' => ∃ v, e = .returned v ∧ OwnC w' B v (stayP st (n, m, 0)).1 ∧ Kept X w w' := by
  have HC := hid (stay_any (r := (n, m, 0)) hW hl hB ha hb hn hm (Int.le_refl _) h1 h2 (by simp only; omega) h4 h5)
  unfold rV at HC
  clear hW
  go_enter Try.func60, Try.ntmps60
  go_wp2_with fail
  refine HC.out.mono ?_
  rintro e w1 ⟨rfl, hK, X', v, hg, hO, hne, hBg, _⟩
  have k0 : w1.cell? ⟨g, 0, none⟩ = some v := cell_of_blk hg 0
  have HO := hid hO
  have HK := hid hK
  clear hO hK hg HC
  go_wp2
  go_ret
  exact ⟨v, rfl, HO.out, HK.out⟩

/-- what Normal's function keeps -/
def NrI (B g : Nat) (N : Int) (d : List Run) (X : Nat → Prop) (w : World) : Prop := WrAt B g (wrC d) X w ∧ 0 ≤ (wrC d).2.1 ∧ (wrC d).2.1 ≤ N ∧ 0 ≤ (wrC d).2.2 ∧ (wrC d).2.2 ≤ N
theorem runB_le {n m : Int} {r : Run} (h : RunB n m r) (hn : n ≤ 4194304) (hm : m ≤ 4194304) : 0 ≤ r.1 ∧ r.1 ≤ 4194304 ∧ 0 ≤ r.2.1 ∧ r.2.1 ≤ 4194304 ∧ 0 ≤ r.2.2 ∧ r.2.2 ≤ 4194304 := by
  obtain ⟨h1, h2, h3, h4, h5⟩ := h; omega
theorem NrI.next {B g : Nat} {n m : Int} {d : List Run} {r : Run} {X' : Nat → Prop} {w : World} (h : WrAt B g (stayP (wrC d) r) X' w) (hr : RunB n m r) (hn : n ≤ 4194304) (hm : m ≤ 4194304) : NrI B g 4194304 (d ++ [r]) X' w := by
  unfold NrI
  rw [wrC_snoc]
  obtain ⟨h1, h2, h3, h4, h5⟩ := hr
  refine ⟨h, ?_, ?_, ?_, ?_⟩ <;> (unfold stayP; simp only; omega)

end Go.Proofs.Ytdilmgcdebobaaa.Cx
/-
  The walk of Of.
-/
namespace Go.Proofs.Ytdilmgcdebobaaa.Cx
open Go.RowKit
open Ed (Ch Run Pr)

def toR (p : Pr) : Run := (p.1, p.2, 1)
def WfP (p : Pr) : Prop := I64 p.1 ∧ I64 p.2
def ofN (P : List Pr) (n m : Int) : Nat := if Ed.cnt n && Ed.cnt m then (if Ed.rise P 0 0 n m then 0 else 60) else 1
theorem ofR_pairs (P : List Pr) : ∀ a b n m : Int, Ed.ofR (P.map toR) a b n m = Ed.ofL P a b n m := by
  induction P with
  | nil => intro a b n m; rfl
  | cons p P ih =>
    intro a b n m
    rw [List.map_cons, Ed.ofR, Ed.ofL, ih]
    rfl
theorem take_map {P : List Pr} {k : Nat} {p : Pr} (h : P[k]? = some p) : (P.take (k + 1)).map toR = (P.take k).map toR ++ [toR p] := by
  rw [List.take_add_one, h]; simp
/-- the writer after k pairs -/
def OfI (B g : Nat) (P : List Pr) (n m : Int) (k : Nat) (a b : Int) (w : World) : Prop :=
  (∃ X, WrAt B g (wrC ((P.take k).map toR)) X w) ∧ (wrC ((P.take k).map toR)).2.1 = a ∧ (wrC ((P.take k).map toR)).2.2 = b ∧ Ed.rise P 0 0 n m = Ed.rise (P.drop k) a b n m

set_option maxHeartbeats 4000000 in
set_option maxRecDepth 100000 in
theorem of_any {v : Value} {P : List Pr} {n m : Int} {w : World} (hr : RdP w v P) (hwf : ∀ p ∈ P, WfP p) (hl : P.length ≤ 10000000000000) (hcn : Ed.cnt n = true) (hcm : Ed.cnt m = true) :
    Calls Try.prog 45 #[v, .int .i64 n, .int .i64 m] w fun e w' => (Ed.rise P 0 0 n m = false ∧ e = .returned (.tuple #[.slice none 0 0, errV 60]) ∨ Ed.rise P 0 0 n m = true ∧ ∃ v', e = .returned (.tuple #[v', .nilIface]) ∧ OwnC w' w.heap.size v' (Ed.ofL P 0 0 n m)) ∧ Below w.heap.size w w' := by
  obtain ⟨a, c, rfl⟩ := hr.shape
  have HR := hid hr
  have HWF := hid hwf
  clear hr hwf
  obtain ⟨hn0, hn1⟩ := Ed.cnt_iff.1 hcn
  obtain ⟨hm0, hm1⟩ := Ed.cnt_iff.1 hcm
  have hg1 := heap_alloc_new w (.cells #[.slice none 0 0, .int .i64 0, .int .i64 0] 97)
  have hb2 : Below w.heap.size w (w.alloc (.cells #[.slice none 0 0, .int .i64 0, .int .i64 0] 97)) := (Below.refl _ _).alloc (Nat.le_refl _) _
  have HI0 : Hid (OfI w.heap.size w.heap.size P n m 0 0 0 (w.alloc (.cells #[.slice none 0 0, .int .i64 0, .int .i64 0] 97))) := hid ⟨⟨_, _, hg1, World.ownsRow_nil _ _ _ _, (by intro h; cases h), Nat.le_refl _, rfl⟩, rfl, rfl, rfl⟩
  have HB2 := hid hb2
  clear hg1 hb2
  go_enter Try.func45, Try.ntmps45
  go_wp2_with fail
  refine (isCount_any n _).mono ?_
  rintro e w1 ⟨rfl, rfl⟩
  rw [hcn]
  go_wp2_with fail
  refine (isCount_any m _).mono ?_
  rintro e w1 ⟨rfl, rfl⟩
  rw [hcm]
  clear hcn hcm
  go_wp2
  go_loopw [22] (fun i wr => ∃ (k : Nat) (ca cb : Int), k ≤ P.length ∧ i = .int .i64 k ∧ (k : Int) ≤ ca ∧ 0 ≤ ca ∧ ca ≤ n ∧ 0 ≤ cb ∧ cb ≤ m ∧ Hid (OfI w.heap.size w.heap.size P n m k ca cb wr) ∧ Below w.heap.size w wr) (fun i _ => P.length - (intOf i).toNat)
  case atStart => exact ⟨0, 0, 0, Nat.zero_le _, rfl, by omega, by omega, by omega, by omega, by omega, HI0, HB2.out⟩
  case round =>
    obtain ⟨k, ca, cb, hk, rfl, hka, hca0, hca1, hcb0, hcb1, HI, hb⟩ := hrel
    have hlen : (wrC ((P.take k).map toR)).1.length ≤ 1000000000 := by
      have := wrC_len ((P.take k).map toR)
      rw [List.length_map, List.length_take] at this
      omega
    by_cases hlt : k < P.length
    · obtain ⟨x, hx⟩ : ∃ x, P[k]? = some x := ⟨_, List.getElem?_eq_getElem hlt⟩
      obtain ⟨⟨wa1, wa2⟩, ⟨wb1, wb2⟩⟩ := HWF.out x (List.mem_of_getElem? hx)
      obtain ⟨b, o, rfl, hblt, c0, c1⟩ := rdP_at (HR.out.below hb) hx
      obtain ⟨⟨X, vv, hg, hO, hne, hBg, hX⟩, ea, eb, er⟩ := HI.out
      have g1 : wr.cell? ⟨w.heap.size, 1, none⟩ = some (.int .i64 ca) := by rw [← ea]; exact cell_of_blk hg 1
      have g2 : wr.cell? ⟨w.heap.size, 2, none⟩ = some (.int .i64 cb) := by rw [← eb]; exact cell_of_blk hg 2
      have hglt := lt_of_heap hg
      have hbA := (Below.refl wr.heap.size wr).alloc (Nat.le_refl _) (.cells #[.int .i64 x.1, .int .i64 x.2] 27)
      have hBA := hb.alloc hb.size (.cells #[.int .i64 x.1, .int .i64 x.2] 27)
      have HBA := hid hBA
      have HW1 := hid (WrAt.later ⟨vv, hg, hO, hne, hBg, hX⟩ hbA)
      have CW1 := hid (fun w' => isWithin_any x.1 1 ca n w' ⟨wa1, wa2⟩ hca0 hn0 hn1)
      have CW2 := hid (fun w' => isWithin_any x.2 1 cb m w' ⟨wb1, wb2⟩ hcb0 hm0 hm1)
      have HER : Hid (Ed.rise P 0 0 n m = (decide ((ca ≤ x.1 ∧ x.1 < n) ∧ cb ≤ x.2 ∧ x.2 < m) && Ed.rise (P.drop (k + 1)) (x.1 + 1) (x.2 + 1) n m)) := hid (by rw [er, drop_at hx]; rfl)
      have HTM := hid (take_map hx)
      have hwx : Hid (wrC ((P.take (k + 1)).map toR) = stayP (wrC ((P.take k).map toR)) (toR x)) := hid (by rw [HTM.out, wrC_snoc])
      have HEA := hid ea
      have HEB := hid eb
      clear hg hO hne hX ea eb er hx hbA hBA hb HI HTM
      by_cases hok : (ca ≤ x.1 ∧ x.1 < n) ∧ cb ≤ x.2 ∧ x.2 < m
      · have HER2 : Hid (Ed.rise P 0 0 n m = Ed.rise (P.drop (k + 1)) (x.1 + 1) (x.2 + 1) n m) := hid (by rw [HER.out, decide_eq_true hok]; rfl)
        obtain ⟨⟨p1, p2⟩, p3, p4⟩ := hok
        have hw1 : Ed.within x.1 1 ca n = true := Ed.within_iff.2 ⟨p1, by omega, by omega⟩
        have hw2 : Ed.within x.2 1 cb m = true := Ed.within_iff.2 ⟨p3, by omega, by omega⟩
        have HS := hid (stay_any (r := toR x) HW1.out hlen HBA.out.size (by rw [HEA.out]; exact hca0) (by rw [HEB.out]; exact hcb0) (by show 0 ≤ x.1; omega) (by show 0 ≤ x.2; omega) (by show (0 : Int) ≤ 1; omega) (by show x.1 ≤ 4194304; omega) (by show x.2 ≤ 4194304; omega) (by show (1 : Int) ≤ 4194304; omega) (by rw [HEA.out]; omega) (by rw [HEB.out]; omega))
        have HIN := hid HW1.out.in
        unfold rV toR at HS
        clear HW1 hlen HER
        go_wp2_with fail
        refine (CW1.out _).mono ?_
        rintro e w2 ⟨rfl, rfl⟩
        rw [hw1]
        go_wp2_with fail
        refine (CW2.out _).mono ?_
        rintro e w2 ⟨rfl, rfl⟩
        rw [hw2]
        go_wp2_with fail
        refine HS.out.mono ?_
        rintro e w3 ⟨rfl, hK, X', hW'⟩
        have HB3 := hid (HBA.out.trans (hK.below (fun j hj => (HIN.out j hj).1) HBA.out.size))
        have HI3 : Hid (OfI w.heap.size w.heap.size P n m (k + 1) (x.1 + 1) (x.2 + 1) w3) := hid ⟨⟨X', by rw [hwx.out]; exact hW'⟩, by rw [hwx.out]; rfl, by rw [hwx.out]; rfl, HER2.out⟩
        clear hK hW' HS
        go_wp2
        go_roundw
        case rel => exact ⟨k + 1, x.1 + 1, x.2 + 1, by omega, by go_num, by omega, by omega, by omega, by omega, by omega, HI3, HB3.out⟩
        case measure => simp [intOf]; omega
      · have HER2 : Hid (Ed.rise P 0 0 n m = false) := hid (by rw [HER.out, decide_eq_false hok]; rfl)
        cases hw1 : Ed.within x.1 1 ca n with
        | false =>
          clear hok
          go_wp2_with fail
          refine (CW1.out _).mono ?_
          rintro e w2 ⟨rfl, rfl⟩
          rw [hw1]
          go_wp2
          go_ret2
          exact ⟨.inl ⟨HER2.out, rfl⟩, HBA.out⟩
        | true =>
          cases hw2 : Ed.within x.2 1 cb m with
          | true =>
            have q1 := Ed.within_iff.1 hw1
            have q2 := Ed.within_iff.1 hw2
            exact absurd (by omega) hok
          | false =>
            clear hok
            go_wp2_with fail
            refine (CW1.out _).mono ?_
            rintro e w2 ⟨rfl, rfl⟩
            rw [hw1]
            go_wp2_with fail
            refine (CW2.out _).mono ?_
            rintro e w2 ⟨rfl, rfl⟩
            rw [hw2]
            go_wp2
            go_ret2
            exact ⟨.inl ⟨HER2.out, rfl⟩, HBA.out⟩
    · have hkk : P.drop k = [] := List.drop_eq_nil_of_le (by omega)
      have hkt : P.take k = P := List.take_of_length_le (by omega)
      obtain ⟨⟨X, hW⟩, ea, eb, er⟩ := HI.out
      have HER2 : Hid (Ed.rise P 0 0 n m = true) := hid (by rw [er, hkk]; rfl)
      have HIN := hid hW.in
      have HE := hid (ended_any (n := n) (m := m) hW hlen hb.size (by rw [ea]; exact hca0) (by rw [eb]; exact hcb0) (by rw [ea]; omega) (by rw [eb]; omega) hn0 hm0 hn1 hm1)
      have HKT := hid hkt
      have HB := hid hb
      clear hW ea eb er hkk hkt HI hlen hb
      go_wp2_with fail
      refine HE.out.mono ?_
      rintro e w3 ⟨v', rfl, hO, hK⟩
      have HO : Hid (OwnC w3 w.heap.size v' (Ed.ofL P 0 0 n m)) := hid (by
        have h := hO
        rw [wrC_ended, HKT.out, ofR_pairs] at h
        exact h)
      have HB4 := hid (HB.out.trans (hK.below (fun j hj => (HIN.out j hj).1) HB.out.size))
      clear hO hK HE
      go_wp2
      go_ret2
      exact ⟨.inr ⟨HER2.out, v', rfl, HO.out⟩, HB4.out⟩
end Go.Proofs.Ytdilmgcdebobaaa.Cx
