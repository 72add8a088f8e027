/-
  Several texts in one: Jd, Je.
-/
import Derived.Test.YtddmfdjkkikapaaGreatDoorJb
import Derived.Test.YtddmfdjkkikapaaGreatDoorGrPl
import Derived.Test.YtddmfdjkkikapaaGreatDoorGrD5
/-
  The walks of endsFit and Build.
-/
namespace Go.Proofs.YtddmfdjkkikapaaGreatDoor
open Go.RowKit
open Hu (Rw Hk)
open Ed (Ch)

theorem rdC_sliced {w : World} {a : Option Addr} {c : Nat} {l : List Ch} (h : RdC w (.slice a l.length c) l) {x y : Nat} (hxy : x ≤ y) (hy : y ≤ l.length) :
    RdC w (.slice (if c = x then a else a.map (·.add (x * 4))) (y - x) (c - x)) ((l.drop x).take (y - x)) := by
  have hlen : ((l.drop x).take (y - x)).length = y - x := by rw [List.length_take, List.length_drop]; omega
  show RdX _ _ _ _
  rw [hlen]
  rcases Nat.eq_or_lt_of_le hxy with rfl | hlt
  · rw [Nat.sub_self]
    exact .inl ⟨rfl, _, _, rfl⟩
  · rcases h with ⟨hn, _⟩ | ⟨b, o, c', hv, hc, hb, hX⟩
    · omega
    · cases hv
      rw [if_neg (by omega)]
      refine .inr ⟨b, o + x * 4, c - x, ?_, by omega, hb, fun j u hj => ?_⟩
      · show Value.slice (some ((⟨b, o, none⟩ : Addr).add (x * 4))) _ _ = _
        rw [Go.WideShapes.add_plain]
      · have hj' : (csC l)[x * 4 + j]? = some u := by
          have hjl : j < (csC ((l.drop x).take (y - x))).length := (List.getElem?_eq_some_iff.1 hj).1
          rw [csC_length, hlen] at hjl
          have hk : j / 4 < y - x := by omega
          obtain ⟨r, hr⟩ : ∃ r, l[x + j / 4]? = some r := ⟨_, List.getElem?_eq_getElem (by omega)⟩
          have h1 := csC_get hr (j % 4) (Nat.mod_lt _ (by omega))
          have h2 := csC_get (l := (l.drop x).take (y - x)) (k := j / 4) (c := r) (by rw [List.getElem?_take, if_pos hk, List.getElem?_drop]; exact hr) (j % 4) (Nat.mod_lt _ (by omega))
          rw [show j / 4 * 4 + j % 4 = j by omega] at h2
          rw [show (x + j / 4) * 4 + j % 4 = x * 4 + j by omega] at h1
          rw [h1, ← h2]
          exact hj
        have := hX (x * 4 + j) u hj'
        rw [Nat.add_assoc]; exact this
theorem getD_at {a : List ByteArray} {k : Nat} {x : ByteArray} (h : a[k]? = some x) : a.getD k .empty = x := by rw [List.getD_eq_getElem?_getD, h]; rfl
set_option maxHeartbeats 4000000 in
set_option maxRecDepth 100000 in
/-- the last test of endsFit, wherever it is asked -/
theorem ends_zero {a b : List ByteArray} {y : Int} : Hu.ends2 a b (0, y) = true := rfl
theorem ends_at {a b : List ByteArray} {X Y : Nat} {p q : ByteArray} (hp : a[X]? = some p) (hq : b[Y]? = some q) : Hu.ends2 a b ((X : Int) + 1, (Y : Int) + 1) = (Hu.whT p == Hu.whT q) := by
  unfold Hu.ends2
  dsimp only
  rw [if_neg (by omega), show ((X : Int) + 1 - 1).toNat = X by omega, show ((Y : Int) + 1 - 1).toNat = Y by omega, getD_at hp, getD_at hq]
set_option maxHeartbeats 4000000 in
set_option maxRecDepth 100000 in
theorem endsFit_any {w : World} {v va vb : Value} {t : List Ch} {a b : List ByteArray} (hv : RdC w v t) (ha : RdT w va a) (hb : RdT w vb b) (hV : Ed.Val t a.length b.length) (hap : Ed.apart t) (hsa : ∀ x ∈ a, x.size ≤ maxLen) (hsb : ∀ x ∈ b, x.size ≤ maxLen) :
    Calls Tryz.prog 28 #[v, va, vb] w fun e w' => e = .returned (.bool (Hu.endsP t a b)) ∧ Below w.heap.size w w' := by
  obtain ⟨av, cv, rfl⟩ := hv.shape
  obtain ⟨aa, ca, rfl⟩ := ha.shape
  obtain ⟨ab, cb, rfl⟩ := hb.shape
  have HV := hid hv
  have HA := hid ha
  have HBb := hid hb
  have HSA := hid hsa
  have HSB := hid hsb
  have HPI := hid (Hu.endPt_in hV hap)
  have hn := Ed.cnt_iff.1 hV.1
  have hm := Ed.cnt_iff.1 hV.2.1
  have htl := Val_len hV
  have HE : Hid (Hu.endsP t a b = Hu.ends2 a b (Hu.endPt t a.length b.length)) := hid rfl
  rw [HE.out]
  obtain ⟨na, hna⟩ : ∃ na, na = a.length := ⟨_, rfl⟩
  obtain ⟨nb, hnb⟩ : ∃ nb, nb = b.length := ⟨_, rfl⟩
  have HNA := hid hna
  have HNB := hid hnb
  rw [← hna] at HA hn HPI ⊢
  rw [← hnb] at HBb hm HPI ⊢
  -- the last test, at any place
  have TAIL : Hid (∀ (X Y : Int) (P : Int × Int), P = (X, Y) → 0 ≤ X → X ≤ na → 0 ≤ Y → Y ≤ nb → (X ≠ 0 → 1 ≤ Y) → X = 0 ∨ ∃ (x y : Nat) (p q : ByteArray) (b1 o1 b2 o2 : Nat), X = (x : Int) + 1 ∧ Y = (y : Int) + 1 ∧ x < na ∧ y < nb ∧ aa = some ⟨b1, o1, none⟩ ∧ ab = some ⟨b2, o2, none⟩ ∧ w.cell? ⟨b1, o1 + x, none⟩ = some (.string p) ∧ w.cell? ⟨b2, o2 + y, none⟩ = some (.string q) ∧ p.size ≤ maxLen ∧ q.size ≤ maxLen ∧ Hu.ends2 a b P = (Hu.whT p == Hu.whT q)) := hid (by
    intro X Y P hP h1 h2 h3 h4 h5
    by_cases h0 : X = 0
    · exact .inl h0
    · have h6 := h5 h0
      obtain ⟨x, hx⟩ := Int.eq_ofNat_of_zero_le (a := X - 1) (by omega)
      obtain ⟨y, hy⟩ := Int.eq_ofNat_of_zero_le (a := Y - 1) (by omega)
      obtain ⟨p, hp⟩ : ∃ p, a[x]? = some p := ⟨_, List.getElem?_eq_getElem (by omega)⟩
      obtain ⟨q, hq⟩ : ∃ q, b[y]? = some q := ⟨_, List.getElem?_eq_getElem (by omega)⟩
      obtain ⟨b1, o1, e1, _, k1⟩ := rdT_at ha hp
      obtain ⟨b2, o2, e2, _, k2⟩ := rdT_at hb hq
      refine .inr ⟨x, y, p, q, b1, o1, b2, o2, by omega, by omega, by omega, by omega, e1, e2, k1, k2, hsa p (List.mem_of_getElem? hp), hsb q (List.mem_of_getElem? hq), ?_⟩
      rw [hP, show X = (x : Int) + 1 by omega, show Y = (y : Int) + 1 by omega]
      exact ends_at hp hq)
  have HLD : Hid (∀ d, t.getLast? = some d → 0 ≤ d.a ∧ 0 ≤ d.n ∧ 0 ≤ d.b ∧ d.a + d.n ≤ 4194304 ∧ d.b ≤ 4194304) := hid (fun d hd => by
    have h := (Hu.last_pt t 0 0 a.length b.length hV.2.2 hap (by omega) (by omega) (by omega) (by omega) d hd).1
    omega)
  clear hv ha hb hV hap hsa hsb hna hnb HE
  cases hlst : t.getLast? with
  | none =>
    have e : t = [] := List.getLast?_eq_none_iff.1 hlst
    have hP : Hu.endPt t na nb = ((na : Int), (nb : Int)) := by unfold Hu.endPt; rw [hlst]
    have h0 : t.length = 0 := by rw [e]; rfl
    rw [hP] at HPI ⊢
    obtain ⟨q1, q2, q3, q4, q5⟩ := HPI.out
    rw [h0]
    have HT := hid (TAIL.out na nb _ rfl q1 q2 q3 q4 q5)
    clear hP e hlst HPI TAIL q1 q2 q3 q4 q5 h0
    rcases HT.out with hz | ⟨x, y, p, q, b1, o1, b2, o2, e1, e2, hxa, hyb, rfl, rfl, k1, k2, sp, sq, he⟩
    · have z0 : ((na : Int) == 0) = true := zeq hz
      have HZ : Hid (Hu.ends2 a b ((na : Int), (nb : Int)) = true) := hid (by unfold Hu.ends2; rw [if_pos hz])
      clear hz
      go_enter Tryz.func28, Tryz.ntmps28
      go_wp2_with fail
      go_quiet (fail)
      go_wp2_with fail
      go_quiet (fail)
      go_wp2_with fail
      go_ret
      exact ⟨by rw [HZ.out]; rfl, below_drewN (below_drewN (Below.refl _ _) _) _⟩
    · have z0 : ((na : Int) == 0) = false := zne (by omega)
      have t1 : IntKind.i64.wrap ((na : Int) - 1) = (x : Int) := (wrapOk (by omega) (by omega)).trans (by omega)
      have t2 : IntKind.i64.wrap ((nb : Int) - 1) = (y : Int) := (wrapOk (by omega) (by omega)).trans (by omega)
      have u1 : (0 : Int) ≤ (x : Int) := by omega
      have u2 : (x : Int) < (na : Int) := by omega
      have u3 : (0 : Int) ≤ (y : Int) := by omega
      have u4 : (y : Int) < (nb : Int) := by omega
      have HW1 := hid (fun w1 => whole_any2 p w1 sp)
      have HW2 := hid (fun w1 => whole_any2 q w1 sq)
      have HE := hid he
      clear he e1 e2
      generalize Hu.whT p = wp at HW1 HE
      generalize Hu.whT q = wq at HW2 HE
      go_enter Tryz.func28, Tryz.ntmps28
      have HBz := hid (Below.refl w.heap.size w)
      go_wp2_with fail
      go_quiet (fail)
      replace HBz := hid (below_drewN HBz.out nq)
      replace k1 : (w.drewN nq).cell? ⟨b1, o1 + x, none⟩ = some (.string p) := k1
      replace k2 : (w.drewN nq).cell? ⟨b2, o2 + y, none⟩ = some (.string q) := k2
      generalize w.drewN nq = wz0 at k1 k2 HBz ⊢
      clear nq
      go_wp2_with fail
      cases wp <;> cases wq
      all_goals
        go_quiet ((go_at_call 65; first | with_reducible exact Calls.quiet_of_same (HW1.out _) | with_reducible exact Calls.quiet_of_same (HW2.out _)))
        go_wp2_with fail
        go_ret
        exact ⟨by rw [HE.out]; rfl, below_drewN HBz.out _⟩
  | some d =>
    have hne : t ≠ [] := by intro e; rw [e] at hlst; simp at hlst
    have hd : t[t.length - 1]? = some d := by rw [← List.getLast?_eq_getElem?]; exact hlst
    obtain ⟨bt, ot, rfl, hbt, d0, d1, d2, _⟩ := rdC_at HV.out hd
    obtain ⟨L, hL⟩ : ∃ L, L = t.length - 1 := ⟨_, rfl⟩
    have e1 : t.length = L + 1 := by have := List.length_pos_iff.2 hne; omega
    rw [← hL] at d0 d1 d2
    rw [e1]
    have i1 : IntKind.i64.wrap ((L : Int) + 1 - 1) = (L : Int) := (wrapOk (by omega) (by omega)).trans (by omega)
    have i1b : IntKind.i64.wrap (L : Int) = (L : Int) := wrapOk (by omega) (by omega)
    have i2 : (L : Int) < (L : Int) + 1 := by omega
    have i3 : (0 : Int) ≤ (L : Int) := by omega
    have hdi := HLD.out d hlst
    by_cases hc : d.a + d.n = (na : Int)
    · have hP : Hu.endPt t na nb = (d.a, d.b) := by unfold Hu.endPt; rw [hlst]; exact if_pos hc
      rw [hP] at HPI ⊢
      obtain ⟨q1, q2, q3, q4, q5⟩ := HPI.out
      have HT := hid (TAIL.out d.a d.b _ rfl q1 q2 q3 q4 q5)
      have i4 : IntKind.i64.wrap (d.a + d.n) = (na : Int) := (wrapOk (by omega) (by omega)).trans hc
      have i5 : ((na : Int) == (na : Int)) = true := zeq rfl
      have HHC := hid hc
      clear hP hlst hd hne hL e1 HPI TAIL q5 hc
      rcases HT.out with hz | ⟨x, y, p, q, b1, o1, b2, o2, e1, e2, hxa, hyb, rfl, rfl, k1, k2, sp, sq, he⟩
      · have z0 : (d.a == 0) = true := zeq hz
        have HZ : Hid (Hu.ends2 a b (d.a, d.b) = true) := hid (by unfold Hu.ends2; rw [if_pos hz])
        clear hz
        go_enter Tryz.func28, Tryz.ntmps28
        go_wp2_with fail
        go_quiet (fail)
        go_wp2_with fail
        go_quiet (fail)
        go_wp2_with fail
        go_quiet (fail)
        go_wp2_with fail
        go_ret
        exact ⟨by rw [HZ.out]; rfl, below_drewN (below_drewN (below_drewN (Below.refl _ _) _) _) _⟩
      · have z0 : (d.a == 0) = false := zne (by omega)
        have t1 : IntKind.i64.wrap (d.a - 1) = (x : Int) := (wrapOk (by omega) (by omega)).trans (by omega)
        have t2 : IntKind.i64.wrap (d.b - 1) = (y : Int) := (wrapOk (by omega) (by omega)).trans (by omega)
        have u1 : (0 : Int) ≤ (x : Int) := by omega
        have u2 : (x : Int) < (na : Int) := by omega
        have u3 : (0 : Int) ≤ (y : Int) := by omega
        have u4 : (y : Int) < (nb : Int) := by omega
        have HW1 := hid (fun w1 => whole_any2 p w1 sp)
        have HW2 := hid (fun w1 => whole_any2 q w1 sq)
        have HE := hid he
        clear he e1 e2
        generalize Hu.whT p = wp at HW1 HE
        generalize Hu.whT q = wq at HW2 HE
        go_enter Tryz.func28, Tryz.ntmps28
        have HBz := hid (Below.refl w.heap.size w)
        go_wp2_with fail
        go_quiet (fail)
        replace HBz := hid (below_drewN HBz.out nq)
        replace k1 : (w.drewN nq).cell? ⟨b1, o1 + x, none⟩ = some (.string p) := k1
        replace k2 : (w.drewN nq).cell? ⟨b2, o2 + y, none⟩ = some (.string q) := k2
        replace d0 : (w.drewN nq).cell? ⟨bt, ot + L * 4, none⟩ = some (.int .i64 d.a) := d0
        replace d1 : (w.drewN nq).cell? ⟨bt, ot + L * 4 + 1, none⟩ = some (.int .i64 d.n) := d1
        replace d2 : (w.drewN nq).cell? ⟨bt, ot + L * 4 + 2, none⟩ = some (.int .i64 d.b) := d2
        generalize w.drewN nq = wz0 at k1 k2 d0 d1 d2 HBz ⊢
        clear nq
        go_wp2_with fail
        go_quiet (fail)
        replace HBz := hid (below_drewN HBz.out nq)
        replace k1 : (wz0.drewN nq).cell? ⟨b1, o1 + x, none⟩ = some (.string p) := k1
        replace k2 : (wz0.drewN nq).cell? ⟨b2, o2 + y, none⟩ = some (.string q) := k2
        generalize wz0.drewN nq = wz1 at k1 k2 HBz ⊢
        clear nq
        go_wp2_with fail
        cases wp <;> cases wq
        all_goals
          go_quiet ((go_at_call 65; first | with_reducible exact Calls.quiet_of_same (HW1.out _) | with_reducible exact Calls.quiet_of_same (HW2.out _)))
          go_wp2_with fail
          go_ret
          exact ⟨by rw [HE.out]; rfl, below_drewN HBz.out _⟩
    · have hP : Hu.endPt t na nb = ((na : Int), (nb : Int)) := by unfold Hu.endPt; rw [hlst]; exact if_neg hc
      rw [hP] at HPI ⊢
      obtain ⟨q1, q2, q3, q4, q5⟩ := HPI.out
      have HT := hid (TAIL.out na nb _ rfl q1 q2 q3 q4 q5)
      obtain ⟨DE, hDE⟩ : ∃ DE, DE = d.a + d.n := ⟨_, rfl⟩
      have i4 : IntKind.i64.wrap (d.a + d.n) = DE := (wrapOk (by omega) (by omega)).trans hDE.symm
      have i5 : (DE == (na : Int)) = false := zne (by omega)
      clear hP hlst hd hne hL e1 HPI TAIL q1 q2 q3 q4 q5 hc hDE
      rcases HT.out with hz | ⟨x, y, p, q, b1, o1, b2, o2, e1, e2, hxa, hyb, rfl, rfl, k1, k2, sp, sq, he⟩
      · have z0 : ((na : Int) == 0) = true := zeq hz
        have HZ : Hid (Hu.ends2 a b ((na : Int), (nb : Int)) = true) := hid (by unfold Hu.ends2; rw [if_pos hz])
        clear hz
        go_enter Tryz.func28, Tryz.ntmps28
        go_wp2_with fail
        go_quiet (fail)
        go_wp2_with fail
        go_quiet (fail)
        go_wp2_with fail
        go_ret
        exact ⟨by rw [HZ.out]; rfl, below_drewN (below_drewN (Below.refl _ _) _) _⟩
      · have z0 : ((na : Int) == 0) = false := zne (by omega)
        have t1 : IntKind.i64.wrap ((na : Int) - 1) = (x : Int) := (wrapOk (by omega) (by omega)).trans (by omega)
        have t2 : IntKind.i64.wrap ((nb : Int) - 1) = (y : Int) := (wrapOk (by omega) (by omega)).trans (by omega)
        have u1 : (0 : Int) ≤ (x : Int) := by omega
        have u2 : (x : Int) < (na : Int) := by omega
        have u3 : (0 : Int) ≤ (y : Int) := by omega
        have u4 : (y : Int) < (nb : Int) := by omega
        have HW1 := hid (fun w1 => whole_any2 p w1 sp)
        have HW2 := hid (fun w1 => whole_any2 q w1 sq)
        have HE := hid he
        clear he e1 e2
        generalize Hu.whT p = wp at HW1 HE
        generalize Hu.whT q = wq at HW2 HE
        go_enter Tryz.func28, Tryz.ntmps28
        have HBz := hid (Below.refl w.heap.size w)
        go_wp2_with fail
        go_quiet (fail)
        replace HBz := hid (below_drewN HBz.out nq)
        replace k1 : (w.drewN nq).cell? ⟨b1, o1 + x, none⟩ = some (.string p) := k1
        replace k2 : (w.drewN nq).cell? ⟨b2, o2 + y, none⟩ = some (.string q) := k2
        generalize w.drewN nq = wz0 at k1 k2 HBz ⊢
        clear nq
        go_wp2_with fail
        cases wp <;> cases wq
        all_goals
          go_quiet ((go_at_call 65; first | with_reducible exact Calls.quiet_of_same (HW1.out _) | with_reducible exact Calls.quiet_of_same (HW2.out _)))
          go_wp2_with fail
          go_ret
          exact ⟨by rw [HE.out]; rfl, below_drewN HBz.out _⟩
end Go.Proofs.YtddmfdjkkikapaaGreatDoor
/-
  The walk of Build.
-/
namespace Go.Proofs.YtddmfdjkkikapaaGreatDoor
open Go.RowKit
open Hu (Rw Hk)
open Ed (Ch)

def slLen : Value → Nat
  | .slice _ n _ => n
  | _ => 0
theorem rdC_take {w : World} {a : Option Addr} {c n : Nat} {l : List Ch} (h : RdC w (.slice a l.length c) l) (hn : n ≤ l.length) : RdC w (.slice a n c) (l.take n) := by
  have hlen : (l.take n).length = n := by rw [List.length_take]; omega
  show RdX _ _ _ _
  rw [hlen]
  rcases Nat.eq_zero_or_pos n with rfl | hpos
  · exact .inl ⟨rfl, _, _, rfl⟩
  · rcases h with ⟨h0, _⟩ | ⟨b, o, c', hv, hc, hb, hX⟩
    · omega
    · cases hv
      refine .inr ⟨b, o, c, rfl, by omega, hb, fun j u hj => hX j u ?_⟩
      have hjl : j < (csC (l.take n)).length := (List.getElem?_eq_some_iff.1 hj).1
      have e : csC l = csC (l.take n) ++ csC (l.drop n) := by rw [← csC_append, List.take_append_drop]
      rw [e, List.getElem?_append_left hjl]
      exact hj
/-- what Build answers: the error's number, the hunks -/
def bldN (s : List Ch) (a b : List ByteArray) (ctx : Int) : Nat :=
  if ctxOk ctx then (if Hu.valS a && Hu.valS b then (if Ed.validN s a.length b.length = 0 then (if Hu.endsP (Ed.normal s a.length b.length) a b then 0 else 61) else Ed.validN s a.length b.length) else 3) else 1
def bldA (s : List Ch) (a b : List ByteArray) (ctx : Int) : List Hk := if bldN s a b ctx = 0 then Hu.bld ctx a b (Ed.normal s a.length b.length) else []
theorem errV_pos {n : Nat} (h : n ≠ 0) : errV n = .iface 63 (.int .i64 n) := by unfold errV; rw [if_neg h]
theorem bldA_no {s : List Ch} {a b : List ByteArray} {ctx : Int} (h : bldN s a b ctx ≠ 0) : bldA s a b ctx = [] := if_neg h
theorem normal_apart {s : List Ch} {n m : Int} (h : Ed.Val s n m) : Ed.apart (Ed.normal s n m) := by rw [Ed.normal_eq]; exact Ed.ofL_apart h.rise
theorem inC_of {t : List Ch} {n m : Int} (h : Ed.Val t n m) : InC t := by
  have hn := Ed.cnt_iff.1 h.1
  have hm := Ed.cnt_iff.1 h.2.1
  intro c hc
  have := Hu.inc_in (Hu.inc_val h.2.2 (by omega) (by omega)) c hc
  omega
set_option maxHeartbeats 8000000 in
set_option maxRecDepth 100000 in
theorem build_any {w : World} {v va vb : Value} {s : List Ch} {a b : List ByteArray} {ctx : Int} (hv : RdC w v s) (hwf : ∀ c ∈ s, WfC c) (hl : s.length ≤ 10000000000000) (ha : RdT w va a) (hb : RdT w vb b) (hla : a.length ≤ 140737488355328) (hlb : b.length ≤ 140737488355328) (hsa : ∀ x ∈ a, x.size ≤ maxLen) (hsb : ∀ x ∈ b, x.size ≤ maxLen) :
    Calls Tryz.prog 7 #[v, va, vb, .int .i64 ctx] w fun e w' => ∃ v', e = .returned (.tuple #[v', errV (bldN s a b ctx)]) ∧ OwnH w' w.heap.size v' (bldA s a b ctx) ∧ Below w.heap.size w w' := by
  have HIC := hid (fun w1 => isContext_any ctx w1)
  have HLA := hid (fun w1 (h : Below w.heap.size w w1) => linesValid_any (ha.below h) hla hsa)
  have HLB := hid (fun w1 (h : Below w.heap.size w w1) => linesValid_any (hb.below h) hlb hsb)
  have HNO := hid (fun w1 (h : Below w.heap.size w w1) => normal_all (n := a.length) (m := b.length) (hv.below h) hwf hl)
  have HA := hid ha
  have HBb := hid hb
  have HSA := hid hsa
  have HSB := hid hsb
  obtain ⟨av, cv, rfl⟩ := hv.shape
  obtain ⟨aa, ca, rfl⟩ := ha.shape
  obtain ⟨ab, cb, rfl⟩ := hb.shape
  have HNN : Hid (bldN s a b ctx = if ctxOk ctx then (if Hu.valS a && Hu.valS b then (if Ed.validN s a.length b.length = 0 then (if Hu.endsP (Ed.normal s a.length b.length) a b then 0 else 61) else Ed.validN s a.length b.length) else 3) else 1) := hid rfl
  have HN0 : Hid (bldN s a b ctx ≠ 0 → bldA s a b ctx = []) := hid bldA_no
  have HN1 : Hid (bldN s a b ctx = 0 → bldA s a b ctx = Hu.bld ctx a b (Ed.normal s a.length b.length)) := hid (fun h => if_pos h)
  clear hv ha hb hsa hsb hwf hl
  have RET : Hid (∀ k : Nat, k ≠ 0 → bldN s a b ctx = k → ∀ w1, Below w.heap.size w w1 → ∃ v', Ending.returned (.tuple #[.slice none 0 0, .iface 63 (.int .i64 k)]) = Ending.returned (.tuple #[v', errV (bldN s a b ctx)]) ∧ OwnH w1 w.heap.size v' (bldA s a b ctx) ∧ Below w.heap.size w w1) := hid (fun k hk he w1 hb => by
    refine ⟨_, by rw [he, errV_pos hk], ?_, hb⟩
    rw [HN0.out (by omega)]
    exact OwnH.nil _ _)
  cases hc : ctxOk ctx with
  | false =>
    have HE : Hid (bldN s a b ctx = 1) := hid (by rw [HNN.out, hc]; rfl)
    rw [hc] at HIC
    go_enter Tryz.func7, Tryz.ntmps7
    go_wp2_with fail
    refine (HIC.out _).mono ?_
    rintro e w1 ⟨rfl, h1⟩
    rw [h1]
    clear h1
    go_wp2_with fail
    go_ret2
    exact RET.out 1 (by omega) HE.out _ (Below.refl _ _)
  | true =>
    rw [hc] at HIC
    have hcc : 0 ≤ ctx ∧ ctx ≤ 2147483647 := by simpa [ctxOk] using hc
    cases hva : Hu.valS a with
    | false =>
      have HE : Hid (bldN s a b ctx = 3) := hid (by rw [HNN.out, hc, hva]; rfl)
      rw [hva] at HLA
      go_enter Tryz.func7, Tryz.ntmps7
      go_wp2_with fail
      refine (HIC.out _).mono ?_
      rintro e w1 ⟨rfl, h1⟩
      rw [h1]
      clear h1
      go_wp2_with fail
      refine (HLA.out _ (Below.refl _ _)).mono ?_
      rintro e w2 ⟨rfl, h2⟩
      rw [h2]
      clear h2
      go_wp2_with fail
      go_ret2
      exact RET.out 3 (by omega) HE.out _ (Below.refl _ _)
    | true =>
      rw [hva] at HLA
      cases hvb : Hu.valS b with
      | false =>
        have HE : Hid (bldN s a b ctx = 3) := hid (by rw [HNN.out, hc, hva, hvb]; rfl)
        rw [hvb] at HLB
        go_enter Tryz.func7, Tryz.ntmps7
        go_wp2_with fail
        refine (HIC.out _).mono ?_
        rintro e w1 ⟨rfl, h1⟩
        rw [h1]
        clear h1
        go_wp2_with fail
        refine (HLA.out _ (Below.refl _ _)).mono ?_
        rintro e w2 ⟨rfl, h2⟩
        rw [h2]
        clear h2
        go_wp2_with fail
        refine (HLB.out _ (Below.refl _ _)).mono ?_
        rintro e w2 ⟨rfl, h2⟩
        rw [h2]
        clear h2
        go_wp2_with fail
        go_ret2
        exact RET.out 3 (by omega) HE.out _ (Below.refl _ _)
      | true =>
        rw [hvb] at HLB
        by_cases hk : Ed.validN s a.length b.length = 0
        · have hV0 := Ed.validN_zero.1 hk
          obtain ⟨hV, _⟩ := Ed.normal_Val hV0
          have hap := normal_apart hV0
          have hne : nrmA s a.length b.length = Ed.normal s a.length b.length := by unfold nrmA; rw [if_pos hk]
          rw [hk, errV_zero, hne] at HNO
          have HE0 : Hid (bldN s a b ctx = if Hu.endsP (Ed.normal s a.length b.length) a b then 0 else 61) := hid (by rw [HNN.out, hc, hva, hvb, if_pos rfl, if_pos (show (true && true) = true from rfl), if_pos hk])
          have hn := Ed.cnt_iff.1 hV.1
          have hm := Ed.cnt_iff.1 hV.2.1
          have hla' : a.length ≤ 4194304 := by omega
          have hlb' : b.length ≤ 4194304 := by omega
          have htl := Val_len hV
          have HEF := hid (fun w1 v1 (h : Below w.heap.size w w1) (hr : RdC w1 v1 (Ed.normal s a.length b.length)) => endsFit_any hr (HA.out.below h) (HBb.out.below h) hV hap HSA.out HSB.out)
          have HIN := hid (inC_of hV)
          have HAH := hid (Hu.Ahead.start (ctx := ctx) hV)
          generalize Ed.normal s a.length b.length = t at HNO HE0 HEF HIN HAH HN1 htl
          clear hV0 hV hap hne hn hm hla hlb hk HNN hc hva hvb
          go_enter Tryz.func7, Tryz.ntmps7
          go_wp2_with fail
          refine (HIC.out _).mono ?_
          rintro e w1 ⟨rfl, h1⟩
          rw [h1]
          clear h1
          go_wp2_with fail
          refine (HLA.out _ (Below.refl _ _)).mono ?_
          rintro e w2 ⟨rfl, h2⟩
          rw [h2]
          clear h2
          go_wp2_with fail
          refine (HLB.out _ (Below.refl _ _)).mono ?_
          rintro e w2 ⟨rfl, h2⟩
          rw [h2]
          clear h2
          go_wp2_with fail
          refine (HNO.out _ (Below.refl _ _)).mono ?_
          rintro e w3 ⟨v3, rfl, hO3, hb3⟩
          obtain ⟨a3, c3, rfl⟩ := own_shape hO3
          have HT3 := hid (own_rd hO3)
          have HB3 := hid hb3
          clear hO3 hb3 HIC HLA HLB HNO
          go_wp2_with fail
          refine (HEF.out _ _ HB3.out HT3.out).mono ?_
          rintro e w4 ⟨rfl, hb4⟩
          have HB4 := hid (HB3.out.trans (hb4.mono HB3.out.size))
          have HT4 := hid (HT3.out.below hb4)
          clear hb4 HEF HB3 HT3
          cases hE : Hu.endsP t a b with
          | false =>
            have HE : Hid (bldN s a b ctx = 61) := hid (by rw [HE0.out, hE]; rfl)
            clear hE
            go_wp2_with fail
            go_ret2
            exact RET.out 61 (by omega) HE.out _ HB4.out
          | true =>
            have HE : Hid (bldN s a b ctx = 0) := hid (by rw [HE0.out, hE]; rfl)
            have HEA := hid (HN1.out HE.out)
            have HU4 := hid HT4.out.under
            clear hE RET HE0 HN0 HN1
            go_wp2_with fail
            go_loopw [10, 12] (fun vc vo wr => ∃ (tl : List Ch) (X : List Hk) (x y : Int), tl.length ≤ 8388608 ∧ X.length + tl.length ≤ 8388608 ∧ Hid (RdC wr vc tl) ∧ Hid (Under w4.heap.size vc) ∧ Hid (OwnH wr w4.heap.size vo X) ∧ Hid (Below w4.heap.size w4 wr) ∧ Hid (Hu.bld ctx a b t = X ++ Hu.bld ctx a b tl) ∧ Hid (Hu.Ahead ctx tl x y a.length b.length) ∧ Hid (InC tl)) (fun vc _ _ => slLen vc)
            case atStart => exact ⟨t, [], 0, 0, htl, by simpa using htl, HT4, HU4, OwnH.nil _ _, Below.refl _ _, hid rfl, HAH, HIN⟩
            case round =>
              obtain ⟨tl, X, x, y, htl2, hXt, HT, HU, HO, HB, HX, HAD, HI⟩ := hrel
              obtain ⟨at', ct, rfl⟩ := HT.out.shape
              obtain ⟨ao, co, rfl⟩ := HO.out.shape
              by_cases hz : tl.length = 0
              · have e : tl = [] := List.length_eq_zero_iff.1 hz
                have HF : Hid (OwnH wr w.heap.size (.slice ao X.length co) (bldA s a b ctx)) := hid (by
                  rw [HEA.out, HX.out, e]
                  show OwnH _ _ _ (X ++ [])
                  rw [List.append_nil]
                  exact HO.out.mono HB4.out.size)
                have HBF := hid (HB4.out.trans (HB.out.mono HB4.out.size))
                rw [hz]
                clear e hz HT HX HO
                go_wp2_with fail
                go_ret2
                exact ⟨_, by rw [HE.out]; rfl, HF.out, HBF.out⟩
              · have hne : tl ≠ [] := fun e => hz (by rw [e]; rfl)
                obtain ⟨g1, g2, g3, g4, x', y', g5⟩ := HAD.out.group hne hcc.1
                have hGl := Hu.glen_le ctx tl
                have hGp := Hu.glen_pos ctx tl hne
                have HBW := hid (HB4.out.trans (HB.out.mono HB4.out.size))
                have HGL := hid (groupLength_any HT.out htl2 hne HI.out hcc.1 hcc.2)
                have HBS := hid (Hu.bld_step (ctx := ctx) (a := a) (b := b) hne)
                have HOG := hid (fun w5 (hb5 : Below wr.heap.size wr w5) => ofGroup_any (ctx := ctx) (rdC_take (HT.out.below hb5) hGl) ((HA.out.below HBW.out).below hb5) ((HBb.out.below HBW.out).below hb5) g1 g2 g3 g4 hcc.1 hcc.2 hla' hlb' (by rw [List.length_take]; omega))
                obtain ⟨G, hG⟩ : ∃ G, G = Hu.glen ctx tl := ⟨_, rfl⟩
                rw [← hG] at HGL HBS HOG g5 hGl hGp
                obtain ⟨A', hA'⟩ : ∃ A', (if ct = G then at' else at'.map (·.add (G * 4))) = A' := ⟨_, rfl⟩
                have HT2 := hid (rdC_sliced HT.out (x := G) (y := tl.length) hGl (Nat.le_refl _))
                rw [hA', List.take_of_length_le (show (tl.drop G).length ≤ tl.length - G by rw [List.length_drop]; exact Nat.le_refl _)] at HT2
                have hctl := rd_cap HT.out
                have HU2 : Hid (Under w4.heap.size (.slice A' (tl.length - G) (ct - G))) := hid (by
                  intro b5 o5 m5 c5 hv5 hm5
                  injection hv5 with q1 q2 q3
                  rcases HT.out with ⟨h0, _⟩ | ⟨b0, o0, c0, hv0, _, _, _⟩
                  · omega
                  · injection hv0 with r1 r2 r3
                    subst r1
                    have h7 := HU.out b0 o0 tl.length ct rfl (by omega)
                    rw [← hA'] at q1
                    split at q1
                    · cases q1; exact h7
                    · rw [Option.map_some, Go.WideShapes.add_plain] at q1
                      cases q1
                      exact h7)
                have HI2 : Hid (InC (tl.drop G)) := hid (fun c hc => HI.out c (List.mem_of_mem_drop hc))
                have HAD2 := hid g5
                have hlen2 : (tl.drop G).length = tl.length - G := List.length_drop
                generalize Hu.ofG ctx a b (tl.take G) = K at HBS HOG
                have HX2 : Hid (Hu.bld ctx a b t = (X ++ [K]) ++ Hu.bld ctx a b (tl.drop G)) := hid (by rw [HX.out, HBS.out]; simp)
                obtain ⟨TL, hTL⟩ : ∃ TL, TL = tl.length := ⟨_, rfl⟩
                have HTL := hid hTL
                rw [← hTL] at HGL htl2 hXt hGl HT2 hctl HU2 hlen2 hz ⊢
                obtain ⟨TG, hTG⟩ : ∃ TG, TG = TL - G := ⟨_, rfl⟩
                have u0 : (0 : Int) < (TL : Int) := by omega
                have u1 : (0 : Int) ≤ (G : Int) := by omega
                have u2 : (G : Int) ≤ (TL : Int) := by omega
                have u3 : (G : Int) ≤ (ct : Int) := by omega
                have u4 : (TL : Int) ≤ (ct : Int) := by omega
                have HHL := hid hlen2
                clear hne g1 g2 g3 g4 g5 hG HBS HX HAD HI hz hTL hTG HT HU hlen2
                go_wp2_with fail
                refine HGL.out.mono ?_
                rintro e w5 ⟨rfl, hb5⟩
                have HB5 := hid (HB.out.trans (hb5.mono HB.out.size))
                have HO5 := hid (HO.out.stays hb5)
                have HT5 := hid (HT2.out.below hb5)
                have HP5 := hid (HOG.out w5 hb5)
                clear hb5 HGL HOG HO HT2
                go_wp2_with fail
                refine HP5.out.mono ?_
                rintro e w6 ⟨v6, rfl, hO6, hb6⟩
                obtain ⟨a6, c6, e6⟩ := own_shape hO6
                subst e6
                have HR6 := hid hO6
                have HB6 := hid (HB5.out.trans (hb6.mono HB5.out.size))
                have HO6 := hid (HO5.out.stays hb6)
                have HT6 := hid (HT5.out.below hb6)
                have HS6 : Hid (w4.heap.size ≤ w5.heap.size) := hid HB5.out.size
                clear hO6 hb6 HP5 HO5 HT5
                obtain ⟨ka, kn, kb, km, kh, kr⟩ := K
                unfold HkV
                dsimp only at HR6 ⊢
                have hbn := (Below.refl w6.heap.size w6).alloc (Nat.le_refl _) (.cells #[.int .i64 ka, .int .i64 kn, .int .i64 kb, .int .i64 km, .string kh, .slice a6 kr.length c6] 37)
                have HO7 := hid (HO6.out.stays hbn)
                have HT7 := hid (HT6.out.below hbn)
                have HR7 := hid (own_mono (own_stays HR6.out hbn) HS6.out)
                have HB7 := hid (HB6.out.trans (hbn.mono HB6.out.size))
                have hXl : X.length < 1954687338260 := by omega
                clear hbn
                go_wp2_with (at_builtin; refine wpList_append_hk rfl _ _ rfl w4.heap.size _ X rfl HO7.out w6.heap.size ⟨ka, kn, kb, km, kh, kr⟩ (.slice a6 kr.length c6) rfl (heap_alloc_new w6 _) HR7.out hXl HB7.out.size ?_; intro v8 w8 hO8 hb8; have HO8 := hid hO8; have HB8 := hid (HB7.out.trans hb8); have HT8 := hid ((HT7.out.keep HU2.out hb8)); clear hO8 hb8)
                go_roundw
                case rel => exact ⟨tl.drop G, X ++ [⟨ka, kn, kb, km, kh, kr⟩], x', y', by rw [HHL.out]; omega, by rw [HHL.out, List.length_append, List.length_singleton]; omega, HT8, HU2, HO8, HB8, HX2, HAD2, HI2⟩
                case measure => simp [slLen]; omega
        · have HE : Hid (bldN s a b ctx = Ed.validN s a.length b.length) := hid (by rw [HNN.out, hc, hva, hvb, if_pos rfl, if_pos (show (true && true) = true from rfl), if_neg hk])
          rw [errV_pos hk] at HNO
          have HKN : Hid (Ed.validN s a.length b.length ≠ 0) := hid hk
          generalize Ed.validN s a.length b.length = K at HNO HE HKN
          clear hk HNN hc hva hvb
          go_enter Tryz.func7, Tryz.ntmps7
          go_wp2_with fail
          refine (HIC.out _).mono ?_
          rintro e w1 ⟨rfl, h1⟩
          rw [h1]
          clear h1
          go_wp2_with fail
          refine (HLA.out _ (Below.refl _ _)).mono ?_
          rintro e w2 ⟨rfl, h2⟩
          rw [h2]
          clear h2
          go_wp2_with fail
          refine (HLB.out _ (Below.refl _ _)).mono ?_
          rintro e w2 ⟨rfl, h2⟩
          rw [h2]
          clear h2
          go_wp2_with fail
          refine (HNO.out _ (Below.refl _ _)).mono ?_
          rintro e w3 ⟨v3, rfl, hO3, hb3⟩
          have HB3 := hid hb3
          clear hO3 hb3
          go_wp2_with fail
          go_ret2
          exact RET.out K HKN.out HE.out _ HB3.out
end Go.Proofs.YtddmfdjkkikapaaGreatDoor
