/-
  The walk of the document's pairs.
-/
import Derived.Test.YtjgjfnmljmmplaaDoorGrD6
namespace Go.Proofs.YtjgjfnmljmmplaaDoor
open Go.RowKit
open Ed (Ch Run Pr)

theorem wpList_append_pr {w : World} {ops : Array Oper} {rest : List Oper} {o : Oper} {a : Act} {Q : Exit → Act → World → Prop} (hgd : o.guard = none) (s x : Operand)
    (ho : o.op = .call { callee := .builtin .append, args := #[s, x], argTypes := #[72, 72] }) (B : Nat) (v : Value) (l : List Pr) (hs : a.eval s = v) (hown : OwnP w B v l)
    (g : Nat) (c : Pr) (hx : a.eval x = .slice (some ⟨g, 0, none⟩) 1 1) (hg : w.heap[g]? = some (.cells #[.int .i64 c.1, .int .i64 c.2] 106)) (hfit : l.length ≤ 1000000000) (hB : B ≤ w.heap.size)
    (h : ∀ v' w', OwnP w' B v' (l ++ [c]) → Below B w w' → wpList Tryd.prog ops Q rest (a.put o.dst v') w') : wpList Tryd.prog ops Q (o :: rest) a w := by
  obtain ⟨i0, hi, hz0, hz1, hz2⟩ := info_parts Tryd.infoPairT
  refine wpList_append_lies _ hgd s x 72 ho B 106 i0 (.agg #[.int .i64 0, .int .i64 0]) 2 16 Tryd.underlying72 hi hz0 hz1 hz2 rfl (by decide) v l.length (psC l) hs hown ⟨g, 0, none⟩ 1 1 (pC c) hx rfl ?_ ?_ (by decide) ?_ ?_ hB w.heap.size rfl ?_
  · exact World.news_of_block (cs := #[.int .i64 c.1, .int .i64 c.2]) hg
  · have := psC_one [c]
    simpa [psC] using this
  · unfold maxLen; omega
  · omega
  · intro g' cap w' g2 g3 _ _
    refine h _ w' ?_ ((Below.refl _ _).grown g3 hB (own_ge hown))
    show w'.ownsRow _ _ _ _ _ _
    rw [List.length_append, psC_append]
    have e : psC [c] = pC c := by simp [psC]
    rw [e]; exact g2
/-- the state of the document's loop -/
def RPr (w : World) (s : List Ch) (n m : Int) (k : Nat) (ca cb : Int) (vo : Value) (wr : World) : Prop :=
  ∃ l, OwnP wr w.heap.size vo l ∧ Below w.heap.size w wr ∧ ((k ≤ s.length ∧ 0 ≤ ca ∧ ca ≤ n ∧ 0 ≤ cb ∧ cb ≤ m ∧ Ed.val (s.drop k) ca cb n m = true ∧ Ed.prs s n 0 0 = l ++ Ed.prs (s.drop k) n ca cb) ∨ (k = s.length + 1 ∧ Ed.prs s n 0 0 = l))
/-- the state of the inner loop -/
def RIn (w : World) (l : List Pr) (ca cb : Int) (N i : Nat) (vo : Value) (wr : World) : Prop := OwnP wr w.heap.size vo (l ++ Ed.exN ca cb i) ∧ Below w.heap.size w wr ∧ i ≤ N

set_option maxHeartbeats 8000000 in
set_option maxRecDepth 100000 in
theorem refpairs_any {v : Value} {s : List Ch} {n m : Int} {w : World} (hr : RdC w v s) (hV : Ed.Val s n m) :
    Calls Tryd.prog 35 #[v, .int .i64 n] w fun e w' => ∃ v', e = .returned v' ∧ OwnP w' w.heap.size v' (Ed.prs s n 0 0) ∧ Below w.heap.size w w' := by
  have hl := Val_len hV
  obtain ⟨a, c, rfl⟩ := hr.shape
  have HR := hid hr
  obtain ⟨hn0, hn1⟩ := Ed.cnt_iff.1 hV.1
  obtain ⟨hm0, hm1⟩ := Ed.cnt_iff.1 hV.2.1
  have HPL : Hid ((Ed.prs s n 0 0).length ≤ 4194304) := hid (by have := rise_len hV.rise hn0; omega)
  have HV0 := hid hV.2.2
  clear hr hV
  go_enter Tryd.func35, Tryd.ntmps35
  go_wp2
  go_loopw [5, 6, 7, 8] (fun o x y i wr => ∃ (k : Nat) (ca cb : Int), i = .int .i64 k ∧ x = .int .i64 ca ∧ y = .int .i64 cb ∧ k ≤ s.length + 1 ∧ Hid (RPr w s n m k ca cb o wr)) (fun _ _ _ i _ => s.length + 1 - (intOf i).toNat)
  case atStart => exact ⟨0, 0, 0, rfl, rfl, rfl, by omega, [], World.ownsRow_nil _ _ _ _, Below.refl _ _, .inl ⟨Nat.zero_le _, by omega, hn0, by omega, hm0, HV0.out, rfl⟩⟩
  case round =>
    obtain ⟨k, ca, cb, rfl, rfl, rfl, hkP, HI⟩ := hrel
    obtain ⟨w1, rfl⟩ : ∃ w1, w1 = wr := ⟨_, rfl⟩
    obtain ⟨l, hO, hb, hcase⟩ := HI.out
    rcases hcase with ⟨hk, hca0, hca1, hcb0, hcb1, hval, eP⟩ | ⟨hk, eP⟩
    · have hle : (k : Int) ≤ (s.length : Int) := by omega
      have HO := hid hO
      have HB := hid hb
      have HVL := hid hval
      have HP := hid eP
      obtain ⟨ao, co, rfl⟩ := own_shape hO
      clear hO hb eP hval HI
      by_cases hlt : k < s.length
      · obtain ⟨x, hx⟩ : ∃ x, s[k]? = some x := ⟨_, List.getElem?_eq_getElem hlt⟩
        obtain ⟨b, o, rfl, hbl, _⟩ := rdC_at HR.out hx
        have HDR := hid (drop_at hx)
        have hval := HVL.out
        rw [HDR.out] at hval
        obtain ⟨⟨⟨p1, p2, p3⟩, ⟨p4, p5, p6⟩, _, p8⟩, hv2⟩ := Ed.val_cons.1 hval
        have HV2 := hid hv2
        have HP8 := hid p8
        obtain ⟨N, hN⟩ : ∃ N : Nat, (N : Int) = x.a - ca := ⟨(x.a - ca).toNat, by omega⟩
        have HN := hid hN
        have HP2 : Hid (Ed.prs s n 0 0 = (l ++ Ed.exN ca cb N) ++ Ed.prs (s.drop (k + 1)) n (x.a + x.n) (x.b + x.m)) := hid (by
          rw [HP.out, HDR.out, Ed.prs_cons, show (x.a - ca).toNat = N by omega, List.append_assoc])
        have HLN : Hid (l.length + N ≤ 4194304) := hid (by
          have h := HPL.out
          rw [HP2.out, List.length_append, List.length_append, Ed.exN_length] at h
          omega)
        have HX := hid hx
        obtain ⟨b', o', eb, _, c0, c1, c2, c3⟩ := rdC_at (HR.out.below HB.out) hx
        cases eb
        have i1 : (0 : Int) ≤ (k : Int) := by omega
        have i2 : (k : Int) < (s.length : Int) := by omega
        have hNN : (N : Int) ≤ 4194304 := by omega
        clear hx hval hv2 p8 hN HVL
        go_wp2
        go_loopw [5, 6, 7] (fun oo xx yy wr => ∃ i : Nat, xx = .int .i64 (ca + i) ∧ yy = .int .i64 (cb + i) ∧ i ≤ N ∧ Hid (RIn w l ca cb N i oo wr)) (fun _ xx _ _ => (x.a - intOf xx).toNat)
        case atStart => exact ⟨0, by simp, by simp, Nat.zero_le _, by show OwnP _ _ _ _; rw [show Ed.exN ca cb 0 = [] from rfl, List.append_nil]; exact HO.out, HB.out, Nat.zero_le _⟩
        case round =>
          obtain ⟨i, rfl, rfl, hi, HIn⟩ := hrel
          have HO2 := hid HIn.out.1
          have HB2 := hid HIn.out.2.1
          clear HIn
          by_cases hin : i < N
          · have g1 : ca + (i : Int) < x.a := by have := HN.out; omega
            have hfit : (l ++ Ed.exN ca cb i).length ≤ 1000000000 := by have h1 := HLN.out; rw [List.length_append, Ed.exN_length]; omega
            have HBN := hid ((Below.refl wr.heap.size wr).alloc (Nat.le_refl _) (.cells #[.int .i64 (ca + i), .int .i64 (cb + i)] 106))
            go_wp2_with (at_builtin; refine wpList_append_pr rfl _ _ rfl w.heap.size _ (l ++ Ed.exN ca cb i) rfl (own_stays HO2.out HBN.out) wr.heap.size (ca + i, cb + i) rfl (heap_alloc_new wr _) hfit (Nat.le_trans HB2.out.size HBN.out.size) ?_; intro v2 w2 hO3 hb3; have HO3 := hid hO3; have HB3 := hid ((HB2.out.trans (HBN.out.mono HB2.out.size)).trans hb3); clear hO3 hb3)
            go_roundw
            case rel => exact ⟨i + 1, by go_num, by go_num, by omega, by show OwnP _ _ _ _; rw [exN_snoc, ← List.append_assoc]; exact HO3.out, HB3.out, by omega⟩
            case measure => simp [intOf]; omega
          · have hiN : i = N := by omega
            have g1 : ¬ ca + (i : Int) < x.a := by have := HN.out; omega
            obtain ⟨b', o', eb, _, c0', c1', c2', c3'⟩ := rdC_at (HR.out.below HB2.out) HX.out
            cases eb
            have HE : Hid (OwnP wr w.heap.size _ (l ++ Ed.exN ca cb N)) := hid (by have h := HO2.out; rw [hiN] at h; exact h)
            clear hiN
            go_wp2
            go_quiet (fail)
            go_wp2
            go_quiet (fail)
            go_wp2
            go_roundw
            case rel => exact ⟨k + 1, x.a + x.n, x.b + x.m, by go_num, by go_num, by go_num, by omega, l ++ Ed.exN ca cb N, own_stays HE.out (by first | exact below_drewN (Below.refl _ _) _ | exact below_drewN (below_drewN (Below.refl _ _) _) _), by first | exact below_drewN HB2.out _ | exact below_drewN (below_drewN HB2.out _) _, .inl ⟨by omega, by omega, by omega, by omega, by omega, HV2.out, HP2.out⟩⟩
            case measure => simp [intOf]; omega
      · have hkk : s.drop k = [] := List.drop_eq_nil_of_le (by omega)
        have hval := HVL.out
        rw [hkk] at hval
        have hq : n - ca = m - cb := by simpa [Ed.val] using hval
        obtain ⟨N, hN⟩ : ∃ N : Nat, (N : Int) = n - ca := ⟨(n - ca).toNat, by omega⟩
        have HN := hid hN
        have HP2 : Hid (Ed.prs s n 0 0 = l ++ Ed.exN ca cb N) := hid (by rw [HP.out, hkk, Ed.prs_nil, show (n - ca).toNat = N by omega])
        have HLN : Hid (l.length + N ≤ 4194304) := hid (by
          have h := HPL.out
          rw [HP2.out, List.length_append, Ed.exN_length] at h
          omega)
        have i2 : ¬ (k : Int) < (s.length : Int) := by omega
        have hNN : (N : Int) ≤ 4194304 := by omega
        have HKL : Hid (k = s.length) := hid (by omega)
        clear hkk hval hq hN HVL
        go_wp2
        go_loopw [5, 6, 7] (fun oo xx yy wr => ∃ i : Nat, xx = .int .i64 (ca + i) ∧ yy = .int .i64 (cb + i) ∧ i ≤ N ∧ Hid (RIn w l ca cb N i oo wr)) (fun _ xx _ _ => (n - intOf xx).toNat)
        case atStart => exact ⟨0, by simp, by simp, Nat.zero_le _, by show OwnP _ _ _ _; rw [show Ed.exN ca cb 0 = [] from rfl, List.append_nil]; exact HO.out, HB.out, Nat.zero_le _⟩
        case round =>
          obtain ⟨i, rfl, rfl, hi, HIn⟩ := hrel
          have HO2 := hid HIn.out.1
          have HB2 := hid HIn.out.2.1
          clear HIn
          by_cases hin : i < N
          · have g1 : ca + (i : Int) < n := by have := HN.out; omega
            have hfit : (l ++ Ed.exN ca cb i).length ≤ 1000000000 := by have h1 := HLN.out; rw [List.length_append, Ed.exN_length]; omega
            have HBN := hid ((Below.refl wr.heap.size wr).alloc (Nat.le_refl _) (.cells #[.int .i64 (ca + i), .int .i64 (cb + i)] 106))
            go_wp2_with (at_builtin; refine wpList_append_pr rfl _ _ rfl w.heap.size _ (l ++ Ed.exN ca cb i) rfl (own_stays HO2.out HBN.out) wr.heap.size (ca + i, cb + i) rfl (heap_alloc_new wr _) hfit (Nat.le_trans HB2.out.size HBN.out.size) ?_; intro v2 w2 hO3 hb3; have HO3 := hid hO3; have HB3 := hid ((HB2.out.trans (HBN.out.mono HB2.out.size)).trans hb3); clear hO3 hb3)
            go_roundw
            case rel => exact ⟨i + 1, by go_num, by go_num, by omega, by show OwnP _ _ _ _; rw [exN_snoc, ← List.append_assoc]; exact HO3.out, HB3.out, by omega⟩
            case measure => simp [intOf]; omega
          · have hiN : i = N := by omega
            have g1 : ¬ ca + (i : Int) < n := by have := HN.out; omega
            have HE : Hid (OwnP wr w.heap.size _ (l ++ Ed.exN ca cb N)) := hid (by have h := HO2.out; rw [hiN] at h; exact h)
            clear hiN
            go_wp2
            go_roundw
            case rel => exact ⟨k + 1, ca + i, cb + i, by go_num, by go_num, by go_num, by omega, l ++ Ed.exN ca cb N, HE.out, HB2.out, .inr ⟨by have := HKL.out; omega, HP2.out⟩⟩
            case measure => simp [intOf]; omega
    · have hle : ¬ (k : Int) ≤ (s.length : Int) := by omega
      have HE : Hid (OwnP w1 w.heap.size _ (Ed.prs s n 0 0)) := hid (by rw [eP]; exact hO)
      have HB := hid hb
      clear hO hb eP HI
      go_wp2
      go_ret
      exact ⟨_, rfl, HE.out, HB.out⟩
end Go.Proofs.YtjgjfnmljmmplaaDoor
