/-
  The document's Blanks.
-/
import Derived.Test.YtmomeemkdfoklaaDoorZj
import Derived.Test.YtmomeemkdfoklaaDoorDa
import Derived.Test.YtmomeemkdfoklaaDoorD2
namespace Go.Proofs.YtmomeemkdfoklaaDoor
open Go.RowKit
open Ed (Ch Run Pr)

theorem below_drew_self (w : World) (m : Nat) : Below w.heap.size w (w.drewN m) := below_drewN (Below.refl _ _) m
theorem filter_take_yes {L : List Ch} {p : Ch → Bool} {k : Nat} {c : Ch} (h : L[k]? = some c) (hp : p c = true) : (L.take (k + 1)).filter p = (L.take k).filter p ++ [c] := by
  rw [List.take_add_one, h, List.filter_append]
  simp [hp]
theorem filter_take_no {L : List Ch} {p : Ch → Bool} {k : Nat} {c : Ch} (h : L[k]? = some c) (hp : p c = false) : (L.take (k + 1)).filter p = (L.take k).filter p := by
  rw [List.take_add_one, h, List.filter_append]
  simp [hp]
theorem filter_take_len {L : List Ch} {p : Ch → Bool} {k : Nat} : ((L.take k).filter p).length ≤ L.length := Nat.le_trans (List.length_filter_le _ _) (by rw [List.length_take]; omega)

set_option maxHeartbeats 4000000 in
set_option maxRecDepth 100000 in
theorem refBlanks_all {w : World} {v va vb : Value} {s : List Ch} {a b : List ByteArray} (hr : RdC w v s) (hwf : ∀ c ∈ s, WfC c) (hl : s.length ≤ 10000000000000) (ha : RdS w va a) (hb : RdS w vb b) (hsa : ∀ x ∈ a, x.size ≤ 140737488355327) (hsb : ∀ x ∈ b, x.size ≤ 140737488355327) :
    Calls Tryd.prog 12 #[v, va, vb] w fun e w' => ∃ v', e = .returned (.tuple #[v', .int .i64 (Ed.validN s a.length b.length)]) ∧ OwnC w' w.heap.size v' (blA s a b) ∧ Below w.heap.size w w' := by
  obtain ⟨aa, ca, rfl⟩ := ha.shape
  obtain ⟨ab, cb, rfl⟩ := hb.shape
  have hcapA : a.length ≤ ca := by
    rcases ha with ⟨h0, _⟩ | ⟨_, _, _, hv, hc, _⟩
    · omega
    · cases hv; exact hc
  have hcapB : b.length ≤ cb := by
    rcases hb with ⟨h0, _⟩ | ⟨_, _, _, hv, hc, _⟩
    · omega
    · cases hv; exact hc
  have HN := hid (refNormal_all (n := a.length) (m := b.length) hr hwf hl)
  obtain ⟨a0, c0, rfl⟩ := hr.shape
  have HA := hid ha
  have HBb := hid hb
  have HSA := hid hsa
  have HSB := hid hsb
  clear hr hwf ha hb hsa hsb
  by_cases hk : Ed.validN s a.length b.length = 0
  · have hV := Ed.validN_zero.1 hk
    have hNV := (Ed.normal_Val hV).1
    have hne : nrmA s a.length b.length = Ed.normal s a.length b.length := by unfold nrmA; rw [if_pos hk]
    have hn := Ed.cnt_iff.1 hV.1
    have hm := Ed.cnt_iff.1 hV.2.1
    have hll := Val_len hNV
    have HIN : Hid (∀ c ∈ nrmA s a.length b.length, 0 ≤ c.a ∧ 0 ≤ c.n ∧ c.a + c.n ≤ (a.length : Int) ∧ 0 ≤ c.b ∧ 0 ≤ c.m ∧ c.b + c.m ≤ (b.length : Int)) := hid (by rw [hne]; exact val_in hNV.2.2 (by omega) (by omega))
    rw [← hne] at hll
    have HK := hid hk
    rw [hk] at HN ⊢
    have HBL : Hid (blA s a b = (nrmA s a.length b.length).filter fun c => !chB a b c) := hid rfl
    rw [HBL.out]
    generalize nrmA s a.length b.length = L at HN HIN hll HBL ⊢
    clear hk hV hNV hne HK
    go_enter Tryd.func12, Tryd.ntmps12
    go_wp2_with fail
    refine HN.out.mono ?_
    rintro e w1 ⟨v1, rfl, hO1, hb1⟩
    obtain ⟨a1, c1, e1⟩ := own_shape hO1
    subst e1
    have HR1 := hid (own_rd hO1)
    have HB1 := hid hb1
    clear hO1 hb1
    go_wp2
    go_loopw [10, 11] (fun o i wr => ∃ (k : Nat), i = .int .i64 k ∧ k ≤ L.length ∧ Hid (OwnC wr w1.heap.size o ((L.take k).filter fun c => !chB a b c)) ∧ Hid (Below w1.heap.size w1 wr)) (fun _ i _ => L.length - (intOf i).toNat)
    case atStart => exact ⟨0, rfl, Nat.zero_le _, World.ownsRow_nil _ _ _ _, Below.refl _ _⟩
    case round =>
      obtain ⟨k, rfl, hk, HO, HB⟩ := hrel
      by_cases hlt : k < L.length
      · obtain ⟨c, hc⟩ : ∃ c, L[k]? = some c := ⟨_, List.getElem?_eq_getElem hlt⟩
        obtain ⟨p1, p2, p3, p4, p5, p6⟩ := HIN.out c (List.mem_of_getElem? hc)
        obtain ⟨x, hx⟩ := Int.eq_ofNat_of_zero_le p1
        obtain ⟨n, hn'⟩ := Int.eq_ofNat_of_zero_le p2
        obtain ⟨y, hy⟩ := Int.eq_ofNat_of_zero_le p4
        obtain ⟨m, hm'⟩ := Int.eq_ofNat_of_zero_le p5
        obtain ⟨ca', cn', cb', cm'⟩ := c
        dsimp only at hx hn' hy hm' p3 p6
        subst hx hn' hy hm'
        obtain ⟨bl, ol, rfl, _, d0, d1, d2, d3⟩ := rdC_at (HR1.out.below HB.out) hc
        dsimp only at d0 d1 d2 d3
        have hxl : x + n ≤ a.length := by omega
        have hyl : y + m ≤ b.length := by omega
        have i1 : (0 : Int) ≤ (x : Int) := by omega
        have i2 : (x : Int) ≤ (x : Int) + (n : Int) := by omega
        have i3 : (x : Int) + (n : Int) ≤ (ca : Int) := by omega
        have i4 : IntKind.i64.wrap ((x : Int) + (n : Int)) = (x : Int) + (n : Int) := wrapOk (by omega) (by omega)
        have j1 : (0 : Int) ≤ (y : Int) := by omega
        have j2 : (y : Int) ≤ (y : Int) + (m : Int) := by omega
        have j3 : (y : Int) + (m : Int) ≤ (cb : Int) := by omega
        have j4 : IntKind.i64.wrap ((y : Int) + (m : Int)) = (y : Int) + (m : Int) := wrapOk (by omega) (by omega)
        have k1 : (0 : Int) ≤ (k : Int) := by omega
        have k2 : (k : Int) < (L.length : Int) := by omega
        have k3 : IntKind.i64.wrap ((k : Int) + 1) = (k : Int) + 1 := wrapOk (by omega) (by omega)
        obtain ⟨A1, hA1⟩ : ∃ A1, (if ca = x then aa else aa.map (·.add x)) = A1 := ⟨_, rfl⟩
        obtain ⟨A2, hA2⟩ : ∃ A2, (if cb = y then ab else ab.map (·.add y)) = A2 := ⟨_, rfl⟩
        have hbw : Below w.heap.size w wr := HB1.out.trans (HB.out.mono HB1.out.size)
        have HP1 := hid (fun q => counts_any (rdS_sliced ((HA.out.below hbw).below (below_drew_self wr q)) rfl (x := x) (y := x + n) (by omega) hxl) (by rw [List.length_take]; omega) (fun z hz => HSA.out z (List.mem_of_mem_drop (List.mem_of_mem_take hz))))
        have HP2 := hid (fun q => counts_any (rdS_sliced ((HBb.out.below hbw).below (below_drew_self wr q)) rfl (x := y) (y := y + m) (by omega) hyl) (by rw [List.length_take]; omega) (fun z hz => HSB.out z (List.mem_of_mem_drop (List.mem_of_mem_take hz))))
        have HE : Hid (chB a b ⟨x, n, y, m⟩ = (allB ((a.drop x).take (x + n - x)) && allB ((b.drop y).take (y + m - y)))) := hid (by unfold chB part; simp only [Int.toNat_natCast, Nat.add_sub_cancel_left])
        rw [hA1] at HP1
        rw [hA2] at HP2
        generalize allB ((a.drop x).take (x + n - x)) = P1 at HP1 HE
        generalize allB ((b.drop y).take (y + m - y)) = P2 at HP2 HE
        rw [Nat.add_sub_cancel_left] at HP1 HP2
        have HC := hid hc
        have HLT : Hid (((L.take k).filter fun c => !chB a b c).length ≤ 1000000000) := hid (Nat.le_trans filter_take_len (by omega))
        obtain ⟨X, hX⟩ : ∃ X, X = (L.take k).filter (fun c => !chB a b c) := ⟨_, rfl⟩
        rw [← hX] at HO HLT
        have HX := hid hX
        obtain ⟨ao, co, rfl⟩ := own_shape HO.out
        clear hc hbw hxl hyl p1 p2 p3 p4 p5 p6 hX
        cases P1 with
        | false =>
          rw [show (!false) = true from rfl] at HP1
          have HY : Hid ((L.take (k + 1)).filter (fun c => !chB a b c) = X ++ [⟨x, n, y, m⟩]) := hid (by rw [HX.out]; exact filter_take_yes HC.out (by rw [HE.out]; rfl))
          go_wp2
          go_quiet ((go_at_call 27; exact Calls.quiet_of_same (HP1.out _)))
          have HO2 := hid (own_stays HO.out (below_drew_self wr nq))
          have HB2 := hid (below_drewN HB.out nq)
          have e0 : (wr.drewN nq).cell? ⟨bl, ol + k * 4, none⟩ = some (.int .i64 x) := d0
          have e1 : (wr.drewN nq).cell? ⟨bl, ol + k * 4 + 1, none⟩ = some (.int .i64 n) := d1
          have e2 : (wr.drewN nq).cell? ⟨bl, ol + k * 4 + 2, none⟩ = some (.int .i64 y) := d2
          have e3 : (wr.drewN nq).cell? ⟨bl, ol + k * 4 + 3, none⟩ = some (.int .i64 m) := d3
          generalize wr.drewN nq = w2 at HO2 HB2 e0 e1 e2 e3 ⊢
          have HBN := hid ((Below.refl w2.heap.size w2).alloc (Nat.le_refl _) (.cells #[.int .i64 x, .int .i64 n, .int .i64 y, .int .i64 m] 42))
          go_wp2_with (at_builtin; refine wpList_append_ch rfl _ _ rfl w1.heap.size _ X rfl (own_stays HO2.out HBN.out) w2.heap.size ⟨x, n, y, m⟩ rfl (heap_alloc_new w2 _) HLT.out (Nat.le_trans HB2.out.size HBN.out.size) ?_; intro v2 w3 hO2 hb2; have HO3 := hid hO2; have HB3 := hid ((HB2.out.trans (HBN.out.mono HB2.out.size)).trans hb2); clear hO2 hb2)
          go_roundw
          case rel => exact ⟨k + 1, by push_cast; rfl, by omega, by show OwnC _ _ _ _; rw [HY.out]; exact HO3.out, HB3⟩
          case measure => simp [intOf]; omega
        | true =>
          rw [show (!true) = false from rfl] at HP1
          cases P2 with
          | false =>
            rw [show (!false) = true from rfl] at HP2
            have HY : Hid ((L.take (k + 1)).filter (fun c => !chB a b c) = X ++ [⟨x, n, y, m⟩]) := hid (by rw [HX.out]; exact filter_take_yes HC.out (by rw [HE.out]; rfl))
            go_wp2
            go_quiet ((go_at_call 27; first | with_reducible exact Calls.quiet_of_same (HP1.out _) | with_reducible exact Calls.quiet_of_same (HP2.out _)))
            have HO2 := hid (own_stays HO.out (below_drew_self wr nq))
            have HB2 := hid (below_drewN HB.out nq)
            have e0 : (wr.drewN nq).cell? ⟨bl, ol + k * 4, none⟩ = some (.int .i64 x) := d0
            have e1 : (wr.drewN nq).cell? ⟨bl, ol + k * 4 + 1, none⟩ = some (.int .i64 n) := d1
            have e2 : (wr.drewN nq).cell? ⟨bl, ol + k * 4 + 2, none⟩ = some (.int .i64 y) := d2
            have e3 : (wr.drewN nq).cell? ⟨bl, ol + k * 4 + 3, none⟩ = some (.int .i64 m) := d3
            generalize wr.drewN nq = w2 at HO2 HB2 e0 e1 e2 e3 ⊢
            have HBN := hid ((Below.refl w2.heap.size w2).alloc (Nat.le_refl _) (.cells #[.int .i64 x, .int .i64 n, .int .i64 y, .int .i64 m] 42))
            go_wp2_with (at_builtin; refine wpList_append_ch rfl _ _ rfl w1.heap.size _ X rfl (own_stays HO2.out HBN.out) w2.heap.size ⟨x, n, y, m⟩ rfl (heap_alloc_new w2 _) HLT.out (Nat.le_trans HB2.out.size HBN.out.size) ?_; intro v2 w3 hO2 hb2; have HO3 := hid hO2; have HB3 := hid ((HB2.out.trans (HBN.out.mono HB2.out.size)).trans hb2); clear hO2 hb2)
            go_roundw
            case rel => exact ⟨k + 1, by push_cast; rfl, by omega, by show OwnC _ _ _ _; rw [HY.out]; exact HO3.out, HB3⟩
            case measure => simp [intOf]; omega
          | true =>
            rw [show (!true) = false from rfl] at HP2
            have HY : Hid ((L.take (k + 1)).filter (fun c => !chB a b c) = X) := hid (by rw [HX.out]; exact filter_take_no HC.out (by rw [HE.out]; rfl))
            go_wp2
            go_quiet ((go_at_call 27; first | with_reducible exact Calls.quiet_of_same (HP1.out _) | with_reducible exact Calls.quiet_of_same (HP2.out _)))
            have HO2 := hid (own_stays HO.out (below_drew_self wr nq))
            have HB2 := hid (below_drewN HB.out nq)
            generalize wr.drewN nq = w2 at HO2 HB2 ⊢
            go_wp2
            go_roundw
            case rel => exact ⟨k + 1, by push_cast; rfl, by omega, by show OwnC _ _ _ _; rw [HY.out]; exact HO2.out, HB2⟩
            case measure => simp [intOf]; omega
      · have hkk : L.take k = L := List.take_of_length_le (by omega)
        have HE : Hid (OwnC wr w1.heap.size _ (L.filter fun c => !chB a b c)) := hid (by have h := HO.out; rw [hkk] at h; exact h)
        have k2 : ¬ (k : Int) < (L.length : Int) := by omega
        clear hkk HO
        go_wp2
        go_ret2
        exact ⟨_, rfl, own_mono HE.out HB1.out.size, HB1.out.trans (HB.out.mono HB1.out.size)⟩
  · have HBL : Hid (blA s a b = []) := hid (by unfold blA nrmA; rw [if_neg hk]; rfl)
    generalize Ed.validN s a.length b.length = K at HN hk ⊢
    have z1 : ((K : Int) == 0) = false := by rw [beq_eq_false_iff_ne]; omega
    clear hk
    go_enter Tryd.func12, Tryd.ntmps12
    go_wp2_with fail
    refine HN.out.mono ?_
    rintro e w1 ⟨v1, rfl, hO1, hb1⟩
    have HB1 := hid hb1
    clear hO1 hb1
    go_wp2
    go_ret2
    refine ⟨_, rfl, ?_, HB1.out⟩
    rw [HBL.out]
    exact World.ownsRow_nil _ _ _ _
end Go.Proofs.YtmomeemkdfoklaaDoor
