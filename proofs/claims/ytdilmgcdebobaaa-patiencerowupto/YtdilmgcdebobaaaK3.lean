/-
  The walk of script.
-/
import Derived.Test.YtdilmgcdebobaaaK2
namespace Go.Proofs.Ytdilmgcdebobaaa
open Go.RowKit
open Ed (Ch Run Pr)

theorem Try.infoChange : (Try.prog.info? 33).map (fun i => (i.zero, i.size, i.bytes)) = some (some (.agg #[.int .i64 0, .int .i64 0, .int .i64 0, .int .i64 0]), 4, 32) := by kernel_rfl
theorem wpList_append_ch {w : World} {ops : Array Oper} {rest : List Oper} {o : Oper} {a : Act} {Q : Exit → Act → World → Prop} (hgd : o.guard = none) (s x : Operand)
    (ho : o.op = .call { callee := .builtin .append, args := #[s, x], argTypes := #[30, 30] }) (B : Nat) (v : Value) (l : List Ch) (hs : a.eval s = v) (hown : OwnC w B v l)
    (g : Nat) (c : Ch) (hx : a.eval x = .slice (some ⟨g, 0, none⟩) 1 1) (hg : w.heap[g]? = some (.cells #[.int .i64 c.a, .int .i64 c.n, .int .i64 c.b, .int .i64 c.m] 33)) (hfit : l.length ≤ 1000000000) (hB : B ≤ w.heap.size)
    (h : ∀ v' w', OwnC w' B v' (l ++ [c]) → Below B w w' → wpList Try.prog ops Q rest (a.put o.dst v') w') : wpList Try.prog ops Q (o :: rest) a w := by
  obtain ⟨i0, hi, hz0, hz1, hz2⟩ := info_parts Try.infoChange
  refine wpList_append_lies _ hgd s x 30 ho B 33 i0 (.agg #[.int .i64 0, .int .i64 0, .int .i64 0, .int .i64 0]) 4 32 Try.underlying30 hi hz0 hz1 hz2 rfl (by decide) v l.length (csC l) hs hown ⟨g, 0, none⟩ 1 1 (cC c) hx rfl ?_ ?_ (by decide) ?_ ?_ hB w.heap.size rfl ?_
  · exact World.news_of_block (cs := #[.int .i64 c.a, .int .i64 c.n, .int .i64 c.b, .int .i64 c.m]) hg
  · have := csC_one [c]
    simpa [csC] using this
  · unfold maxLen; omega
  · omega
  · intro g' cap w' g2 g3 _ _
    refine h _ w' ?_ ((Below.refl _ _).grown g3 hB (own_ge hown))
    show w'.ownsRow _ _ _ _ _ _
    rw [List.length_append, csC_append]
    have e : csC [c] = cC c := by simp [csC]
    rw [e]; exact g2
theorem fpos_nil {l : List Bool} (h : (My.fpos l 0).length = 0) (h2 : My.mk0 l = 0) : l = [] := by
  rcases My.fpos_head l 0 h2 with ⟨h, _⟩ | e
  · exact h
  · rw [e] at h; simp at h

set_option maxHeartbeats 8000000 in
set_option maxRecDepth 100000 in
theorem script_any {vg vc : Value} {g c : List Bool} {w : World} (F h : Nat) (hg : RdB w vg g) (hc : RdB w vc c) (hgl : g.length ≤ 10000000) (hcl : c.length ≤ 10000000) (hh : h ≤ 10000000) (hF : 2 * (g.length + c.length) + 1 < F) (hn : (My.fpos g 0).length = (My.fpos c 0).length) :
    Calls Try.prog 87 #[vg, vc, .int .i64 h] w fun e w' => ∃ v', e = .returned v' ∧ OwnC w' w.heap.size v' (My.scr F g c h h) ∧ Below w.heap.size w w' := by
  obtain ⟨a0, c0, rfl⟩ := hg.shape
  obtain ⟨a1, c1, rfl⟩ := hc.shape
  have HG := hid hg
  have HC := hid hc
  obtain ⟨S, hS⟩ : ∃ S, S = My.scr F g c h h := ⟨_, rfl⟩
  rw [← hS]
  have HS := hid hS
  have HN := hid hn
  have hgc := rd_cap hg
  have hcc := rd_cap hc
  clear hg hc hS hn
  go_enter Try.func87, Try.ntmps87
  go_wp2
  go_loopw [7, 8, 9] (fun o x y wr => ∃ (X Y f : Nat) (O : List Ch), X ≤ g.length ∧ Y ≤ c.length ∧ x = .int .i64 X ∧ y = .int .i64 Y ∧ O.length ≤ X + Y ∧ 2 * ((g.length - X) + (c.length - Y)) + (if My.mk0 (g.drop X) = 0 ∧ My.mk0 (c.drop Y) = 0 then 0 else 1) < f ∧ Hid (S = O ++ My.scr f (g.drop X) (c.drop Y) ((h : Int) + X) ((h : Int) + Y)) ∧ Hid ((My.fpos (g.drop X) 0).length = (My.fpos (c.drop Y) 0).length) ∧ Hid (OwnC wr w.heap.size o O) ∧ Hid (Below w.heap.size w wr)) (fun _ x y _ => 2 * ((g.length - (intOf x).toNat) + (c.length - (intOf y).toNat)))
  case atStart => exact ⟨0, 0, F, [], Nat.zero_le _, Nat.zero_le _, rfl, rfl, Nat.zero_le _, by split <;> omega, hid (by simpa using HS.out), HN, hid (World.ownsRow_nil _ _ _ _), hid (Below.refl _ _)⟩
  case round =>
    obtain ⟨X, Y, f, O, hX, hY, rfl, rfl, hOl, hf, HE, HL, HO, HB⟩ := hrel
    obtain ⟨f, rfl⟩ : ∃ f', f = f' + 1 := ⟨f - 1, by omega⟩
    obtain ⟨ao, co, eo⟩ := own_shape HO.out
    subst eo
    rw [My.scr] at HE
    by_cases hend : X = g.length ∧ Y = c.length
    · obtain ⟨rfl, rfl⟩ := hend
      have HSE : Hid (S = O) := hid (by
        rw [HE.out, if_pos (by simp), List.append_nil])
      have HOE : Hid (OwnC wr w.heap.size (.slice ao O.length co) S) := hid (by rw [HSE.out]; exact HO.out)
      have e1 : decide ((g.length : Int) < (g.length : Int)) = false := decide_eq_false (by omega)
      have e2 : decide ((c.length : Int) < (c.length : Int)) = false := decide_eq_false (by omega)
      clear HE HL
      go_wp2
      go_ret
      exact ⟨_, rfl, HOE.out, HB.out⟩
    · rw [if_neg (by rw [List.length_drop, List.length_drop]; omega)] at HE
      have HMG := hid (fun w1 (hb : Below w.heap.size w w1) => marked_any (rdB_part (HG.out.below hb) rfl hX) (by rw [List.length_drop]; omega))
      have HMC := hid (fun w1 (hb : Below w.heap.size w w1) => marked_any (rdB_part (HC.out.below hb) rfl hY) (by rw [List.length_drop]; omega))
      have hn1 := My.mk0_le (g.drop X)
      have hn2 := My.mk0_le (c.drop Y)
      rw [List.length_drop] at hn1 hn2
      have HSK1 := hid (My.fpos_skip (g.drop X) 0)
      have HSK2 := hid (My.fpos_skip (c.drop Y) 0)
      have HMD1 := hid (My.mk0_drop (g.drop X))
      have HMD2 := hid (My.mk0_drop (c.drop Y))
      have HH1 := hid (fun q => My.fpos_head (g.drop X) 0 q)
      have HH2 := hid (fun q => My.fpos_head (c.drop Y) 0 q)
      obtain ⟨A, hAe⟩ : ∃ A, (if c0 = X then a0 else a0.map (·.add X)) = A := ⟨_, rfl⟩
      obtain ⟨B, hBe⟩ : ∃ B, (if c1 = Y then a1 else a1.map (·.add Y)) = B := ⟨_, rfl⟩
      rw [hAe] at HMG
      rw [hBe] at HMC
      generalize My.mk0 (g.drop X) = n at *
      generalize My.mk0 (c.drop Y) = m at *
      have HHE := hid hend
      go_upto_region 3 with fail
      go_cut [21] (fun c21 wc => c21 = .bool true ∧ wc = wr)
      case first =>
        by_cases hx : (X : Int) < (g.length : Int)
        · go_wp2
          go_meet
          exact ⟨rfl, rfl⟩
        · have hy : (Y : Int) < (c.length : Int) := by have := HHE.out; omega
          go_wp2
          go_meet
          exact ⟨rfl, rfl⟩
      case rest =>
        obtain ⟨rfl, rfl⟩ := hcut
        have i1 : (0 : Int) ≤ (X : Int) := by omega
        have i2 : (X : Int) ≤ (g.length : Int) := by omega
        have i3 : (0 : Int) ≤ (Y : Int) := by omega
        have i4 : (Y : Int) ≤ (c.length : Int) := by omega
        go_wp2_with fail
        go_region_held3 (fun _ => True)
          (first | trivial | go_keep)
          (first
            | (go_at_call 92; have hq := HM1.out; refine (HMC.out _ (below_drewN HB.out 1)).mono ?_; rintro e w2 ⟨rfl, rfl⟩; clear hq)
            | (go_at_call 92; refine (HMG.out _ (below_drewN HB.out 1)).mono ?_; rintro e w2 ⟨rfl, rfl⟩; have HM1 : Hid True := hid trivial))
        have HB1 := hid (below_drewN HB.out 1)
        have HO1 : Hid (OwnC (wc.drewN 1) w.heap.size (.slice ao O.length co) O) := hid (own_stays HO.out (below_drewN (Below.refl _ _) 1))
        obtain ⟨w1, hw1⟩ : ∃ w1, w1 = wc.drewN 1 := ⟨_, rfl⟩
        rw [← hw1] at HB1 HO1
        have e1 : (g.drop X).drop 1 = g.drop (X + 1) := by rw [List.drop_drop]
        have e2 : (c.drop Y).drop 1 = c.drop (Y + 1) := by rw [List.drop_drop]
        have e3 : (g.drop X).drop n = g.drop (X + n) := by rw [List.drop_drop]
        have e4 : (c.drop Y).drop m = c.drop (Y + m) := by rw [List.drop_drop]
        rw [e1] at HE HH1
        rw [e2] at HE HH2
        rw [e3] at HE HSK1 HMD1
        rw [e4] at HE HSK2 HMD2
        by_cases hz : n = 0 ∧ m = 0
        · rw [if_pos hz] at HE hf
          have hlt : X < g.length ∧ Y < c.length := by
            have hl := HL.out
            have hne := HHE.out
            rcases HH1.out hz.1 with ⟨q1, q2⟩ | q2
            · rcases HH2.out hz.2 with ⟨q3, q4⟩ | q4
              · have := congrArg List.length q1
                have := congrArg List.length q3
                rw [List.length_drop, List.length_nil] at *
                omega
              · rw [q2, q4] at hl; simp at hl
            · rcases HH2.out hz.2 with ⟨q3, q4⟩ | q4
              · rw [q2, q4] at hl; simp at hl
              · constructor
                · rcases Nat.lt_or_ge X g.length with q | q
                  · exact q
                  · rw [List.drop_eq_nil_of_le q] at q2; simp [My.fpos] at q2
                · rcases Nat.lt_or_ge Y c.length with q | q
                  · exact q
                  · rw [List.drop_eq_nil_of_le q] at q4; simp [My.fpos] at q4
          have HL2 : Hid ((My.fpos (g.drop (X + 1)) 0).length = (My.fpos (c.drop (Y + 1)) 0).length) := hid (by
            have hl := HL.out
            rcases HH1.out hz.1 with ⟨q1, _⟩ | q2
            · have := congrArg List.length q1; rw [List.length_drop, List.length_nil] at this; omega
            · rcases HH2.out hz.2 with ⟨q3, _⟩ | q4
              · have := congrArg List.length q3; rw [List.length_drop, List.length_nil] at this; omega
              · rw [q2, q4, List.length_cons, List.length_cons] at hl
                rw [My.fpos_len0 _ 0 (0 + 1), My.fpos_len0 (c.drop (Y + 1)) 0 (0 + 1)]
                omega)
          have HE2 : Hid (S = O ++ My.scr f (g.drop (X + 1)) (c.drop (Y + 1)) ((h : Int) + ((X + 1 : Nat) : Int)) ((h : Int) + ((Y + 1 : Nat) : Int))) := hid (by
            rw [HE.out]
            congr 2 <;> omega)
          obtain ⟨rfl, rfl⟩ := hz
          rw [← hw1]
          clear HE HL HH1 HH2 HSK1 HSK2 HMD1 HMD2 HMG HMC hw1 e1 e2 e3 e4
          go_wp2
          go_roundw
          case rel => exact ⟨X + 1, Y + 1, f, O, by omega, by omega, by go_num, by go_num, by omega, by split <;> omega, HE2, HL2, HO1, HB1⟩
          case measure => simp [intOf]; omega
        · rw [if_neg hz] at HE hf
          have HL2 : Hid ((My.fpos (g.drop (X + n)) 0).length = (My.fpos (c.drop (Y + m)) 0).length) := hid (by
            have hl := HL.out
            rw [HSK1.out, HSK2.out] at hl
            rw [My.fpos_len0 _ 0 (0 + n), My.fpos_len0 (c.drop (Y + m)) 0 (0 + m)]
            exact hl)
          have HE2 : Hid (S = (O ++ [⟨(h : Int) + X, n, (h : Int) + Y, m⟩]) ++ My.scr f (g.drop (X + n)) (c.drop (Y + m)) ((h : Int) + ((X + n : Nat) : Int)) ((h : Int) + ((Y + m : Nat) : Int))) := hid (by
            rw [HE.out, List.append_assoc, List.singleton_append]
            congr 3 <;> omega)
          have hf2 : 2 * ((g.length - (X + n)) + (c.length - (Y + m))) + (if My.mk0 (g.drop (X + n)) = 0 ∧ My.mk0 (c.drop (Y + m)) = 0 then 0 else 1) < f := by
            rw [if_pos ⟨HMD1.out, HMD2.out⟩]; omega
          have hnz : ¬ ((n : Int) = 0 ∧ (m : Int) = 0) := by omega
          have i5 : IntKind.i64.wrap ((h : Int) + (X : Int)) = (h : Int) + (X : Int) := wrapOk (by omega) (by omega)
          have i6 : IntKind.i64.wrap ((h : Int) + (Y : Int)) = (h : Int) + (Y : Int) := wrapOk (by omega) (by omega)
          have HBN := hid ((Below.refl w1.heap.size w1).alloc (Nat.le_refl _) (.cells #[.int .i64 ((h : Int) + X), .int .i64 n, .int .i64 ((h : Int) + Y), .int .i64 m] 33))
          have HOA := hid (own_stays HO1.out HBN.out)
          rw [← hw1]
          clear HE HL HH1 HH2 HSK1 HSK2 HMD1 HMD2 HMG HMC hw1 e1 e2 e3 e4
          go_upto_region 5 with fail
          go_cut [35] (fun c35 wx => c35 = .bool false ∧ wx = w1)
          case first =>
            by_cases hn0 : n = 0
            · have q1 : ((n : Int) == 0) = true := ieq (by omega)
              have q2 : ((m : Int) == 0) = false := ine (by omega)
              go_wp2
              go_meet
              exact ⟨rfl, rfl⟩
            · have q1 : ((n : Int) == 0) = false := ine (by omega)
              go_wp2
              go_meet
              exact ⟨rfl, rfl⟩
          case rest =>
            obtain ⟨rfl, hwx⟩ := hcut
            subst hwx
            go_wp2_with (at_builtin; refine wpList_append_ch rfl _ _ rfl w.heap.size _ O rfl HOA.out wc.heap.size ⟨(h : Int) + X, n, (h : Int) + Y, m⟩ rfl (heap_alloc_new wc _) (by omega) (Nat.le_trans HB1.out.size HBN.out.size) ?_; intro v2 w2 hO2 hb2; have HO2 := hid hO2; have HB2 := hid ((HB1.out.trans (HBN.out.mono HB1.out.size)).trans hb2); clear hO2 hb2)
            go_roundw
            case rel => exact ⟨X + n, Y + m, f, O ++ [⟨(h : Int) + X, n, (h : Int) + Y, m⟩], by omega, by omega, by go_num, by go_num, by rw [List.length_append, List.length_singleton]; omega, hf2, HE2, HL2, HO2, HB2⟩
            case measure => simp [intOf]; omega
end Go.Proofs.Ytdilmgcdebobaaa
