/-
  Several texts in one: U6, U7, U8, U9.
-/
import Derived.Test.YtobocdbehjcpjaaGreatDoorU5
import Derived.Test.YtobocdbehjcpjaaGreatDoorGrXq
import Derived.Test.YtobocdbehjcpjaaGreatDoorGrJ6
/-
  The document's Behind and Number (layer 11).
-/
namespace Go.Proofs.YtobocdbehjcpjaaGreatDoor
open Go.RowKit

theorem wrap8 {n : Int} (h1 : 0 ≤ n) (h2 : n ≤ 255) : IntKind.u8.wrap n = n := by
  rw [IntKind.wrap_u8]; omega
theorem pre_take {p s : Un.Bs} (he : s.take p.length = p) : Un.pre p s = some (s.drop p.length) := by
  rw [Un.pre_some]
  calc s = s.take p.length ++ s.drop p.length := (List.take_append_drop _ _).symm
    _ = p ++ s.drop p.length := by rw [he]
theorem pre_not {p s : Un.Bs} (h : s.take p.length ≠ p) : Un.pre p s = none := by
  cases hp : Un.pre p s with
  | none => rfl
  | some r => exact absurd (by rw [Un.pre_some.1 hp, List.take_left]) h
theorem dropE (x : ByteArray) (k : Nat) : x.extract k x.size = bB (x.data.toList.drop k) := by
  apply ba_ext
  rw [bB_data]
  exact Lib.extract_to_end _ _
theorem ba_no {x y : ByteArray} (h : x ≠ y) : (x == y) = false := by
  cases hb : (x == y) with
  | false => rfl
  | true =>
    exfalso
    apply h
    cases x with | mk a => cases y with | mk b =>
    have : (a == b) = true := hb
    rw [eq_of_beq this]
/-- what is behind a beginning -/
def behB (p s : Un.Bs) : Value := .tuple #[.string (bB ((Un.pre p s).getD [])), .bool (Un.pre p s).isSome]
set_option maxHeartbeats 1000000 in
set_option maxRecDepth 100000 in
theorem rBehind_any (s p : ByteArray) (w : World) :
    Calls Tryz.prog 33 #[.string s, .string p] w fun e w' => e = .returned (behB p.data.toList s.data.toList) ∧ w' = w := by
  by_cases h : s.size < p.size
  · have hlt : (s.size : Int) < (p.size : Int) := by omega
    have HE : Hid (Un.pre p.data.toList s.data.toList = none) := hid (pre_not fun e => by
      have := congrArg List.length e
      rw [List.length_take, dsize, dsize] at this
      omega)
    unfold behB
    rw [HE.out]
    clear h
    go_enter Tryz.func33, Tryz.ntmps33
    go_wp2_with fail
    go_ret2
    exact ⟨rfl, rfl⟩
  · have hlt : ¬ ((s.size : Int) < (p.size : Int)) := by omega
    have hle : (p.size : Int) ≤ (s.size : Int) := by omega
    by_cases he : s.extract 0 p.size = p
    · have HE : Hid (Un.pre p.data.toList s.data.toList = some (s.data.toList.drop p.size)) := hid (by
        rw [← dsize p]
        exact pre_take (by rw [dsize p, ← ext0, he]))
      have b1 : ((s.extract 0 p.size).toList == p.toList) = true := by rw [he]; exact beq_iff_eq.2 rfl
      have HX := hid (dropE s p.size)
      unfold behB
      rw [HE.out, Option.getD_some, ← HX.out]
      clear h he
      go_enter Tryz.func33, Tryz.ntmps33
      go_wp2_with fail
      go_ret2
      exact ⟨rfl, rfl⟩
    · have HE : Hid (Un.pre p.data.toList s.data.toList = none) := hid (pre_not fun e => he (ba_ext (by rw [ext0, ← dsize p]; exact e)))
      have b1 : ((s.extract 0 p.size).toList == p.toList) = false := beq_eq_false_iff_ne.2 (fun e => he (ba_ext (by rw [← ByteArray.toList_eq, ← ByteArray.toList_eq]; exact e)))
      unfold behB
      rw [HE.out]
      clear h he
      go_enter Tryz.func33, Tryz.ntmps33
      go_wp2_with fail
      go_ret2
      exact ⟨rfl, rfl⟩
theorem val_snoc (l : Un.Bs) (c : UInt8) : Un.val (l ++ [c]) = Un.val l * 10 + (c.toNat - 48) := by unfold Un.val; rw [List.foldl_append]; rfl
def cap (n : Nat) : Nat := min n 2147483648
theorem cap_le (n : Nat) : cap n ≤ 2147483648 := Nat.min_le_right _ _
theorem cap_step (v d : Nat) : min (cap v * 10 + d) 2147483648 = cap (v * 10 + d) := by unfold cap; omega
theorem num_stop {s : Un.Bs} {k : Nat} (h : (s.take k).all Un.dg = true) (hs : ∀ c, (s.drop k).head? = some c → Un.dg c = false) : s.takeWhile Un.dg = s.take k ∧ s.dropWhile Un.dg = s.drop k := by
  have := Un.all_tw h (s.drop k) hs
  rwa [List.take_append_drop] at this
/-- what Number answers: of a text where there is no number, its two other answers are some ones -/
def NumAns (s : Un.Bs) (e : Ending) : Prop := ∃ (n : Nat) (r : Un.Bs), e = .returned (.tuple #[.int .i64 n, .string (bB r), .bool (Un.numD s).isSome]) ∧ n ≤ 2147483648 ∧ r.length ≤ s.length ∧ ∀ p, Un.numD s = some p → n = p.1 ∧ r = p.2
theorem numAns {s : Un.Bs} {k : Nat} (h : (s.take k).all Un.dg = true) (hk : k ≤ s.length) (hs : ∀ c, (s.drop k).head? = some c → Un.dg c = false) {e : Ending}
    (he : e = .returned (.tuple #[.int .i64 (cap (Un.val (s.take k)) : Nat), .string (bB (s.drop k)), .bool (decide (0 < k) && decide (cap (Un.val (s.take k)) ≤ 2147483647))])) : NumAns s e := by
  obtain ⟨e1, e2⟩ := num_stop h hs
  have hl : (s.take k).length = k := by rw [List.length_take]; omega
  have hb : (Un.numD s).isSome = (decide (0 < k) && decide (cap (Un.val (s.take k)) ≤ 2147483647)) := by
    unfold Un.numD
    rw [e1, e2]
    by_cases h0 : 0 < k
    · have hne : s.take k ≠ [] := fun e => by rw [e] at hl; simp at hl; omega
      by_cases h1 : Un.val (s.take k) ≤ 2147483647
      · rw [if_pos ⟨hne, h1⟩, decide_eq_true h0, decide_eq_true (show cap _ ≤ _ by unfold cap; omega)]; rfl
      · rw [if_neg (fun q => h1 q.2), decide_eq_true h0, decide_eq_false (show ¬ cap _ ≤ _ by unfold cap; omega)]; rfl
    · have h00 : k = 0 := by omega
      rw [h00, if_neg (fun q => q.1 rfl)]; rfl
  refine ⟨cap (Un.val (s.take k)), s.drop k, ?_, cap_le _, ?_, ?_⟩
  · rw [hb]; exact he
  · rw [List.length_drop]; omega
  · intro p hp
    unfold Un.numD at hp
    rw [e1, e2] at hp
    split at hp
    · rename_i hq
      cases hp
      exact ⟨by unfold cap; omega, rfl⟩
    · cases hp
set_option maxHeartbeats 2000000 in
set_option maxRecDepth 100000 in
theorem rNumber_any (s : ByteArray) (w : World) (hs : s.size ≤ maxLen) :
    Calls Tryz.prog 99 #[.string s] w fun e w' => NumAns s.data.toList e ∧ Below w.heap.size w w' := by
  unfold maxLen at hs
  go_enter Tryz.func99, Tryz.ntmps99
  go_wp2_with fail
  go_loopw [5, 6] (fun i n wr => ∃ (k N : Nat), k ≤ s.size ∧ i = .int .i64 k ∧ n = .int .i64 N ∧ N ≤ 2147483648 ∧ Hid (N = cap (Un.val (s.data.toList.take k)) ∧ (s.data.toList.take k).all Un.dg = true) ∧ wr = w) (fun i _ _ => s.size - (intOf i).toNat)
  case atStart => exact ⟨0, 0, Nat.zero_le _, rfl, rfl, Nat.zero_le _, hid ⟨rfl, rfl⟩, rfl⟩
  case round =>
    obtain ⟨k, N, hk, rfl, rfl, hN, HV, rfl⟩ := hrel
    have hle : (k : Int) ≤ (s.size : Int) := by omega
    have HX := hid (dropE s k)
    have FIN : Hid (Hid (∀ c, (s.data.toList.drop k).head? = some c → Un.dg c = false) → ∀ e, e = .returned (.tuple #[.int .i64 (N : Nat), .string (s.extract k s.size), .bool (decide (0 < k) && decide (N ≤ 2147483647))]) → NumAns s.data.toList e) := hid (fun h e he => by
      refine numAns HV.out.2 (by rw [dsize]; exact hk) h.out ?_
      rw [← HV.out.1, ← HX.out]
      exact he)
    by_cases hlt : k < s.size
    · have hat := hid (Cx.byte_at s k hlt)
      have hl1 : (k : Int) < (s.size : Int) := by omega
      have hhd : Hid (∀ c, (s.data.toList.drop k).head? = some c → c = s[k]) := hid (fun c hc => by
        rw [List.head?_drop, hat.out] at hc
        exact (Option.some.inj hc).symm)
      by_cases h1 : (48 : Int) ≤ (s[k].toNat : Int)
      · by_cases h2 : (s[k].toNat : Int) ≤ 57
        · obtain ⟨d, hd⟩ : ∃ d : Nat, s[k].toNat - 48 = d := ⟨_, rfl⟩
          have hd9 : d ≤ 9 := by omega
          have i1 : IntKind.u8.wrap ((s[k].toNat : Int) - 48) = (d : Int) := by rw [wrap8 (by omega) (by omega)]; omega
          have i2 : IntKind.i64.wrap ((N : Int) * 10) = (N : Int) * 10 := wrapOk (by omega) (by omega)
          have i3 : IntKind.i64.wrap ((N : Int) * 10 + (d : Int)) = (N : Int) * 10 + (d : Int) := wrapOk (by omega) (by omega)
          have i4 : IntKind.i64.wrap ((k : Int) + 1) = ((k + 1 : Nat) : Int) := by rw [wrapOk (by omega) (by omega)]; omega
          have i5 : IntKind.i64.wrap (d : Int) = (d : Int) := wrapOk (by omega) (by omega)
          obtain ⟨M, hM⟩ : ∃ M : Nat, M = min (N * 10 + d) 2147483648 := ⟨_, rfl⟩
          have i6 : min ((N : Int) * 10 + (d : Int)) 2147483648 = (M : Int) := by omega
          have HN : Hid (M ≤ 2147483648 ∧ M = cap (Un.val (s.data.toList.take (k + 1))) ∧ (s.data.toList.take (k + 1)).all Un.dg = true) := hid (by
            have e1 : s.data.toList.take (k + 1) = s.data.toList.take k ++ [s[k]] := by rw [List.take_add_one, hat.out]; rfl
            refine ⟨by omega, ?_, ?_⟩
            · rw [e1, val_snoc, hd, ← cap_step, ← HV.out.1]; exact hM
            · rw [e1, List.all_append, HV.out.2]
              simp [Un.dg]
              omega)
          clear hM hd hd9
          go_wp2_with fail
          refine ⟨?_, ?_⟩
          · exact ⟨k + 1, M, by omega, rfl, rfl, HN.out.1, hid HN.out.2, trivial⟩
          · simp [intOf]; omega
        · have hs2 : Hid (∀ c, (s.data.toList.drop k).head? = some c → Un.dg c = false) := hid (fun c hc => by
            rw [hhd.out c hc]; unfold Un.dg; rw [decide_eq_false (show ¬ s[k].toNat ≤ 57 by omega)]; simp)
          have HF' := FIN.out hs2
          clear FIN
          by_cases h0 : 0 < k
          · have z0 : decide (0 < k) = true := decide_eq_true h0
            by_cases h9 : (N : Int) ≤ 2147483647
            · have d9 : decide ((N : Int) ≤ 2147483647) = true := decide_eq_true h9
              have HG : Hid ((decide (0 < k) && decide (N ≤ 2147483647)) = true) := hid (by rw [decide_eq_true h0, decide_eq_true (show N ≤ 2147483647 by omega)]; rfl)
              rw [HG.out] at HF'
              have HF := hid HF'
              clear HF' h0 HG
              go_wp2
              go_quiet (fail)
              go_wp2
              go_ret3
              exact ⟨HF.out _ rfl, below_drewN (Below.refl _ _) _⟩
            · have d9 : decide ((N : Int) ≤ 2147483647) = false := decide_eq_false h9
              have HG : Hid ((decide (0 < k) && decide (N ≤ 2147483647)) = false) := hid (by rw [decide_eq_false (show ¬ N ≤ 2147483647 by omega)]; simp)
              rw [HG.out] at HF'
              have HF := hid HF'
              clear HF' h0 HG
              go_wp2
              go_quiet (fail)
              go_wp2
              go_ret3
              exact ⟨HF.out _ rfl, below_drewN (Below.refl _ _) _⟩
          · have z0 : decide (0 < k) = false := decide_eq_false h0
            have HG : Hid ((decide (0 < k) && decide (N ≤ 2147483647)) = false) := hid (by rw [z0]; rfl)
            rw [HG.out] at HF'
            have HF := hid HF'
            clear HF' h0 HG
            go_wp2
            go_quiet (fail)
            go_wp2
            go_ret3
            exact ⟨HF.out _ rfl, below_drewN (Below.refl _ _) _⟩
      · have hs2 : Hid (∀ c, (s.data.toList.drop k).head? = some c → Un.dg c = false) := hid (fun c hc => by
          rw [hhd.out c hc]; unfold Un.dg; rw [decide_eq_false (show ¬ 48 ≤ s[k].toNat by omega)]; simp)
        have HF' := FIN.out hs2
        clear FIN
        by_cases h0 : 0 < k
        · have z0 : decide (0 < k) = true := decide_eq_true h0
          by_cases h9 : (N : Int) ≤ 2147483647
          · have d9 : decide ((N : Int) ≤ 2147483647) = true := decide_eq_true h9
            have HG : Hid ((decide (0 < k) && decide (N ≤ 2147483647)) = true) := hid (by rw [decide_eq_true h0, decide_eq_true (show N ≤ 2147483647 by omega)]; rfl)
            rw [HG.out] at HF'
            have HF := hid HF'
            clear HF' h0 HG
            go_wp2
            go_quiet (fail)
            go_wp2
            go_ret3
            exact ⟨HF.out _ rfl, below_drewN (Below.refl _ _) _⟩
          · have d9 : decide ((N : Int) ≤ 2147483647) = false := decide_eq_false h9
            have HG : Hid ((decide (0 < k) && decide (N ≤ 2147483647)) = false) := hid (by rw [decide_eq_false (show ¬ N ≤ 2147483647 by omega)]; simp)
            rw [HG.out] at HF'
            have HF := hid HF'
            clear HF' h0 HG
            go_wp2
            go_quiet (fail)
            go_wp2
            go_ret3
            exact ⟨HF.out _ rfl, below_drewN (Below.refl _ _) _⟩
        · have z0 : decide (0 < k) = false := decide_eq_false h0
          have HG : Hid ((decide (0 < k) && decide (N ≤ 2147483647)) = false) := hid (by rw [z0]; rfl)
          rw [HG.out] at HF'
          have HF := hid HF'
          clear HF' h0 HG
          go_wp2
          go_quiet (fail)
          go_wp2
          go_ret3
          exact ⟨HF.out _ rfl, below_drewN (Below.refl _ _) _⟩
    · have hl1 : ¬ ((k : Int) < (s.size : Int)) := by omega
      have hs2 : Hid (∀ c, (s.data.toList.drop k).head? = some c → Un.dg c = false) := hid (fun c hc => by
        rw [List.drop_eq_nil_of_le (by rw [dsize]; omega)] at hc
        cases hc)
      have HF' := FIN.out hs2
      clear FIN
      by_cases h0 : 0 < k
      · have z0 : decide (0 < k) = true := decide_eq_true h0
        by_cases h9 : (N : Int) ≤ 2147483647
        · have d9 : decide ((N : Int) ≤ 2147483647) = true := decide_eq_true h9
          have HG : Hid ((decide (0 < k) && decide (N ≤ 2147483647)) = true) := hid (by rw [decide_eq_true h0, decide_eq_true (show N ≤ 2147483647 by omega)]; rfl)
          rw [HG.out] at HF'
          have HF := hid HF'
          clear HF' h0 HG
          go_wp2
          go_quiet (fail)
          go_wp2
          go_ret3
          exact ⟨HF.out _ rfl, below_drewN (Below.refl _ _) _⟩
        · have d9 : decide ((N : Int) ≤ 2147483647) = false := decide_eq_false h9
          have HG : Hid ((decide (0 < k) && decide (N ≤ 2147483647)) = false) := hid (by rw [decide_eq_false (show ¬ N ≤ 2147483647 by omega)]; simp)
          rw [HG.out] at HF'
          have HF := hid HF'
          clear HF' h0 HG
          go_wp2
          go_quiet (fail)
          go_wp2
          go_ret3
          exact ⟨HF.out _ rfl, below_drewN (Below.refl _ _) _⟩
      · have z0 : decide (0 < k) = false := decide_eq_false h0
        have HG : Hid ((decide (0 < k) && decide (N ≤ 2147483647)) = false) := hid (by rw [z0]; rfl)
        rw [HG.out] at HF'
        have HF := hid HF'
        clear HF' h0 HG
        go_wp2
        go_quiet (fail)
        go_wp2
        go_ret3
        exact ⟨HF.out _ rfl, below_drewN (Below.refl _ _) _⟩
end Go.Proofs.YtobocdbehjcpjaaGreatDoor
/-
  The document's spanned and Lines (layer 11).
-/
namespace Go.Proofs.YtobocdbehjcpjaaGreatDoor
open Go.RowKit

theorem bB_size (l : Un.Bs) : (bB l).size = l.length := by rw [← dsize, bB_data]
/-- what spanned answers: where there is no range, three of its answers are some ones -/
def SpAns (s : Un.Bs) (e : Ending) : Prop := ∃ (a n : Nat) (r : Un.Bs), e = .returned (.tuple #[.int .i64 a, .int .i64 n, .string (bB r), .bool (Un.spD s).isSome]) ∧ a ≤ 2147483648 ∧ n ≤ 2147483648 ∧ r.length ≤ s.length ∧ ∀ p, Un.spD s = some p → a = p.1 ∧ n = p.2.1 ∧ r = p.2.2
set_option maxHeartbeats 1000000 in
set_option maxRecDepth 100000 in
theorem rSpanned_any (s : ByteArray) (w : World) (hs : s.size ≤ maxLen) :
    Calls Tryz.prog 67 #[.string s] w fun e w' => SpAns s.data.toList e ∧ Below w.heap.size w w' := by
  have HS := hid hs
  clear hs
  go_enter Tryz.func67, Tryz.ntmps67
  go_wp2_with fail
  refine (rNumber_any s w HS.out).mono ?_
  rintro e w1 ⟨⟨n, r, rfl, hn, hr, hp⟩, hb1⟩
  have HB1 := hid hb1
  have HP := hid hp
  have HR := hid hr
  have HN := hid hn
  clear hb1 hp hr hn
  cases hq : Un.numD s.data.toList with
  | none =>
    have HE : Hid (Un.spD s.data.toList = none) := hid (by unfold Un.spD; rw [hq])
    rw [Option.isSome_none]
    clear hq
    go_wp2_with fail
    exact bodyPost_ret (v := .tuple #[.int .i64 0, .int .i64 0, .string ⟨#[]⟩, .bool false]) (by simp [results, Tryz.results67, go_sem]) rfl ⟨⟨0, 0, [], by rw [HE.out]; rfl, Nat.zero_le _, Nat.zero_le _, Nat.zero_le _, fun p hp => by rw [HE.out] at hp; cases hp⟩, HB1.out⟩
  | some q =>
    obtain ⟨x, r'⟩ := q
    obtain ⟨e1, e2⟩ := HP.out _ hq
    have E1 : n = x := e1
    have E2 : r = r' := e2
    subst E1 E2
    clear e1 e2
    have HQ := hid hq
    clear hq
    rw [Option.isSome_some]
    go_wp2_with fail
    refine (rBehind_any (bB r) ⟨#[44]⟩ w1).mono ?_
    rintro e w2 ⟨rfl, rfl⟩
    rw [bB_data, show (ByteArray.mk #[44]).data.toList = [44] from rfl]
    unfold behB
    cases hc : Un.pre [44] r with
    | none =>
      have HE : Hid (Un.spD s.data.toList = some (n, 1, r)) := hid (by unfold Un.spD; rw [HQ.out]; simp only []; rw [hc])
      clear hc
      rw [Option.isSome_none]
      go_wp2_with fail
      exact bodyPost_ret (v := .tuple #[.int .i64 (n : Nat), .int .i64 1, .string (bB r), .bool true]) (by simp [results, Tryz.results67, go_sem]) rfl ⟨⟨n, 1, r, by rw [HE.out]; rfl, HN.out, by omega, HR.out, fun p hp => by rw [HE.out] at hp; cases hp; exact ⟨rfl, rfl, rfl⟩⟩, HB1.out⟩
    | some r2 =>
      have HL : Hid (r2.length ≤ r.length) := hid (by rw [Un.pre_some.1 hc]; simp)
      have HE : Hid (Un.spD s.data.toList = (Un.numD r2).map fun p => (n, p.1, p.2)) := hid (by unfold Un.spD; rw [HQ.out]; simp only []; rw [hc])
      clear hc
      rw [Option.isSome_some, Option.getD_some]
      have HZ : Hid ((bB r2).size ≤ maxLen) := hid (by have h1 := HL.out; have h2 := HR.out; have h3 := HS.out; have h4 := dsize s; rw [bB_size]; omega)
      go_wp2_with fail
      refine (rNumber_any (bB r2) w2 HZ.out).mono ?_
      rintro e w3 ⟨⟨m, r3, rfl, hm, hr3, hp3⟩, hb3⟩
      rw [bB_data] at hr3 hp3
      have HB3 := hid (HB1.out.trans (hb3.mono HB1.out.size))
      have H3 := hid (And.intro hm (And.intro hr3 hp3))
      clear hm hr3 hp3 hb3
      rw [bB_data]
      go_wp2_with fail
      exact bodyPost_ret (v := .tuple #[.int .i64 (n : Nat), .int .i64 (m : Nat), .string (bB r3), .bool (Un.numD r2).isSome]) (by simp [results, Tryz.results67, go_sem]) rfl ⟨⟨n, m, r3, by rw [HE.out, Option.isSome_map], HN.out, H3.out.1, Nat.le_trans H3.out.2.1 (Nat.le_trans HL.out HR.out), fun p hp => by
        rw [HE.out] at hp
        cases hq3 : Un.numD r2 with
        | none => rw [hq3] at hp; cases hp
        | some q3 =>
          rw [hq3] at hp
          cases hp
          obtain ⟨k1, k2⟩ := H3.out.2.2 _ hq3
          exact ⟨rfl, k1, k2⟩⟩, HB3.out⟩
end Go.Proofs.YtobocdbehjcpjaaGreatDoor
/-
  The document's Header (layer 11).
-/
namespace Go.Proofs.YtobocdbehjcpjaaGreatDoor
open Go.RowKit

def nmV : Option (Un.Bs × Un.Bs) → Value
  | none => .agg #[.string ⟨#[]⟩, .string ⟨#[]⟩]
  | some (a, s) => .agg #[.string (bB a), .string (bB s)]
def hdrV (o : Option (Un.Bs × Un.Bs)) : Value := .tuple #[nmV o, .bool o.isSome]
theorem stmp_nil {a : Un.Bs} {y : ByteArray} (h : y.size = 0) : Un.stmp a y.data.toList = some (a, []) := by
  rw [show y.data.toList = [] from List.length_eq_zero_iff.1 (by rw [dsize]; exact h)]; rfl
theorem stmp_tab {a : Un.Bs} {y : ByteArray} (h : 0 < y.size) (h9 : y[0].toNat = 9) : Un.stmp a y.data.toList = some (a, y.data.toList.drop 1) := by
  have e := Cx.drop_head y 0 h
  rw [List.drop_zero] at e
  rw [e]
  unfold Un.stmp
  simp only []
  rw [if_pos (UInt8.toNat_inj.1 h9)]
  rfl
theorem stmp_no {a : Un.Bs} {y : ByteArray} (h : 0 < y.size) (h9 : y[0].toNat ≠ 9) : Un.stmp a y.data.toList = none := by
  have e := Cx.drop_head y 0 h
  rw [List.drop_zero] at e
  rw [e]
  unfold Un.stmp
  simp only []
  rw [if_neg (fun e => h9 (by rw [e]; rfl))]
theorem hdrD_no {m x : Un.Bs} (h : Un.pre m x = none) : Un.hdrD m x = none := by unfold Un.hdrD; rw [h]
theorem hdrD_un {m x t : Un.Bs} (h : Un.pre m x = some t) (hu : Pq.unq t = none) : Un.hdrD m x = none := by unfold Un.hdrD; rw [h]; simp only []; rw [hu]
theorem hdrD_yes {m x t a r : Un.Bs} (h : Un.pre m x = some t) (hu : Pq.unq t = some (a, r)) : Un.hdrD m x = Un.stmp a (Un.bare r) := by unfold Un.hdrD; rw [h]; simp only []; rw [hu]
theorem emptyB {y : ByteArray} (h : y.size = 0) : (y.toList == []) = true := by
  rw [str_eq, decide_eq_true]
  exact List.length_eq_zero_iff.1 (by rw [dsize]; exact h)
theorem fullB {y : ByteArray} (h : 0 < y.size) : (y.toList == []) = false := by
  rw [str_eq, decide_eq_false]
  intro e
  have := congrArg List.length e
  rw [dsize] at this
  have h2 : y.size = 0 := this
  omega
set_option maxHeartbeats 2000000 in
set_option maxRecDepth 100000 in
theorem rHeader_any (s m : ByteArray) (w : World) (hs : s.size ≤ 8388608) :
    Calls Tryz.prog 32 #[.string s, .string m] w fun e w' => e = .returned (hdrV (Un.hdrD m.data.toList s.data.toList)) ∧ Below w.heap.size w w' := by
  have HBA := hid ((Below.refl w.heap.size w).alloc (Nat.le_refl _) (.cells #[.string ⟨#[]⟩, .string ⟨#[]⟩] 23))
  have HKA := hid (heap_alloc_new w (.cells #[.string ⟨#[]⟩, .string ⟨#[]⟩] 23))
  have HS := hid hs
  clear hs
  obtain ⟨G, hG⟩ : ∃ G, G = w.heap.size := ⟨_, rfl⟩
  have HGW := hid hG
  cases hp : Un.pre m.data.toList s.data.toList with
  | none =>
    have HH := hid (hdrD_no hp)
    rw [HH.out]
    go_enter Tryz.func32, Tryz.ntmps32
    go_wp2_with fail
    rw [← hG] at HKA ⊢
    clear hG
    generalize w.alloc (.cells #[.string ⟨#[]⟩, .string ⟨#[]⟩] 23) = w0 at HBA HKA ⊢
    refine (rBehind_any s m w0).mono ?_
    rintro e w1 ⟨rfl, rfl⟩
    unfold behB
    rw [hp]
    clear hp
    go_wp2_with (guard_target =~ wpList _ _ _ (_ :: _) _ _; refine wpList_stA 23 #[.string ⟨#[]⟩, .string ⟨#[]⟩] rfl rfl HKA.out Tryz.sizeName rfl rfl rfl rfl ?_; intro w8 hk8 hkp8; have y0 : w8.cell? ⟨G, 0, none⟩ = some (.string ⟨#[]⟩) := cell_of_blk hk8 0; have y1 : w8.cell? ⟨G, 1, none⟩ = some (.string ⟨#[]⟩) := cell_of_blk hk8 1; have HKP := hid hkp8; clear hk8 hkp8)
    exact bodyPost_ret (v := .tuple #[.agg #[.string ⟨#[]⟩, .string ⟨#[]⟩], .bool false]) (by simp [results, Tryz.results32, go_sem, y0, y1]) rfl ⟨rfl, Kept.onto HBA.out HKP.out (Nat.le_of_eq HGW.out.symm) (Nat.le_refl _)⟩
  | some t =>
    have HT : Hid ((bB t).size ≤ 8388608) := hid (by
      have h1 := Un.pre_some.1 hp
      have h2 := congrArg List.length h1
      rw [List.length_append, dsize] at h2
      have h3 := HS.out
      rw [bB_size]
      omega)
    cases hu : Pq.unq t with
    | none =>
      have HH := hid (hdrD_un hp hu)
      rw [HH.out]
      go_enter Tryz.func32, Tryz.ntmps32
      go_wp2_with fail
      rw [← hG] at HKA ⊢
      clear hG
      generalize w.alloc (.cells #[.string ⟨#[]⟩, .string ⟨#[]⟩] 23) = w0 at HBA HKA ⊢
      refine (rBehind_any s m w0).mono ?_
      rintro e w1 ⟨rfl, rfl⟩
      unfold behB
      rw [hp, Option.getD_some, Option.isSome_some]
      clear hp
      go_wp2_with fail
      refine (Cx.refUnquote_any (bB t) w1 (by have := HT.out; omega)).mono ?_
      rintro e w2 ⟨rfl, hb2⟩
      rw [bB_data, hu]
      unfold Cx.tupR
      simp only []
      have HB2 := hid (HBA.out.trans (hb2.mono HBA.out.size))
      have HK2 := hid ((hb2.block G (lt_of_heap HKA.out)).trans HKA.out)
      clear hb2 hu
      go_wp2_with (guard_target =~ wpList _ _ _ (_ :: _) _ _; refine wpList_stA 23 #[.string ⟨#[]⟩, .string ⟨#[]⟩] rfl rfl HK2.out Tryz.sizeName rfl rfl rfl rfl ?_; intro w8 hk8 hkp8; have y0 : w8.cell? ⟨G, 0, none⟩ = some (.string ⟨#[]⟩) := cell_of_blk hk8 0; have y1 : w8.cell? ⟨G, 1, none⟩ = some (.string ⟨#[]⟩) := cell_of_blk hk8 1; have HKP := hid hkp8; clear hk8 hkp8)
      exact bodyPost_ret (v := .tuple #[.agg #[.string ⟨#[]⟩, .string ⟨#[]⟩], .bool false]) (by simp [results, Tryz.results32, go_sem, y0, y1]) rfl ⟨rfl, Kept.onto HB2.out HKP.out (Nat.le_of_eq HGW.out.symm) (Nat.le_refl _)⟩
    | some q =>
      obtain ⟨a, r⟩ := q
      have HH := hid (hdrD_yes hp hu)
      rw [HH.out]
      have HL : Hid ((bB r).size ≤ maxLen) := hid (by
        obtain ⟨p, h1, _⟩ := Pq.unq_rest _ _ _ hu
        have h2 := congrArg List.length h1
        rw [List.length_append] at h2
        have h3 := HT.out
        rw [bB_size] at h3 ⊢
        unfold maxLen
        omega)
      have HBR := hid (fun w1 => Cx.refBare_any (bB r) w1 HL.out)
      rw [bareB_eq, bB_data] at HBR
      obtain ⟨y, hy⟩ : ∃ y, y = bB (Un.bare r) := ⟨_, rfl⟩
      have hyd : Un.bare r = y.data.toList := by rw [hy, bB_data]
      rw [hyd]
      rw [← hy] at HBR
      clear hy hyd HH
      have HTU : Hid (Cx.tupR (Pq.unq (bB t).data.toList) = .tuple #[.string (bB a), .string (bB r), .int .i64 0]) := hid (by rw [bB_data, hu]; rfl)
      clear hu
      by_cases h0 : y.size = 0
      · have HST := hid (stmp_nil (a := a) h0)
        rw [HST.out]
        have ye := emptyB h0
        clear h0
        go_enter Tryz.func32, Tryz.ntmps32
        go_wp2_with fail
        rw [← hG] at HKA ⊢
        clear hG
        generalize w.alloc (.cells #[.string ⟨#[]⟩, .string ⟨#[]⟩] 23) = w0 at HBA HKA ⊢
        refine (rBehind_any s m w0).mono ?_
        rintro e w1 ⟨rfl, rfl⟩
        unfold behB
        rw [hp, Option.getD_some, Option.isSome_some]
        clear hp
        go_wp2_with fail
        refine (Cx.refUnquote_any (bB t) w1 (by have := HT.out; omega)).mono ?_
        rintro e w2 ⟨rfl, hb2⟩
        rw [HTU.out]
        have HB2 := hid (HBA.out.trans (hb2.mono HBA.out.size))
        have HK2 := hid ((hb2.block G (lt_of_heap HKA.out)).trans HKA.out)
        clear hb2 HTU
        go_wp2_with fail
        refine (HBR.out w2).mono ?_
        rintro e w3 ⟨rfl, rfl⟩
        have HB3 := hid (HB2.out.alloc HB2.out.size (.cells #[.string (bB a), .string ⟨#[]⟩] 23))
        have HK3 := hid (((((Below.refl w3.heap.size w3).alloc (Nat.le_refl _) (.cells #[.string (bB a), .string ⟨#[]⟩] 23)).block G (lt_of_heap HK2.out))).trans HK2.out)
        go_wp2_with (guard_target =~ wpList _ _ _ (_ :: _) _ _; refine wpList_stA 23 #[.string (bB a), .string ⟨#[]⟩] rfl rfl HK3.out Tryz.sizeName rfl rfl rfl rfl ?_; intro w8 hk8 hkp8; have y0 : w8.cell? ⟨G, 0, none⟩ = some (.string (bB a)) := cell_of_blk hk8 0; have y1 : w8.cell? ⟨G, 1, none⟩ = some (.string ⟨#[]⟩) := cell_of_blk hk8 1; have HKP := hid hkp8; clear hk8 hkp8)
        exact bodyPost_ret (v := .tuple #[.agg #[.string (bB a), .string ⟨#[]⟩], .bool true]) (by simp [results, Tryz.results32, go_sem, y0, y1]) rfl ⟨rfl, Kept.onto HB3.out HKP.out (Nat.le_of_eq HGW.out.symm) (Nat.le_refl _)⟩
      · have h1 : 0 < y.size := by omega
        have ye := fullB h1
        have i0 : (0 : Int) < (y.size : Int) := by omega
        by_cases h9 : y[0].toNat = 9
        · have HST := hid (stmp_tab (a := a) h1 h9)
          rw [HST.out]
          have HX := hid (dropE y 1)
          have n9 : ((y[0].toNat : Int) != 9) = false := by rw [h9]; rfl
          have i1 : (1 : Int) ≤ (y.size : Int) := by omega
          clear h9 h0
          go_enter Tryz.func32, Tryz.ntmps32
          go_wp2_with fail
          rw [← hG] at HKA ⊢
          clear hG
          generalize w.alloc (.cells #[.string ⟨#[]⟩, .string ⟨#[]⟩] 23) = w0 at HBA HKA ⊢
          refine (rBehind_any s m w0).mono ?_
          rintro e w1 ⟨rfl, rfl⟩
          unfold behB
          rw [hp, Option.getD_some, Option.isSome_some]
          clear hp
          go_wp2_with fail
          refine (Cx.refUnquote_any (bB t) w1 (by have := HT.out; omega)).mono ?_
          rintro e w2 ⟨rfl, hb2⟩
          rw [HTU.out]
          have HB2 := hid (HBA.out.trans (hb2.mono HBA.out.size))
          have HK2 := hid ((hb2.block G (lt_of_heap HKA.out)).trans HKA.out)
          clear hb2 HTU
          go_wp2_with fail
          refine (HBR.out w2).mono ?_
          rintro e w3 ⟨rfl, rfl⟩
          have HB3 := hid (HB2.out.alloc HB2.out.size (.cells #[.string (bB a), .string (y.extract 1 y.size)] 23))
          have HK3 := hid (((((Below.refl w3.heap.size w3).alloc (Nat.le_refl _) (.cells #[.string (bB a), .string (y.extract 1 y.size)] 23)).block G (lt_of_heap HK2.out))).trans HK2.out)
          go_wp2_with (guard_target =~ wpList _ _ _ (_ :: _) _ _; refine wpList_stA 23 #[.string (bB a), .string (y.extract 1 y.size)] rfl rfl HK3.out Tryz.sizeName rfl rfl rfl rfl ?_; intro w8 hk8 hkp8; have y0 : w8.cell? ⟨G, 0, none⟩ = some (.string (bB a)) := cell_of_blk hk8 0; have y1 : w8.cell? ⟨G, 1, none⟩ = some (.string (y.extract 1 y.size)) := cell_of_blk hk8 1; have HKP := hid hkp8; clear hk8 hkp8)
          exact bodyPost_ret (v := .tuple #[.agg #[.string (bB a), .string (y.extract 1 y.size)], .bool true]) (by simp [results, Tryz.results32, go_sem, y0, y1]) rfl ⟨by unfold hdrV nmV; simp only []; rw [← HX.out]; rfl, Kept.onto HB3.out HKP.out (Nat.le_of_eq HGW.out.symm) (Nat.le_refl _)⟩
        · have HST := hid (stmp_no (a := a) h1 h9)
          rw [HST.out]
          have n9 : ((y[0].toNat : Int) != 9) = true := by rw [bne_iff_ne]; omega
          clear h9 h0
          go_enter Tryz.func32, Tryz.ntmps32
          go_wp2_with fail
          rw [← hG] at HKA ⊢
          clear hG
          generalize w.alloc (.cells #[.string ⟨#[]⟩, .string ⟨#[]⟩] 23) = w0 at HBA HKA ⊢
          refine (rBehind_any s m w0).mono ?_
          rintro e w1 ⟨rfl, rfl⟩
          unfold behB
          rw [hp, Option.getD_some, Option.isSome_some]
          clear hp
          go_wp2_with fail
          refine (Cx.refUnquote_any (bB t) w1 (by have := HT.out; omega)).mono ?_
          rintro e w2 ⟨rfl, hb2⟩
          rw [HTU.out]
          have HB2 := hid (HBA.out.trans (hb2.mono HBA.out.size))
          have HK2 := hid ((hb2.block G (lt_of_heap HKA.out)).trans HKA.out)
          clear hb2 HTU
          go_wp2_with fail
          refine (HBR.out w2).mono ?_
          rintro e w3 ⟨rfl, rfl⟩
          go_wp2_with (guard_target =~ wpList _ _ _ (_ :: _) _ _; refine wpList_stA 23 #[.string ⟨#[]⟩, .string ⟨#[]⟩] rfl rfl HK2.out Tryz.sizeName rfl rfl rfl rfl ?_; intro w8 hk8 hkp8; have y0 : w8.cell? ⟨G, 0, none⟩ = some (.string ⟨#[]⟩) := cell_of_blk hk8 0; have y1 : w8.cell? ⟨G, 1, none⟩ = some (.string ⟨#[]⟩) := cell_of_blk hk8 1; have HKP := hid hkp8; clear hk8 hkp8)
          exact bodyPost_ret (v := .tuple #[.agg #[.string ⟨#[]⟩, .string ⟨#[]⟩], .bool false]) (by simp [results, Tryz.results32, go_sem, y0, y1]) rfl ⟨rfl, Kept.onto HB2.out HKP.out (Nat.le_of_eq HGW.out.symm) (Nat.le_refl _)⟩
end Go.Proofs.YtobocdbehjcpjaaGreatDoor
/-
  The document's head: a hunk's first line (layer 11). (Made by wip/genu9.py.)
-/
namespace Go.Proofs.YtobocdbehjcpjaaGreatDoor
open Go.RowKit

theorem alloc_size (w : World) (o : Obj) : (w.alloc o).heap.size = w.heap.size + 1 := Array.size_push _
theorem numD_le {s r : Un.Bs} {x : Nat} (h : Un.numD s = some (x, r)) : r.length ≤ s.length := by
  obtain ⟨l, e, _⟩ := Un.numP_of h
  rw [e]; simp
theorem spD_le {s r : Un.Bs} {a n : Nat} (h : Un.spD s = some (a, n, r)) : r.length ≤ s.length := by
  obtain ⟨x, e, _⟩ := Un.rngP_of h
  rw [e]; simp
theorem sizeHk : (Tryz.prog.info? 37).map (·.size) = some 6 := by kernel_rfl
/-- what head answers: where there is no place, the hunk is some one -/
def HdAns (l : Un.Bs) (e : Ending) : Prop := ∃ (a n b m : Nat) (x : ByteArray), e = .returned (.tuple #[.agg #[.int .i64 a, .int .i64 n, .int .i64 b, .int .i64 m, .string x, .slice none 0 0], .bool (Un.placeD l).isSome]) ∧ ∀ p, Un.placeD l = some p → a = p.a ∧ n = p.n ∧ b = p.b ∧ m = p.m ∧ x = bB p.head
theorem hd_no {l : Un.Bs} (h : Un.placeD l = none) {a n b m : Nat} {x : ByteArray} : HdAns l (.returned (.tuple #[.agg #[.int .i64 a, .int .i64 n, .int .i64 b, .int .i64 m, .string x, .slice none 0 0], .bool false])) :=
  ⟨a, n, b, m, x, by rw [h]; rfl, fun p hp => by rw [h] at hp; cases hp⟩
theorem hd_yes {l : Un.Bs} {p : Un.Plc} (h : Un.placeD l = some p) : HdAns l (.returned (.tuple #[.agg #[.int .i64 p.a, .int .i64 p.n, .int .i64 p.b, .int .i64 p.m, .string (bB p.head), .slice none 0 0], .bool true])) :=
  ⟨p.a, p.n, p.b, p.m, bB p.head, by rw [h]; rfl, fun q hq => by rw [h] at hq; cases hq; exact ⟨rfl, rfl, rfl, rfl, rfl⟩⟩
theorem pD1 {l : Un.Bs} (h : Un.pre Un.mkB l = none) : Un.placeD l = none := by unfold Un.placeD; rw [h]
theorem pD2 {l s1 : Un.Bs} (h : Un.pre Un.mkB l = some s1) (h1 : Un.spD s1 = none) : Un.placeD l = none := by unfold Un.placeD; rw [h]; simp only []; rw [h1]
theorem pD3 {l s1 r1 : Un.Bs} {a n : Nat} (h : Un.pre Un.mkB l = some s1) (h1 : Un.spD s1 = some (a, n, r1)) (h2 : Un.pre Un.mkM r1 = none) : Un.placeD l = none := by unfold Un.placeD; rw [h]; simp only []; rw [h1]; simp only []; rw [h2]
theorem pD4 {l s1 r1 s2 : Un.Bs} {a n : Nat} (h : Un.pre Un.mkB l = some s1) (h1 : Un.spD s1 = some (a, n, r1)) (h2 : Un.pre Un.mkM r1 = some s2) (h3 : Un.spD s2 = none) : Un.placeD l = none := by unfold Un.placeD; rw [h]; simp only []; rw [h1]; simp only []; rw [h2]; simp only []; rw [h3]
theorem pD5 {l s1 r1 s2 r2 : Un.Bs} {a n b m : Nat} (h : Un.pre Un.mkB l = some s1) (h1 : Un.spD s1 = some (a, n, r1)) (h2 : Un.pre Un.mkM r1 = some s2) (h3 : Un.spD s2 = some (b, m, r2)) (h4 : Un.pre Un.mkC r2 = none) : Un.placeD l = none := by unfold Un.placeD; rw [h]; simp only []; rw [h1]; simp only []; rw [h2]; simp only []; rw [h3]; simp only []; rw [h4]
theorem pD6 {l s1 r1 s2 r2 t : Un.Bs} {a n b m : Nat} (h : Un.pre Un.mkB l = some s1) (h1 : Un.spD s1 = some (a, n, r1)) (h2 : Un.pre Un.mkM r1 = some s2) (h3 : Un.spD s2 = some (b, m, r2)) (h4 : Un.pre Un.mkC r2 = some t) : Un.placeD l = (Un.headP t).map fun h => ⟨a, n, b, m, h⟩ := by unfold Un.placeD; rw [h]; simp only []; rw [h1]; simp only []; rw [h2]; simp only []; rw [h3]; simp only []; rw [h4]
theorem headP_nil {y : ByteArray} (h : y.size = 0) : Un.headP y.data.toList = some [] := by
  rw [show y.data.toList = [] from List.length_eq_zero_iff.1 (by rw [dsize]; exact h)]; rfl
theorem headP_sp {y : ByteArray} (h : 0 < y.size) (h9 : y[0].toNat = 32) : Un.headP y.data.toList = some (y.data.toList.drop 1) := by
  have e := Cx.drop_head y 0 h
  rw [List.drop_zero] at e
  rw [e]
  unfold Un.headP
  simp only []
  rw [if_pos (UInt8.toNat_inj.1 h9)]
  rfl
theorem headP_no {y : ByteArray} (h : 0 < y.size) (h9 : y[0].toNat ≠ 32) : Un.headP y.data.toList = none := by
  have e := Cx.drop_head y 0 h
  rw [List.drop_zero] at e
  rw [e]
  unfold Un.headP
  simp only []
  rw [if_neg (fun e => h9 (by rw [e]; rfl))]
theorem pre_le {p s r : Un.Bs} (h : Un.pre p s = some r) : r.length ≤ s.length := by rw [Un.pre_some.1 h]; simp
set_option maxHeartbeats 4000000 in
set_option maxRecDepth 100000 in
theorem rHead_any (s : ByteArray) (w : World) (hs : s.size ≤ 8388608) :
    Calls Tryz.prog 34 #[.string s] w fun e w' => HdAns (Un.bare s.data.toList) e ∧ Below w.heap.size w w' := by
  have HBR := hid (fun w1 => Cx.refBare_any s w1 (by unfold maxLen; omega))
  rw [bareB_eq] at HBR
  have HLL : Hid ((Un.bare s.data.toList).length ≤ 8388608) := hid (by have h1 := bare_le s.data.toList; rw [dsize] at h1; omega)
  clear hs
  generalize Un.bare s.data.toList = l at HBR HLL ⊢
  obtain ⟨G, hG⟩ : ∃ G, G = w.heap.size := ⟨_, rfl⟩
  obtain ⟨H, hH⟩ : ∃ H, H = G + 1 := ⟨_, rfl⟩
  have HGW := hid hG
  have HGH : Hid (G < H) := hid (by omega)
  have HWH : Hid (w.heap.size ≤ H) := hid (by omega)
  have HHS : Hid ((w.alloc (.cells #[.int .i64 0, .int .i64 0, .int .i64 0, .int .i64 0, .string ⟨#[]⟩, .slice none 0 0] 37)).heap.size = H) := hid (by rw [hH, hG]; exact alloc_size _ _)
  have hb0 := (Below.refl w.heap.size w).alloc (Nat.le_refl _) (.cells #[.int .i64 0, .int .i64 0, .int .i64 0, .int .i64 0, .string ⟨#[]⟩, .slice none 0 0] 37)
  have HKH := hid (heap_alloc_new (w.alloc (.cells #[.int .i64 0, .int .i64 0, .int .i64 0, .int .i64 0, .string ⟨#[]⟩, .slice none 0 0] 37)) (.cells #[.int .i64 0, .int .i64 0, .int .i64 0, .int .i64 0, .string ⟨#[]⟩, .slice none 0 0] 37))
  rw [HHS.out] at HKH
  have HKG := hid (((((Below.refl (w.alloc (.cells #[.int .i64 0, .int .i64 0, .int .i64 0, .int .i64 0, .string ⟨#[]⟩, .slice none 0 0] 37)).heap.size (w.alloc (.cells #[.int .i64 0, .int .i64 0, .int .i64 0, .int .i64 0, .string ⟨#[]⟩, .slice none 0 0] 37))).alloc (Nat.le_refl _) (.cells #[.int .i64 0, .int .i64 0, .int .i64 0, .int .i64 0, .string ⟨#[]⟩, .slice none 0 0] 37)).block w.heap.size (by rw [HHS.out]; omega))).trans (heap_alloc_new w (.cells #[.int .i64 0, .int .i64 0, .int .i64 0, .int .i64 0, .string ⟨#[]⟩, .slice none 0 0] 37)))
  have HB0 := hid (hb0.alloc hb0.size (.cells #[.int .i64 0, .int .i64 0, .int .i64 0, .int .i64 0, .string ⟨#[]⟩, .slice none 0 0] 37))
  clear hb0
  cases hp : Un.pre Un.mkB l with
  | none =>
    have HD := hid (pD1 hp)
    go_enter Tryz.func34, Tryz.ntmps34
    go_wp2_with fail
    rw [← hG] at HKG ⊢
    rw [← hH] at ⊢
    clear hG hH
    generalize (w.alloc (.cells #[.int .i64 0, .int .i64 0, .int .i64 0, .int .i64 0, .string ⟨#[]⟩, .slice none 0 0] 37)).alloc (.cells #[.int .i64 0, .int .i64 0, .int .i64 0, .int .i64 0, .string ⟨#[]⟩, .slice none 0 0] 37) = w0 at HB0 HKG HKH ⊢
    refine (HBR.out w0).mono ?_
    rintro e w1 ⟨rfl, rfl⟩
    go_wp2_with fail
    refine (rBehind_any (bB l) ⟨#[64, 64, 32, 45]⟩ w1).mono ?_
    rintro e w1' ⟨rfl, rfl⟩
    unfold behB
    rw [bB_data, show (ByteArray.mk #[64, 64, 32, 45]).data.toList = Un.mkB from rfl]
    rw [hp]
    clear hp
    rw [Option.isSome_none]
    have z0 : w1'.cell? ⟨H, 0, none⟩ = some (.int .i64 0) := cell_of_blk HKH.out 0
    have z1 : w1'.cell? ⟨H, 1, none⟩ = some (.int .i64 0) := cell_of_blk HKH.out 1
    have z2 : w1'.cell? ⟨H, 2, none⟩ = some (.int .i64 0) := cell_of_blk HKH.out 2
    have z3 : w1'.cell? ⟨H, 3, none⟩ = some (.int .i64 0) := cell_of_blk HKH.out 3
    have z4 : w1'.cell? ⟨H, 4, none⟩ = some (.string ⟨#[]⟩) := cell_of_blk HKH.out 4
    have z5 : w1'.cell? ⟨H, 5, none⟩ = some (.slice none 0 0) := cell_of_blk HKH.out 5
    go_wp2_with (guard_target =~ wpList _ _ _ (_ :: _) _ _; refine wpList_stA 37 #[.int .i64 0, .int .i64 0, .int .i64 0, .int .i64 0, .string ⟨#[]⟩, .slice none 0 0] rfl rfl HKG.out sizeHk rfl rfl rfl rfl ?_; intro w8 hk8 hkp8; have y0 : w8.cell? ⟨G, 0, none⟩ = some (.int .i64 0) := cell_of_blk hk8 0; have y1 : w8.cell? ⟨G, 1, none⟩ = some (.int .i64 0) := cell_of_blk hk8 1; have y2 : w8.cell? ⟨G, 2, none⟩ = some (.int .i64 0) := cell_of_blk hk8 2; have y3 : w8.cell? ⟨G, 3, none⟩ = some (.int .i64 0) := cell_of_blk hk8 3; have y4 : w8.cell? ⟨G, 4, none⟩ = some (.string ⟨#[]⟩) := cell_of_blk hk8 4; have y5 : w8.cell? ⟨G, 5, none⟩ = some (.slice none 0 0) := cell_of_blk hk8 5; have HKP := hid hkp8; clear hk8 hkp8)
    exact bodyPost_ret (v := .tuple #[.agg #[.int .i64 0, .int .i64 0, .int .i64 0, .int .i64 0, .string ⟨#[]⟩, .slice none 0 0], .bool false]) (by simp [results, Tryz.results34, go_sem, y0, y1, y2, y3, y4, y5]) rfl ⟨hd_no HD.out, Kept.onto HB0.out HKP.out (Nat.le_of_eq HGW.out.symm) (Nat.le_refl _)⟩
  | some s1 =>
    have HZ1 : Hid ((bB s1).size ≤ maxLen) := hid (by have h1 := pre_le hp; have h2 := HLL.out; rw [bB_size]; unfold maxLen; omega)
    have L1 : Hid (s1.length ≤ 8388608) := hid (by have h1 := pre_le hp; have h2 := HLL.out; omega)
    cases hq : Un.spD s1 with
    | none =>
      have HD := hid (pD2 hp hq)
      go_enter Tryz.func34, Tryz.ntmps34
      go_wp2_with fail
      rw [← hG] at HKG ⊢
      rw [← hH] at ⊢
      clear hG hH
      generalize (w.alloc (.cells #[.int .i64 0, .int .i64 0, .int .i64 0, .int .i64 0, .string ⟨#[]⟩, .slice none 0 0] 37)).alloc (.cells #[.int .i64 0, .int .i64 0, .int .i64 0, .int .i64 0, .string ⟨#[]⟩, .slice none 0 0] 37) = w0 at HB0 HKG HKH ⊢
      refine (HBR.out w0).mono ?_
      rintro e w1 ⟨rfl, rfl⟩
      go_wp2_with fail
      refine (rBehind_any (bB l) ⟨#[64, 64, 32, 45]⟩ w1).mono ?_
      rintro e w1' ⟨rfl, rfl⟩
      unfold behB
      rw [bB_data, show (ByteArray.mk #[64, 64, 32, 45]).data.toList = Un.mkB from rfl]
      rw [hp, Option.getD_some, Option.isSome_some]
      have HPB := hid hp
      clear hp
      go_wp2_with fail
      refine (rSpanned_any (bB s1) w1' HZ1.out).mono ?_
      rintro e v1 ⟨⟨a, n, r, rfl, ha1, hn1, hr1, hp1⟩, hb1⟩
      rw [bB_data] at hr1 hp1 ⊢
      have HV1 := hid (HB0.out.trans (hb1.mono HB0.out.size))
      have KG1 := hid ((hb1.block G (lt_of_heap HKG.out)).trans HKG.out)
      have KH1 := hid ((hb1.block H (lt_of_heap HKH.out)).trans HKH.out)
      have HP1 := hid hp1
      have HR1 := hid hr1
      clear ha1 hn1 hr1 hp1 hb1
      have g1 : v1.frozen? ⟨H, 0, none⟩ = false := frozR KH1.out 0
      have k1 : v1.cell? ⟨H, 0, none⟩ = some (.int .i64 0) := cell_of_blk KH1.out 0
      have hm1 : (v1.setCell ⟨H, 0, none⟩ (.int .i64 (a : Nat))).heap[H]? = some (.cells #[.int .i64 (a : Nat), .int .i64 0, .int .i64 0, .int .i64 0, .string ⟨#[]⟩, .slice none 0 0] 37) := setR v1 H 0 _ _ (.int .i64 (a : Nat)) KH1.out
      have g1' : (v1.setCell ⟨H, 0, none⟩ (.int .i64 (a : Nat))).frozen? ⟨H, 1, none⟩ = false := frozR hm1 1
      have k1' : (v1.setCell ⟨H, 0, none⟩ (.int .i64 (a : Nat))).cell? ⟨H, 1, none⟩ = some (.int .i64 0) := cell_of_blk hm1 1
      have KH1' : Hid (((v1.setCell ⟨H, 0, none⟩ (.int .i64 (a : Nat))).setCell ⟨H, 1, none⟩ (.int .i64 (n : Nat))).heap[H]? = some (.cells #[.int .i64 (a : Nat), .int .i64 (n : Nat), .int .i64 0, .int .i64 0, .string ⟨#[]⟩, .slice none 0 0] 37)) := hid (setR _ H 1 _ _ (.int .i64 (n : Nat)) hm1)
      have KG1' : Hid (((v1.setCell ⟨H, 0, none⟩ (.int .i64 (a : Nat))).setCell ⟨H, 1, none⟩ (.int .i64 (n : Nat))).heap[G]? = some (.cells #[.int .i64 0, .int .i64 0, .int .i64 0, .int .i64 0, .string ⟨#[]⟩, .slice none 0 0] 37)) := hid (((below_set (below_set (Below.refl H v1) (Nat.le_refl _)) (Nat.le_refl _)).block G HGH.out).trans KG1.out)
      have HV1' : Hid (Below w.heap.size w ((v1.setCell ⟨H, 0, none⟩ (.int .i64 (a : Nat))).setCell ⟨H, 1, none⟩ (.int .i64 (n : Nat)))) := hid (below_set (below_set HV1.out HWH.out) HWH.out)
      clear hm1
      rw [hq, Option.isSome_none]
      clear hq HP1
      have z0 : ((v1.setCell ⟨H, 0, none⟩ (.int .i64 (a : Nat))).setCell ⟨H, 1, none⟩ (.int .i64 (n : Nat))).cell? ⟨H, 0, none⟩ = some (.int .i64 (a : Nat)) := cell_of_blk KH1'.out 0
      have z1 : ((v1.setCell ⟨H, 0, none⟩ (.int .i64 (a : Nat))).setCell ⟨H, 1, none⟩ (.int .i64 (n : Nat))).cell? ⟨H, 1, none⟩ = some (.int .i64 (n : Nat)) := cell_of_blk KH1'.out 1
      have z2 : ((v1.setCell ⟨H, 0, none⟩ (.int .i64 (a : Nat))).setCell ⟨H, 1, none⟩ (.int .i64 (n : Nat))).cell? ⟨H, 2, none⟩ = some (.int .i64 0) := cell_of_blk KH1'.out 2
      have z3 : ((v1.setCell ⟨H, 0, none⟩ (.int .i64 (a : Nat))).setCell ⟨H, 1, none⟩ (.int .i64 (n : Nat))).cell? ⟨H, 3, none⟩ = some (.int .i64 0) := cell_of_blk KH1'.out 3
      have z4 : ((v1.setCell ⟨H, 0, none⟩ (.int .i64 (a : Nat))).setCell ⟨H, 1, none⟩ (.int .i64 (n : Nat))).cell? ⟨H, 4, none⟩ = some (.string ⟨#[]⟩) := cell_of_blk KH1'.out 4
      have z5 : ((v1.setCell ⟨H, 0, none⟩ (.int .i64 (a : Nat))).setCell ⟨H, 1, none⟩ (.int .i64 (n : Nat))).cell? ⟨H, 5, none⟩ = some (.slice none 0 0) := cell_of_blk KH1'.out 5
      go_wp2_with (guard_target =~ wpList _ _ _ (_ :: _) _ _; refine wpList_stA 37 #[.int .i64 (a : Nat), .int .i64 (n : Nat), .int .i64 0, .int .i64 0, .string ⟨#[]⟩, .slice none 0 0] rfl rfl KG1'.out sizeHk rfl rfl rfl rfl ?_; intro w8 hk8 hkp8; have y0 : w8.cell? ⟨G, 0, none⟩ = some (.int .i64 (a : Nat)) := cell_of_blk hk8 0; have y1 : w8.cell? ⟨G, 1, none⟩ = some (.int .i64 (n : Nat)) := cell_of_blk hk8 1; have y2 : w8.cell? ⟨G, 2, none⟩ = some (.int .i64 0) := cell_of_blk hk8 2; have y3 : w8.cell? ⟨G, 3, none⟩ = some (.int .i64 0) := cell_of_blk hk8 3; have y4 : w8.cell? ⟨G, 4, none⟩ = some (.string ⟨#[]⟩) := cell_of_blk hk8 4; have y5 : w8.cell? ⟨G, 5, none⟩ = some (.slice none 0 0) := cell_of_blk hk8 5; have HKP := hid hkp8; clear hk8 hkp8)
      exact bodyPost_ret (v := .tuple #[.agg #[.int .i64 (a : Nat), .int .i64 (n : Nat), .int .i64 0, .int .i64 0, .string ⟨#[]⟩, .slice none 0 0], .bool false]) (by simp [results, Tryz.results34, go_sem, y0, y1, y2, y3, y4, y5]) rfl ⟨hd_no HD.out, Kept.onto HV1'.out HKP.out (Nat.le_of_eq HGW.out.symm) (Nat.le_refl _)⟩
    | some q1 =>
      obtain ⟨a0, n0, r0⟩ := q1
      cases hm : Un.pre Un.mkM r0 with
      | none =>
        have HD := hid (pD3 hp hq hm)
        go_enter Tryz.func34, Tryz.ntmps34
        go_wp2_with fail
        rw [← hG] at HKG ⊢
        rw [← hH] at ⊢
        clear hG hH
        generalize (w.alloc (.cells #[.int .i64 0, .int .i64 0, .int .i64 0, .int .i64 0, .string ⟨#[]⟩, .slice none 0 0] 37)).alloc (.cells #[.int .i64 0, .int .i64 0, .int .i64 0, .int .i64 0, .string ⟨#[]⟩, .slice none 0 0] 37) = w0 at HB0 HKG HKH ⊢
        refine (HBR.out w0).mono ?_
        rintro e w1 ⟨rfl, rfl⟩
        go_wp2_with fail
        refine (rBehind_any (bB l) ⟨#[64, 64, 32, 45]⟩ w1).mono ?_
        rintro e w1' ⟨rfl, rfl⟩
        unfold behB
        rw [bB_data, show (ByteArray.mk #[64, 64, 32, 45]).data.toList = Un.mkB from rfl]
        rw [hp, Option.getD_some, Option.isSome_some]
        have HPB := hid hp
        clear hp
        go_wp2_with fail
        refine (rSpanned_any (bB s1) w1' HZ1.out).mono ?_
        rintro e v1 ⟨⟨a, n, r, rfl, ha1, hn1, hr1, hp1⟩, hb1⟩
        rw [bB_data] at hr1 hp1 ⊢
        have HV1 := hid (HB0.out.trans (hb1.mono HB0.out.size))
        have KG1 := hid ((hb1.block G (lt_of_heap HKG.out)).trans HKG.out)
        have KH1 := hid ((hb1.block H (lt_of_heap HKH.out)).trans HKH.out)
        have HP1 := hid hp1
        have HR1 := hid hr1
        clear ha1 hn1 hr1 hp1 hb1
        have g1 : v1.frozen? ⟨H, 0, none⟩ = false := frozR KH1.out 0
        have k1 : v1.cell? ⟨H, 0, none⟩ = some (.int .i64 0) := cell_of_blk KH1.out 0
        have hm1 : (v1.setCell ⟨H, 0, none⟩ (.int .i64 (a : Nat))).heap[H]? = some (.cells #[.int .i64 (a : Nat), .int .i64 0, .int .i64 0, .int .i64 0, .string ⟨#[]⟩, .slice none 0 0] 37) := setR v1 H 0 _ _ (.int .i64 (a : Nat)) KH1.out
        have g1' : (v1.setCell ⟨H, 0, none⟩ (.int .i64 (a : Nat))).frozen? ⟨H, 1, none⟩ = false := frozR hm1 1
        have k1' : (v1.setCell ⟨H, 0, none⟩ (.int .i64 (a : Nat))).cell? ⟨H, 1, none⟩ = some (.int .i64 0) := cell_of_blk hm1 1
        have KH1' : Hid (((v1.setCell ⟨H, 0, none⟩ (.int .i64 (a : Nat))).setCell ⟨H, 1, none⟩ (.int .i64 (n : Nat))).heap[H]? = some (.cells #[.int .i64 (a : Nat), .int .i64 (n : Nat), .int .i64 0, .int .i64 0, .string ⟨#[]⟩, .slice none 0 0] 37)) := hid (setR _ H 1 _ _ (.int .i64 (n : Nat)) hm1)
        have KG1' : Hid (((v1.setCell ⟨H, 0, none⟩ (.int .i64 (a : Nat))).setCell ⟨H, 1, none⟩ (.int .i64 (n : Nat))).heap[G]? = some (.cells #[.int .i64 0, .int .i64 0, .int .i64 0, .int .i64 0, .string ⟨#[]⟩, .slice none 0 0] 37)) := hid (((below_set (below_set (Below.refl H v1) (Nat.le_refl _)) (Nat.le_refl _)).block G HGH.out).trans KG1.out)
        have HV1' : Hid (Below w.heap.size w ((v1.setCell ⟨H, 0, none⟩ (.int .i64 (a : Nat))).setCell ⟨H, 1, none⟩ (.int .i64 (n : Nat)))) := hid (below_set (below_set HV1.out HWH.out) HWH.out)
        clear hm1
        obtain ⟨e1, e2, e3⟩ := HP1.out _ hq
        have E1 : a = a0 := e1
        have E2 : n = n0 := e2
        have E3 : r = r0 := e3
        clear e1 e2 e3
        subst E1 E2 E3
        have HQ1 := hid hq
        clear hq
        rw [HQ1.out, Option.isSome_some]
        go_wp2_with fail
        generalize ((v1.setCell ⟨H, 0, none⟩ (.int .i64 (a : Nat))).setCell ⟨H, 1, none⟩ (.int .i64 (n : Nat))) = u1 at KH1' KG1' HV1' ⊢
        clear g1 k1 g1' k1' KH1 KG1 HV1
        refine (rBehind_any (bB r) ⟨#[32, 43]⟩ u1).mono ?_
        rintro e u1' ⟨rfl, rfl⟩
        unfold behB
        rw [bB_data, show (ByteArray.mk #[32, 43]).data.toList = Un.mkM from rfl]
        rw [hm, Option.isSome_none]
        clear hm
        have z0 : u1'.cell? ⟨H, 0, none⟩ = some (.int .i64 (a : Nat)) := cell_of_blk KH1'.out 0
        have z1 : u1'.cell? ⟨H, 1, none⟩ = some (.int .i64 (n : Nat)) := cell_of_blk KH1'.out 1
        have z2 : u1'.cell? ⟨H, 2, none⟩ = some (.int .i64 0) := cell_of_blk KH1'.out 2
        have z3 : u1'.cell? ⟨H, 3, none⟩ = some (.int .i64 0) := cell_of_blk KH1'.out 3
        have z4 : u1'.cell? ⟨H, 4, none⟩ = some (.string ⟨#[]⟩) := cell_of_blk KH1'.out 4
        have z5 : u1'.cell? ⟨H, 5, none⟩ = some (.slice none 0 0) := cell_of_blk KH1'.out 5
        go_wp2_with (guard_target =~ wpList _ _ _ (_ :: _) _ _; refine wpList_stA 37 #[.int .i64 (a : Nat), .int .i64 (n : Nat), .int .i64 0, .int .i64 0, .string ⟨#[]⟩, .slice none 0 0] rfl rfl KG1'.out sizeHk rfl rfl rfl rfl ?_; intro w8 hk8 hkp8; have y0 : w8.cell? ⟨G, 0, none⟩ = some (.int .i64 (a : Nat)) := cell_of_blk hk8 0; have y1 : w8.cell? ⟨G, 1, none⟩ = some (.int .i64 (n : Nat)) := cell_of_blk hk8 1; have y2 : w8.cell? ⟨G, 2, none⟩ = some (.int .i64 0) := cell_of_blk hk8 2; have y3 : w8.cell? ⟨G, 3, none⟩ = some (.int .i64 0) := cell_of_blk hk8 3; have y4 : w8.cell? ⟨G, 4, none⟩ = some (.string ⟨#[]⟩) := cell_of_blk hk8 4; have y5 : w8.cell? ⟨G, 5, none⟩ = some (.slice none 0 0) := cell_of_blk hk8 5; have HKP := hid hkp8; clear hk8 hkp8)
        exact bodyPost_ret (v := .tuple #[.agg #[.int .i64 (a : Nat), .int .i64 (n : Nat), .int .i64 0, .int .i64 0, .string ⟨#[]⟩, .slice none 0 0], .bool false]) (by simp [results, Tryz.results34, go_sem, y0, y1, y2, y3, y4, y5]) rfl ⟨hd_no HD.out, Kept.onto HV1'.out HKP.out (Nat.le_of_eq HGW.out.symm) (Nat.le_refl _)⟩
      | some s2 =>
        have HZ2 : Hid ((bB s2).size ≤ maxLen) := hid (by have h1 := pre_le hm; have h2 := L1.out; have h3 := spD_le hq; rw [bB_size]; unfold maxLen; omega)
        cases hq2 : Un.spD s2 with
        | none =>
          have HD := hid (pD4 hp hq hm hq2)
          go_enter Tryz.func34, Tryz.ntmps34
          go_wp2_with fail
          rw [← hG] at HKG ⊢
          rw [← hH] at ⊢
          clear hG hH
          generalize (w.alloc (.cells #[.int .i64 0, .int .i64 0, .int .i64 0, .int .i64 0, .string ⟨#[]⟩, .slice none 0 0] 37)).alloc (.cells #[.int .i64 0, .int .i64 0, .int .i64 0, .int .i64 0, .string ⟨#[]⟩, .slice none 0 0] 37) = w0 at HB0 HKG HKH ⊢
          refine (HBR.out w0).mono ?_
          rintro e w1 ⟨rfl, rfl⟩
          go_wp2_with fail
          refine (rBehind_any (bB l) ⟨#[64, 64, 32, 45]⟩ w1).mono ?_
          rintro e w1' ⟨rfl, rfl⟩
          unfold behB
          rw [bB_data, show (ByteArray.mk #[64, 64, 32, 45]).data.toList = Un.mkB from rfl]
          rw [hp, Option.getD_some, Option.isSome_some]
          have HPB := hid hp
          clear hp
          go_wp2_with fail
          refine (rSpanned_any (bB s1) w1' HZ1.out).mono ?_
          rintro e v1 ⟨⟨a, n, r, rfl, ha1, hn1, hr1, hp1⟩, hb1⟩
          rw [bB_data] at hr1 hp1 ⊢
          have HV1 := hid (HB0.out.trans (hb1.mono HB0.out.size))
          have KG1 := hid ((hb1.block G (lt_of_heap HKG.out)).trans HKG.out)
          have KH1 := hid ((hb1.block H (lt_of_heap HKH.out)).trans HKH.out)
          have HP1 := hid hp1
          have HR1 := hid hr1
          clear ha1 hn1 hr1 hp1 hb1
          have g1 : v1.frozen? ⟨H, 0, none⟩ = false := frozR KH1.out 0
          have k1 : v1.cell? ⟨H, 0, none⟩ = some (.int .i64 0) := cell_of_blk KH1.out 0
          have hm1 : (v1.setCell ⟨H, 0, none⟩ (.int .i64 (a : Nat))).heap[H]? = some (.cells #[.int .i64 (a : Nat), .int .i64 0, .int .i64 0, .int .i64 0, .string ⟨#[]⟩, .slice none 0 0] 37) := setR v1 H 0 _ _ (.int .i64 (a : Nat)) KH1.out
          have g1' : (v1.setCell ⟨H, 0, none⟩ (.int .i64 (a : Nat))).frozen? ⟨H, 1, none⟩ = false := frozR hm1 1
          have k1' : (v1.setCell ⟨H, 0, none⟩ (.int .i64 (a : Nat))).cell? ⟨H, 1, none⟩ = some (.int .i64 0) := cell_of_blk hm1 1
          have KH1' : Hid (((v1.setCell ⟨H, 0, none⟩ (.int .i64 (a : Nat))).setCell ⟨H, 1, none⟩ (.int .i64 (n : Nat))).heap[H]? = some (.cells #[.int .i64 (a : Nat), .int .i64 (n : Nat), .int .i64 0, .int .i64 0, .string ⟨#[]⟩, .slice none 0 0] 37)) := hid (setR _ H 1 _ _ (.int .i64 (n : Nat)) hm1)
          have KG1' : Hid (((v1.setCell ⟨H, 0, none⟩ (.int .i64 (a : Nat))).setCell ⟨H, 1, none⟩ (.int .i64 (n : Nat))).heap[G]? = some (.cells #[.int .i64 0, .int .i64 0, .int .i64 0, .int .i64 0, .string ⟨#[]⟩, .slice none 0 0] 37)) := hid (((below_set (below_set (Below.refl H v1) (Nat.le_refl _)) (Nat.le_refl _)).block G HGH.out).trans KG1.out)
          have HV1' : Hid (Below w.heap.size w ((v1.setCell ⟨H, 0, none⟩ (.int .i64 (a : Nat))).setCell ⟨H, 1, none⟩ (.int .i64 (n : Nat)))) := hid (below_set (below_set HV1.out HWH.out) HWH.out)
          clear hm1
          obtain ⟨e1, e2, e3⟩ := HP1.out _ hq
          have E1 : a = a0 := e1
          have E2 : n = n0 := e2
          have E3 : r = r0 := e3
          clear e1 e2 e3
          subst E1 E2 E3
          have HQ1 := hid hq
          clear hq
          rw [HQ1.out, Option.isSome_some]
          go_wp2_with fail
          generalize ((v1.setCell ⟨H, 0, none⟩ (.int .i64 (a : Nat))).setCell ⟨H, 1, none⟩ (.int .i64 (n : Nat))) = u1 at KH1' KG1' HV1' ⊢
          clear g1 k1 g1' k1' KH1 KG1 HV1
          refine (rBehind_any (bB r) ⟨#[32, 43]⟩ u1).mono ?_
          rintro e u1' ⟨rfl, rfl⟩
          unfold behB
          rw [bB_data, show (ByteArray.mk #[32, 43]).data.toList = Un.mkM from rfl]
          rw [hm, Option.getD_some, Option.isSome_some]
          clear hm
          go_wp2_with fail
          refine (rSpanned_any (bB s2) u1' HZ2.out).mono ?_
          rintro e v2 ⟨⟨b, m, r2, rfl, ha2, hn2, hr2, hp2⟩, hb2⟩
          rw [bB_data] at hr2 hp2 ⊢
          have HV2 := hid (HV1'.out.trans (hb2.mono HV1'.out.size))
          have KG2 := hid ((hb2.block G (lt_of_heap KG1'.out)).trans KG1'.out)
          have KH2 := hid ((hb2.block H (lt_of_heap KH1'.out)).trans KH1'.out)
          have HP2 := hid hp2
          have HR2 := hid hr2
          clear ha2 hn2 hr2 hp2 hb2
          have g2 : v2.frozen? ⟨H, 2, none⟩ = false := frozR KH2.out 2
          have k2 : v2.cell? ⟨H, 2, none⟩ = some (.int .i64 0) := cell_of_blk KH2.out 2
          have hm2 : (v2.setCell ⟨H, 2, none⟩ (.int .i64 (b : Nat))).heap[H]? = some (.cells #[.int .i64 (a : Nat), .int .i64 (n : Nat), .int .i64 (b : Nat), .int .i64 0, .string ⟨#[]⟩, .slice none 0 0] 37) := setR v2 H 2 _ _ (.int .i64 (b : Nat)) KH2.out
          have g2' : (v2.setCell ⟨H, 2, none⟩ (.int .i64 (b : Nat))).frozen? ⟨H, 3, none⟩ = false := frozR hm2 3
          have k2' : (v2.setCell ⟨H, 2, none⟩ (.int .i64 (b : Nat))).cell? ⟨H, 3, none⟩ = some (.int .i64 0) := cell_of_blk hm2 3
          have KH2' : Hid (((v2.setCell ⟨H, 2, none⟩ (.int .i64 (b : Nat))).setCell ⟨H, 3, none⟩ (.int .i64 (m : Nat))).heap[H]? = some (.cells #[.int .i64 (a : Nat), .int .i64 (n : Nat), .int .i64 (b : Nat), .int .i64 (m : Nat), .string ⟨#[]⟩, .slice none 0 0] 37)) := hid (setR _ H 3 _ _ (.int .i64 (m : Nat)) hm2)
          have KG2' : Hid (((v2.setCell ⟨H, 2, none⟩ (.int .i64 (b : Nat))).setCell ⟨H, 3, none⟩ (.int .i64 (m : Nat))).heap[G]? = some (.cells #[.int .i64 0, .int .i64 0, .int .i64 0, .int .i64 0, .string ⟨#[]⟩, .slice none 0 0] 37)) := hid (((below_set (below_set (Below.refl H v2) (Nat.le_refl _)) (Nat.le_refl _)).block G HGH.out).trans KG2.out)
          have HV2' : Hid (Below w.heap.size w ((v2.setCell ⟨H, 2, none⟩ (.int .i64 (b : Nat))).setCell ⟨H, 3, none⟩ (.int .i64 (m : Nat)))) := hid (below_set (below_set HV2.out HWH.out) HWH.out)
          clear hm2
          rw [hq2, Option.isSome_none]
          clear hq2 HP2
          have z0 : ((v2.setCell ⟨H, 2, none⟩ (.int .i64 (b : Nat))).setCell ⟨H, 3, none⟩ (.int .i64 (m : Nat))).cell? ⟨H, 0, none⟩ = some (.int .i64 (a : Nat)) := cell_of_blk KH2'.out 0
          have z1 : ((v2.setCell ⟨H, 2, none⟩ (.int .i64 (b : Nat))).setCell ⟨H, 3, none⟩ (.int .i64 (m : Nat))).cell? ⟨H, 1, none⟩ = some (.int .i64 (n : Nat)) := cell_of_blk KH2'.out 1
          have z2 : ((v2.setCell ⟨H, 2, none⟩ (.int .i64 (b : Nat))).setCell ⟨H, 3, none⟩ (.int .i64 (m : Nat))).cell? ⟨H, 2, none⟩ = some (.int .i64 (b : Nat)) := cell_of_blk KH2'.out 2
          have z3 : ((v2.setCell ⟨H, 2, none⟩ (.int .i64 (b : Nat))).setCell ⟨H, 3, none⟩ (.int .i64 (m : Nat))).cell? ⟨H, 3, none⟩ = some (.int .i64 (m : Nat)) := cell_of_blk KH2'.out 3
          have z4 : ((v2.setCell ⟨H, 2, none⟩ (.int .i64 (b : Nat))).setCell ⟨H, 3, none⟩ (.int .i64 (m : Nat))).cell? ⟨H, 4, none⟩ = some (.string ⟨#[]⟩) := cell_of_blk KH2'.out 4
          have z5 : ((v2.setCell ⟨H, 2, none⟩ (.int .i64 (b : Nat))).setCell ⟨H, 3, none⟩ (.int .i64 (m : Nat))).cell? ⟨H, 5, none⟩ = some (.slice none 0 0) := cell_of_blk KH2'.out 5
          go_wp2_with (guard_target =~ wpList _ _ _ (_ :: _) _ _; refine wpList_stA 37 #[.int .i64 (a : Nat), .int .i64 (n : Nat), .int .i64 (b : Nat), .int .i64 (m : Nat), .string ⟨#[]⟩, .slice none 0 0] rfl rfl KG2'.out sizeHk rfl rfl rfl rfl ?_; intro w8 hk8 hkp8; have y0 : w8.cell? ⟨G, 0, none⟩ = some (.int .i64 (a : Nat)) := cell_of_blk hk8 0; have y1 : w8.cell? ⟨G, 1, none⟩ = some (.int .i64 (n : Nat)) := cell_of_blk hk8 1; have y2 : w8.cell? ⟨G, 2, none⟩ = some (.int .i64 (b : Nat)) := cell_of_blk hk8 2; have y3 : w8.cell? ⟨G, 3, none⟩ = some (.int .i64 (m : Nat)) := cell_of_blk hk8 3; have y4 : w8.cell? ⟨G, 4, none⟩ = some (.string ⟨#[]⟩) := cell_of_blk hk8 4; have y5 : w8.cell? ⟨G, 5, none⟩ = some (.slice none 0 0) := cell_of_blk hk8 5; have HKP := hid hkp8; clear hk8 hkp8)
          exact bodyPost_ret (v := .tuple #[.agg #[.int .i64 (a : Nat), .int .i64 (n : Nat), .int .i64 (b : Nat), .int .i64 (m : Nat), .string ⟨#[]⟩, .slice none 0 0], .bool false]) (by simp [results, Tryz.results34, go_sem, y0, y1, y2, y3, y4, y5]) rfl ⟨hd_no HD.out, Kept.onto HV2'.out HKP.out (Nat.le_of_eq HGW.out.symm) (Nat.le_refl _)⟩
        | some q2 =>
          obtain ⟨b0, m0, r20⟩ := q2
          cases hc : Un.pre Un.mkC r20 with
          | none =>
            have HD := hid (pD5 hp hq hm hq2 hc)
            go_enter Tryz.func34, Tryz.ntmps34
            go_wp2_with fail
            rw [← hG] at HKG ⊢
            rw [← hH] at ⊢
            clear hG hH
            generalize (w.alloc (.cells #[.int .i64 0, .int .i64 0, .int .i64 0, .int .i64 0, .string ⟨#[]⟩, .slice none 0 0] 37)).alloc (.cells #[.int .i64 0, .int .i64 0, .int .i64 0, .int .i64 0, .string ⟨#[]⟩, .slice none 0 0] 37) = w0 at HB0 HKG HKH ⊢
            refine (HBR.out w0).mono ?_
            rintro e w1 ⟨rfl, rfl⟩
            go_wp2_with fail
            refine (rBehind_any (bB l) ⟨#[64, 64, 32, 45]⟩ w1).mono ?_
            rintro e w1' ⟨rfl, rfl⟩
            unfold behB
            rw [bB_data, show (ByteArray.mk #[64, 64, 32, 45]).data.toList = Un.mkB from rfl]
            rw [hp, Option.getD_some, Option.isSome_some]
            have HPB := hid hp
            clear hp
            go_wp2_with fail
            refine (rSpanned_any (bB s1) w1' HZ1.out).mono ?_
            rintro e v1 ⟨⟨a, n, r, rfl, ha1, hn1, hr1, hp1⟩, hb1⟩
            rw [bB_data] at hr1 hp1 ⊢
            have HV1 := hid (HB0.out.trans (hb1.mono HB0.out.size))
            have KG1 := hid ((hb1.block G (lt_of_heap HKG.out)).trans HKG.out)
            have KH1 := hid ((hb1.block H (lt_of_heap HKH.out)).trans HKH.out)
            have HP1 := hid hp1
            have HR1 := hid hr1
            clear ha1 hn1 hr1 hp1 hb1
            have g1 : v1.frozen? ⟨H, 0, none⟩ = false := frozR KH1.out 0
            have k1 : v1.cell? ⟨H, 0, none⟩ = some (.int .i64 0) := cell_of_blk KH1.out 0
            have hm1 : (v1.setCell ⟨H, 0, none⟩ (.int .i64 (a : Nat))).heap[H]? = some (.cells #[.int .i64 (a : Nat), .int .i64 0, .int .i64 0, .int .i64 0, .string ⟨#[]⟩, .slice none 0 0] 37) := setR v1 H 0 _ _ (.int .i64 (a : Nat)) KH1.out
            have g1' : (v1.setCell ⟨H, 0, none⟩ (.int .i64 (a : Nat))).frozen? ⟨H, 1, none⟩ = false := frozR hm1 1
            have k1' : (v1.setCell ⟨H, 0, none⟩ (.int .i64 (a : Nat))).cell? ⟨H, 1, none⟩ = some (.int .i64 0) := cell_of_blk hm1 1
            have KH1' : Hid (((v1.setCell ⟨H, 0, none⟩ (.int .i64 (a : Nat))).setCell ⟨H, 1, none⟩ (.int .i64 (n : Nat))).heap[H]? = some (.cells #[.int .i64 (a : Nat), .int .i64 (n : Nat), .int .i64 0, .int .i64 0, .string ⟨#[]⟩, .slice none 0 0] 37)) := hid (setR _ H 1 _ _ (.int .i64 (n : Nat)) hm1)
            have KG1' : Hid (((v1.setCell ⟨H, 0, none⟩ (.int .i64 (a : Nat))).setCell ⟨H, 1, none⟩ (.int .i64 (n : Nat))).heap[G]? = some (.cells #[.int .i64 0, .int .i64 0, .int .i64 0, .int .i64 0, .string ⟨#[]⟩, .slice none 0 0] 37)) := hid (((below_set (below_set (Below.refl H v1) (Nat.le_refl _)) (Nat.le_refl _)).block G HGH.out).trans KG1.out)
            have HV1' : Hid (Below w.heap.size w ((v1.setCell ⟨H, 0, none⟩ (.int .i64 (a : Nat))).setCell ⟨H, 1, none⟩ (.int .i64 (n : Nat)))) := hid (below_set (below_set HV1.out HWH.out) HWH.out)
            clear hm1
            obtain ⟨e1, e2, e3⟩ := HP1.out _ hq
            have E1 : a = a0 := e1
            have E2 : n = n0 := e2
            have E3 : r = r0 := e3
            clear e1 e2 e3
            subst E1 E2 E3
            have HQ1 := hid hq
            clear hq
            rw [HQ1.out, Option.isSome_some]
            go_wp2_with fail
            generalize ((v1.setCell ⟨H, 0, none⟩ (.int .i64 (a : Nat))).setCell ⟨H, 1, none⟩ (.int .i64 (n : Nat))) = u1 at KH1' KG1' HV1' ⊢
            clear g1 k1 g1' k1' KH1 KG1 HV1
            refine (rBehind_any (bB r) ⟨#[32, 43]⟩ u1).mono ?_
            rintro e u1' ⟨rfl, rfl⟩
            unfold behB
            rw [bB_data, show (ByteArray.mk #[32, 43]).data.toList = Un.mkM from rfl]
            rw [hm, Option.getD_some, Option.isSome_some]
            clear hm
            go_wp2_with fail
            refine (rSpanned_any (bB s2) u1' HZ2.out).mono ?_
            rintro e v2 ⟨⟨b, m, r2, rfl, ha2, hn2, hr2, hp2⟩, hb2⟩
            rw [bB_data] at hr2 hp2 ⊢
            have HV2 := hid (HV1'.out.trans (hb2.mono HV1'.out.size))
            have KG2 := hid ((hb2.block G (lt_of_heap KG1'.out)).trans KG1'.out)
            have KH2 := hid ((hb2.block H (lt_of_heap KH1'.out)).trans KH1'.out)
            have HP2 := hid hp2
            have HR2 := hid hr2
            clear ha2 hn2 hr2 hp2 hb2
            have g2 : v2.frozen? ⟨H, 2, none⟩ = false := frozR KH2.out 2
            have k2 : v2.cell? ⟨H, 2, none⟩ = some (.int .i64 0) := cell_of_blk KH2.out 2
            have hm2 : (v2.setCell ⟨H, 2, none⟩ (.int .i64 (b : Nat))).heap[H]? = some (.cells #[.int .i64 (a : Nat), .int .i64 (n : Nat), .int .i64 (b : Nat), .int .i64 0, .string ⟨#[]⟩, .slice none 0 0] 37) := setR v2 H 2 _ _ (.int .i64 (b : Nat)) KH2.out
            have g2' : (v2.setCell ⟨H, 2, none⟩ (.int .i64 (b : Nat))).frozen? ⟨H, 3, none⟩ = false := frozR hm2 3
            have k2' : (v2.setCell ⟨H, 2, none⟩ (.int .i64 (b : Nat))).cell? ⟨H, 3, none⟩ = some (.int .i64 0) := cell_of_blk hm2 3
            have KH2' : Hid (((v2.setCell ⟨H, 2, none⟩ (.int .i64 (b : Nat))).setCell ⟨H, 3, none⟩ (.int .i64 (m : Nat))).heap[H]? = some (.cells #[.int .i64 (a : Nat), .int .i64 (n : Nat), .int .i64 (b : Nat), .int .i64 (m : Nat), .string ⟨#[]⟩, .slice none 0 0] 37)) := hid (setR _ H 3 _ _ (.int .i64 (m : Nat)) hm2)
            have KG2' : Hid (((v2.setCell ⟨H, 2, none⟩ (.int .i64 (b : Nat))).setCell ⟨H, 3, none⟩ (.int .i64 (m : Nat))).heap[G]? = some (.cells #[.int .i64 0, .int .i64 0, .int .i64 0, .int .i64 0, .string ⟨#[]⟩, .slice none 0 0] 37)) := hid (((below_set (below_set (Below.refl H v2) (Nat.le_refl _)) (Nat.le_refl _)).block G HGH.out).trans KG2.out)
            have HV2' : Hid (Below w.heap.size w ((v2.setCell ⟨H, 2, none⟩ (.int .i64 (b : Nat))).setCell ⟨H, 3, none⟩ (.int .i64 (m : Nat)))) := hid (below_set (below_set HV2.out HWH.out) HWH.out)
            clear hm2
            obtain ⟨e1, e2, e3⟩ := HP2.out _ hq2
            have E1 : b = b0 := e1
            have E2 : m = m0 := e2
            have E3 : r2 = r20 := e3
            clear e1 e2 e3
            subst E1 E2 E3
            have HQ2 := hid hq2
            clear hq2
            rw [HQ2.out, Option.isSome_some]
            go_wp2_with fail
            generalize ((v2.setCell ⟨H, 2, none⟩ (.int .i64 (b : Nat))).setCell ⟨H, 3, none⟩ (.int .i64 (m : Nat))) = u2 at KH2' KG2' HV2' ⊢
            clear g2 k2 g2' k2' KH2 KG2 HV2
            refine (rBehind_any (bB r2) ⟨#[32, 64, 64]⟩ u2).mono ?_
            rintro e u2' ⟨rfl, rfl⟩
            unfold behB
            rw [bB_data, show (ByteArray.mk #[32, 64, 64]).data.toList = Un.mkC from rfl]
            rw [hc, Option.isSome_none]
            clear hc
            have z0 : u2'.cell? ⟨H, 0, none⟩ = some (.int .i64 (a : Nat)) := cell_of_blk KH2'.out 0
            have z1 : u2'.cell? ⟨H, 1, none⟩ = some (.int .i64 (n : Nat)) := cell_of_blk KH2'.out 1
            have z2 : u2'.cell? ⟨H, 2, none⟩ = some (.int .i64 (b : Nat)) := cell_of_blk KH2'.out 2
            have z3 : u2'.cell? ⟨H, 3, none⟩ = some (.int .i64 (m : Nat)) := cell_of_blk KH2'.out 3
            have z4 : u2'.cell? ⟨H, 4, none⟩ = some (.string ⟨#[]⟩) := cell_of_blk KH2'.out 4
            have z5 : u2'.cell? ⟨H, 5, none⟩ = some (.slice none 0 0) := cell_of_blk KH2'.out 5
            go_wp2_with (guard_target =~ wpList _ _ _ (_ :: _) _ _; refine wpList_stA 37 #[.int .i64 (a : Nat), .int .i64 (n : Nat), .int .i64 (b : Nat), .int .i64 (m : Nat), .string ⟨#[]⟩, .slice none 0 0] rfl rfl KG2'.out sizeHk rfl rfl rfl rfl ?_; intro w8 hk8 hkp8; have y0 : w8.cell? ⟨G, 0, none⟩ = some (.int .i64 (a : Nat)) := cell_of_blk hk8 0; have y1 : w8.cell? ⟨G, 1, none⟩ = some (.int .i64 (n : Nat)) := cell_of_blk hk8 1; have y2 : w8.cell? ⟨G, 2, none⟩ = some (.int .i64 (b : Nat)) := cell_of_blk hk8 2; have y3 : w8.cell? ⟨G, 3, none⟩ = some (.int .i64 (m : Nat)) := cell_of_blk hk8 3; have y4 : w8.cell? ⟨G, 4, none⟩ = some (.string ⟨#[]⟩) := cell_of_blk hk8 4; have y5 : w8.cell? ⟨G, 5, none⟩ = some (.slice none 0 0) := cell_of_blk hk8 5; have HKP := hid hkp8; clear hk8 hkp8)
            exact bodyPost_ret (v := .tuple #[.agg #[.int .i64 (a : Nat), .int .i64 (n : Nat), .int .i64 (b : Nat), .int .i64 (m : Nat), .string ⟨#[]⟩, .slice none 0 0], .bool false]) (by simp [results, Tryz.results34, go_sem, y0, y1, y2, y3, y4, y5]) rfl ⟨hd_no HD.out, Kept.onto HV2'.out HKP.out (Nat.le_of_eq HGW.out.symm) (Nat.le_refl _)⟩
          | some t =>
            have HD := hid (pD6 hp hq hm hq2 hc)
            obtain ⟨y, hy⟩ : ∃ y, y = bB t := ⟨_, rfl⟩
            have hyd : t = y.data.toList := by rw [hy, bB_data]
            by_cases h0 : y.size = 0
            · have HT := hid (headP_nil h0)
              rw [hyd, HT.out] at HD
              have ye := emptyB h0
              clear h0
              go_enter Tryz.func34, Tryz.ntmps34
              go_wp2_with fail
              rw [← hG] at HKG ⊢
              rw [← hH] at ⊢
              clear hG hH
              generalize (w.alloc (.cells #[.int .i64 0, .int .i64 0, .int .i64 0, .int .i64 0, .string ⟨#[]⟩, .slice none 0 0] 37)).alloc (.cells #[.int .i64 0, .int .i64 0, .int .i64 0, .int .i64 0, .string ⟨#[]⟩, .slice none 0 0] 37) = w0 at HB0 HKG HKH ⊢
              refine (HBR.out w0).mono ?_
              rintro e w1 ⟨rfl, rfl⟩
              go_wp2_with fail
              refine (rBehind_any (bB l) ⟨#[64, 64, 32, 45]⟩ w1).mono ?_
              rintro e w1' ⟨rfl, rfl⟩
              unfold behB
              rw [bB_data, show (ByteArray.mk #[64, 64, 32, 45]).data.toList = Un.mkB from rfl]
              rw [hp, Option.getD_some, Option.isSome_some]
              have HPB := hid hp
              clear hp
              go_wp2_with fail
              refine (rSpanned_any (bB s1) w1' HZ1.out).mono ?_
              rintro e v1 ⟨⟨a, n, r, rfl, ha1, hn1, hr1, hp1⟩, hb1⟩
              rw [bB_data] at hr1 hp1 ⊢
              have HV1 := hid (HB0.out.trans (hb1.mono HB0.out.size))
              have KG1 := hid ((hb1.block G (lt_of_heap HKG.out)).trans HKG.out)
              have KH1 := hid ((hb1.block H (lt_of_heap HKH.out)).trans HKH.out)
              have HP1 := hid hp1
              have HR1 := hid hr1
              clear ha1 hn1 hr1 hp1 hb1
              have g1 : v1.frozen? ⟨H, 0, none⟩ = false := frozR KH1.out 0
              have k1 : v1.cell? ⟨H, 0, none⟩ = some (.int .i64 0) := cell_of_blk KH1.out 0
              have hm1 : (v1.setCell ⟨H, 0, none⟩ (.int .i64 (a : Nat))).heap[H]? = some (.cells #[.int .i64 (a : Nat), .int .i64 0, .int .i64 0, .int .i64 0, .string ⟨#[]⟩, .slice none 0 0] 37) := setR v1 H 0 _ _ (.int .i64 (a : Nat)) KH1.out
              have g1' : (v1.setCell ⟨H, 0, none⟩ (.int .i64 (a : Nat))).frozen? ⟨H, 1, none⟩ = false := frozR hm1 1
              have k1' : (v1.setCell ⟨H, 0, none⟩ (.int .i64 (a : Nat))).cell? ⟨H, 1, none⟩ = some (.int .i64 0) := cell_of_blk hm1 1
              have KH1' : Hid (((v1.setCell ⟨H, 0, none⟩ (.int .i64 (a : Nat))).setCell ⟨H, 1, none⟩ (.int .i64 (n : Nat))).heap[H]? = some (.cells #[.int .i64 (a : Nat), .int .i64 (n : Nat), .int .i64 0, .int .i64 0, .string ⟨#[]⟩, .slice none 0 0] 37)) := hid (setR _ H 1 _ _ (.int .i64 (n : Nat)) hm1)
              have KG1' : Hid (((v1.setCell ⟨H, 0, none⟩ (.int .i64 (a : Nat))).setCell ⟨H, 1, none⟩ (.int .i64 (n : Nat))).heap[G]? = some (.cells #[.int .i64 0, .int .i64 0, .int .i64 0, .int .i64 0, .string ⟨#[]⟩, .slice none 0 0] 37)) := hid (((below_set (below_set (Below.refl H v1) (Nat.le_refl _)) (Nat.le_refl _)).block G HGH.out).trans KG1.out)
              have HV1' : Hid (Below w.heap.size w ((v1.setCell ⟨H, 0, none⟩ (.int .i64 (a : Nat))).setCell ⟨H, 1, none⟩ (.int .i64 (n : Nat)))) := hid (below_set (below_set HV1.out HWH.out) HWH.out)
              clear hm1
              obtain ⟨e1, e2, e3⟩ := HP1.out _ hq
              have E1 : a = a0 := e1
              have E2 : n = n0 := e2
              have E3 : r = r0 := e3
              clear e1 e2 e3
              subst E1 E2 E3
              have HQ1 := hid hq
              clear hq
              rw [HQ1.out, Option.isSome_some]
              go_wp2_with fail
              generalize ((v1.setCell ⟨H, 0, none⟩ (.int .i64 (a : Nat))).setCell ⟨H, 1, none⟩ (.int .i64 (n : Nat))) = u1 at KH1' KG1' HV1' ⊢
              clear g1 k1 g1' k1' KH1 KG1 HV1
              refine (rBehind_any (bB r) ⟨#[32, 43]⟩ u1).mono ?_
              rintro e u1' ⟨rfl, rfl⟩
              unfold behB
              rw [bB_data, show (ByteArray.mk #[32, 43]).data.toList = Un.mkM from rfl]
              rw [hm, Option.getD_some, Option.isSome_some]
              clear hm
              go_wp2_with fail
              refine (rSpanned_any (bB s2) u1' HZ2.out).mono ?_
              rintro e v2 ⟨⟨b, m, r2, rfl, ha2, hn2, hr2, hp2⟩, hb2⟩
              rw [bB_data] at hr2 hp2 ⊢
              have HV2 := hid (HV1'.out.trans (hb2.mono HV1'.out.size))
              have KG2 := hid ((hb2.block G (lt_of_heap KG1'.out)).trans KG1'.out)
              have KH2 := hid ((hb2.block H (lt_of_heap KH1'.out)).trans KH1'.out)
              have HP2 := hid hp2
              have HR2 := hid hr2
              clear ha2 hn2 hr2 hp2 hb2
              have g2 : v2.frozen? ⟨H, 2, none⟩ = false := frozR KH2.out 2
              have k2 : v2.cell? ⟨H, 2, none⟩ = some (.int .i64 0) := cell_of_blk KH2.out 2
              have hm2 : (v2.setCell ⟨H, 2, none⟩ (.int .i64 (b : Nat))).heap[H]? = some (.cells #[.int .i64 (a : Nat), .int .i64 (n : Nat), .int .i64 (b : Nat), .int .i64 0, .string ⟨#[]⟩, .slice none 0 0] 37) := setR v2 H 2 _ _ (.int .i64 (b : Nat)) KH2.out
              have g2' : (v2.setCell ⟨H, 2, none⟩ (.int .i64 (b : Nat))).frozen? ⟨H, 3, none⟩ = false := frozR hm2 3
              have k2' : (v2.setCell ⟨H, 2, none⟩ (.int .i64 (b : Nat))).cell? ⟨H, 3, none⟩ = some (.int .i64 0) := cell_of_blk hm2 3
              have KH2' : Hid (((v2.setCell ⟨H, 2, none⟩ (.int .i64 (b : Nat))).setCell ⟨H, 3, none⟩ (.int .i64 (m : Nat))).heap[H]? = some (.cells #[.int .i64 (a : Nat), .int .i64 (n : Nat), .int .i64 (b : Nat), .int .i64 (m : Nat), .string ⟨#[]⟩, .slice none 0 0] 37)) := hid (setR _ H 3 _ _ (.int .i64 (m : Nat)) hm2)
              have KG2' : Hid (((v2.setCell ⟨H, 2, none⟩ (.int .i64 (b : Nat))).setCell ⟨H, 3, none⟩ (.int .i64 (m : Nat))).heap[G]? = some (.cells #[.int .i64 0, .int .i64 0, .int .i64 0, .int .i64 0, .string ⟨#[]⟩, .slice none 0 0] 37)) := hid (((below_set (below_set (Below.refl H v2) (Nat.le_refl _)) (Nat.le_refl _)).block G HGH.out).trans KG2.out)
              have HV2' : Hid (Below w.heap.size w ((v2.setCell ⟨H, 2, none⟩ (.int .i64 (b : Nat))).setCell ⟨H, 3, none⟩ (.int .i64 (m : Nat)))) := hid (below_set (below_set HV2.out HWH.out) HWH.out)
              clear hm2
              obtain ⟨e1, e2, e3⟩ := HP2.out _ hq2
              have E1 : b = b0 := e1
              have E2 : m = m0 := e2
              have E3 : r2 = r20 := e3
              clear e1 e2 e3
              subst E1 E2 E3
              have HQ2 := hid hq2
              clear hq2
              rw [HQ2.out, Option.isSome_some]
              go_wp2_with fail
              generalize ((v2.setCell ⟨H, 2, none⟩ (.int .i64 (b : Nat))).setCell ⟨H, 3, none⟩ (.int .i64 (m : Nat))) = u2 at KH2' KG2' HV2' ⊢
              clear g2 k2 g2' k2' KH2 KG2 HV2
              refine (rBehind_any (bB r2) ⟨#[32, 64, 64]⟩ u2).mono ?_
              rintro e u2' ⟨rfl, rfl⟩
              unfold behB
              rw [bB_data, show (ByteArray.mk #[32, 64, 64]).data.toList = Un.mkC from rfl]
              rw [hc, Option.getD_some, Option.isSome_some, ← hy]
              clear hc hy hyd
              have z0 : u2'.cell? ⟨H, 0, none⟩ = some (.int .i64 (a : Nat)) := cell_of_blk KH2'.out 0
              have z1 : u2'.cell? ⟨H, 1, none⟩ = some (.int .i64 (n : Nat)) := cell_of_blk KH2'.out 1
              have z2 : u2'.cell? ⟨H, 2, none⟩ = some (.int .i64 (b : Nat)) := cell_of_blk KH2'.out 2
              have z3 : u2'.cell? ⟨H, 3, none⟩ = some (.int .i64 (m : Nat)) := cell_of_blk KH2'.out 3
              have z4 : u2'.cell? ⟨H, 4, none⟩ = some (.string ⟨#[]⟩) := cell_of_blk KH2'.out 4
              have z5 : u2'.cell? ⟨H, 5, none⟩ = some (.slice none 0 0) := cell_of_blk KH2'.out 5
              go_wp2_with (guard_target =~ wpList _ _ _ (_ :: _) _ _; refine wpList_stA 37 #[.int .i64 (a : Nat), .int .i64 (n : Nat), .int .i64 (b : Nat), .int .i64 (m : Nat), .string ⟨#[]⟩, .slice none 0 0] rfl rfl KG2'.out sizeHk rfl rfl rfl rfl ?_; intro w8 hk8 hkp8; have y0 : w8.cell? ⟨G, 0, none⟩ = some (.int .i64 (a : Nat)) := cell_of_blk hk8 0; have y1 : w8.cell? ⟨G, 1, none⟩ = some (.int .i64 (n : Nat)) := cell_of_blk hk8 1; have y2 : w8.cell? ⟨G, 2, none⟩ = some (.int .i64 (b : Nat)) := cell_of_blk hk8 2; have y3 : w8.cell? ⟨G, 3, none⟩ = some (.int .i64 (m : Nat)) := cell_of_blk hk8 3; have y4 : w8.cell? ⟨G, 4, none⟩ = some (.string ⟨#[]⟩) := cell_of_blk hk8 4; have y5 : w8.cell? ⟨G, 5, none⟩ = some (.slice none 0 0) := cell_of_blk hk8 5; have HKP := hid hkp8; clear hk8 hkp8)
              exact bodyPost_ret (v := .tuple #[.agg #[.int .i64 (a : Nat), .int .i64 (n : Nat), .int .i64 (b : Nat), .int .i64 (m : Nat), .string ⟨#[]⟩, .slice none 0 0], .bool true]) (by simp [results, Tryz.results34, go_sem, y0, y1, y2, y3, y4, y5]) rfl ⟨hd_yes HD.out, Kept.onto HV2'.out HKP.out (Nat.le_of_eq HGW.out.symm) (Nat.le_refl _)⟩
            · have h1 : 0 < y.size := by omega
              have ye := fullB h1
              have i0 : (0 : Int) < (y.size : Int) := by omega
              have i1 : (1 : Int) ≤ (y.size : Int) := by omega
              by_cases h9 : y[0].toNat = 32
              · have HT := hid (headP_sp h1 h9)
                rw [hyd, HT.out] at HD
                have HX := hid (dropE y 1)
                have n9 : ((y[0].toNat : Int) != 32) = false := by rw [h9]; rfl
                clear h9 h0
                go_enter Tryz.func34, Tryz.ntmps34
                go_wp2_with fail
                rw [← hG] at HKG ⊢
                rw [← hH] at ⊢
                clear hG hH
                generalize (w.alloc (.cells #[.int .i64 0, .int .i64 0, .int .i64 0, .int .i64 0, .string ⟨#[]⟩, .slice none 0 0] 37)).alloc (.cells #[.int .i64 0, .int .i64 0, .int .i64 0, .int .i64 0, .string ⟨#[]⟩, .slice none 0 0] 37) = w0 at HB0 HKG HKH ⊢
                refine (HBR.out w0).mono ?_
                rintro e w1 ⟨rfl, rfl⟩
                go_wp2_with fail
                refine (rBehind_any (bB l) ⟨#[64, 64, 32, 45]⟩ w1).mono ?_
                rintro e w1' ⟨rfl, rfl⟩
                unfold behB
                rw [bB_data, show (ByteArray.mk #[64, 64, 32, 45]).data.toList = Un.mkB from rfl]
                rw [hp, Option.getD_some, Option.isSome_some]
                have HPB := hid hp
                clear hp
                go_wp2_with fail
                refine (rSpanned_any (bB s1) w1' HZ1.out).mono ?_
                rintro e v1 ⟨⟨a, n, r, rfl, ha1, hn1, hr1, hp1⟩, hb1⟩
                rw [bB_data] at hr1 hp1 ⊢
                have HV1 := hid (HB0.out.trans (hb1.mono HB0.out.size))
                have KG1 := hid ((hb1.block G (lt_of_heap HKG.out)).trans HKG.out)
                have KH1 := hid ((hb1.block H (lt_of_heap HKH.out)).trans HKH.out)
                have HP1 := hid hp1
                have HR1 := hid hr1
                clear ha1 hn1 hr1 hp1 hb1
                have g1 : v1.frozen? ⟨H, 0, none⟩ = false := frozR KH1.out 0
                have k1 : v1.cell? ⟨H, 0, none⟩ = some (.int .i64 0) := cell_of_blk KH1.out 0
                have hm1 : (v1.setCell ⟨H, 0, none⟩ (.int .i64 (a : Nat))).heap[H]? = some (.cells #[.int .i64 (a : Nat), .int .i64 0, .int .i64 0, .int .i64 0, .string ⟨#[]⟩, .slice none 0 0] 37) := setR v1 H 0 _ _ (.int .i64 (a : Nat)) KH1.out
                have g1' : (v1.setCell ⟨H, 0, none⟩ (.int .i64 (a : Nat))).frozen? ⟨H, 1, none⟩ = false := frozR hm1 1
                have k1' : (v1.setCell ⟨H, 0, none⟩ (.int .i64 (a : Nat))).cell? ⟨H, 1, none⟩ = some (.int .i64 0) := cell_of_blk hm1 1
                have KH1' : Hid (((v1.setCell ⟨H, 0, none⟩ (.int .i64 (a : Nat))).setCell ⟨H, 1, none⟩ (.int .i64 (n : Nat))).heap[H]? = some (.cells #[.int .i64 (a : Nat), .int .i64 (n : Nat), .int .i64 0, .int .i64 0, .string ⟨#[]⟩, .slice none 0 0] 37)) := hid (setR _ H 1 _ _ (.int .i64 (n : Nat)) hm1)
                have KG1' : Hid (((v1.setCell ⟨H, 0, none⟩ (.int .i64 (a : Nat))).setCell ⟨H, 1, none⟩ (.int .i64 (n : Nat))).heap[G]? = some (.cells #[.int .i64 0, .int .i64 0, .int .i64 0, .int .i64 0, .string ⟨#[]⟩, .slice none 0 0] 37)) := hid (((below_set (below_set (Below.refl H v1) (Nat.le_refl _)) (Nat.le_refl _)).block G HGH.out).trans KG1.out)
                have HV1' : Hid (Below w.heap.size w ((v1.setCell ⟨H, 0, none⟩ (.int .i64 (a : Nat))).setCell ⟨H, 1, none⟩ (.int .i64 (n : Nat)))) := hid (below_set (below_set HV1.out HWH.out) HWH.out)
                clear hm1
                obtain ⟨e1, e2, e3⟩ := HP1.out _ hq
                have E1 : a = a0 := e1
                have E2 : n = n0 := e2
                have E3 : r = r0 := e3
                clear e1 e2 e3
                subst E1 E2 E3
                have HQ1 := hid hq
                clear hq
                rw [HQ1.out, Option.isSome_some]
                go_wp2_with fail
                generalize ((v1.setCell ⟨H, 0, none⟩ (.int .i64 (a : Nat))).setCell ⟨H, 1, none⟩ (.int .i64 (n : Nat))) = u1 at KH1' KG1' HV1' ⊢
                clear g1 k1 g1' k1' KH1 KG1 HV1
                refine (rBehind_any (bB r) ⟨#[32, 43]⟩ u1).mono ?_
                rintro e u1' ⟨rfl, rfl⟩
                unfold behB
                rw [bB_data, show (ByteArray.mk #[32, 43]).data.toList = Un.mkM from rfl]
                rw [hm, Option.getD_some, Option.isSome_some]
                clear hm
                go_wp2_with fail
                refine (rSpanned_any (bB s2) u1' HZ2.out).mono ?_
                rintro e v2 ⟨⟨b, m, r2, rfl, ha2, hn2, hr2, hp2⟩, hb2⟩
                rw [bB_data] at hr2 hp2 ⊢
                have HV2 := hid (HV1'.out.trans (hb2.mono HV1'.out.size))
                have KG2 := hid ((hb2.block G (lt_of_heap KG1'.out)).trans KG1'.out)
                have KH2 := hid ((hb2.block H (lt_of_heap KH1'.out)).trans KH1'.out)
                have HP2 := hid hp2
                have HR2 := hid hr2
                clear ha2 hn2 hr2 hp2 hb2
                have g2 : v2.frozen? ⟨H, 2, none⟩ = false := frozR KH2.out 2
                have k2 : v2.cell? ⟨H, 2, none⟩ = some (.int .i64 0) := cell_of_blk KH2.out 2
                have hm2 : (v2.setCell ⟨H, 2, none⟩ (.int .i64 (b : Nat))).heap[H]? = some (.cells #[.int .i64 (a : Nat), .int .i64 (n : Nat), .int .i64 (b : Nat), .int .i64 0, .string ⟨#[]⟩, .slice none 0 0] 37) := setR v2 H 2 _ _ (.int .i64 (b : Nat)) KH2.out
                have g2' : (v2.setCell ⟨H, 2, none⟩ (.int .i64 (b : Nat))).frozen? ⟨H, 3, none⟩ = false := frozR hm2 3
                have k2' : (v2.setCell ⟨H, 2, none⟩ (.int .i64 (b : Nat))).cell? ⟨H, 3, none⟩ = some (.int .i64 0) := cell_of_blk hm2 3
                have KH2' : Hid (((v2.setCell ⟨H, 2, none⟩ (.int .i64 (b : Nat))).setCell ⟨H, 3, none⟩ (.int .i64 (m : Nat))).heap[H]? = some (.cells #[.int .i64 (a : Nat), .int .i64 (n : Nat), .int .i64 (b : Nat), .int .i64 (m : Nat), .string ⟨#[]⟩, .slice none 0 0] 37)) := hid (setR _ H 3 _ _ (.int .i64 (m : Nat)) hm2)
                have KG2' : Hid (((v2.setCell ⟨H, 2, none⟩ (.int .i64 (b : Nat))).setCell ⟨H, 3, none⟩ (.int .i64 (m : Nat))).heap[G]? = some (.cells #[.int .i64 0, .int .i64 0, .int .i64 0, .int .i64 0, .string ⟨#[]⟩, .slice none 0 0] 37)) := hid (((below_set (below_set (Below.refl H v2) (Nat.le_refl _)) (Nat.le_refl _)).block G HGH.out).trans KG2.out)
                have HV2' : Hid (Below w.heap.size w ((v2.setCell ⟨H, 2, none⟩ (.int .i64 (b : Nat))).setCell ⟨H, 3, none⟩ (.int .i64 (m : Nat)))) := hid (below_set (below_set HV2.out HWH.out) HWH.out)
                clear hm2
                obtain ⟨e1, e2, e3⟩ := HP2.out _ hq2
                have E1 : b = b0 := e1
                have E2 : m = m0 := e2
                have E3 : r2 = r20 := e3
                clear e1 e2 e3
                subst E1 E2 E3
                have HQ2 := hid hq2
                clear hq2
                rw [HQ2.out, Option.isSome_some]
                go_wp2_with fail
                generalize ((v2.setCell ⟨H, 2, none⟩ (.int .i64 (b : Nat))).setCell ⟨H, 3, none⟩ (.int .i64 (m : Nat))) = u2 at KH2' KG2' HV2' ⊢
                clear g2 k2 g2' k2' KH2 KG2 HV2
                refine (rBehind_any (bB r2) ⟨#[32, 64, 64]⟩ u2).mono ?_
                rintro e u2' ⟨rfl, rfl⟩
                unfold behB
                rw [bB_data, show (ByteArray.mk #[32, 64, 64]).data.toList = Un.mkC from rfl]
                rw [hc, Option.getD_some, Option.isSome_some, ← hy]
                clear hc hy hyd
                have g3 : u2'.frozen? ⟨H, 4, none⟩ = false := frozR KH2'.out 4
                have k3 : u2'.cell? ⟨H, 4, none⟩ = some (.string ⟨#[]⟩) := cell_of_blk KH2'.out 4
                have KH3 : Hid ((u2'.setCell ⟨H, 4, none⟩ (.string (y.extract 1 y.size))).heap[H]? = some (.cells #[.int .i64 (a : Nat), .int .i64 (n : Nat), .int .i64 (b : Nat), .int .i64 (m : Nat), .string (y.extract 1 y.size), .slice none 0 0] 37)) := hid (setR u2' H 4 _ _ (.string (y.extract 1 y.size)) KH2'.out)
                have KG3 : Hid ((u2'.setCell ⟨H, 4, none⟩ (.string (y.extract 1 y.size))).heap[G]? = some (.cells #[.int .i64 0, .int .i64 0, .int .i64 0, .int .i64 0, .string ⟨#[]⟩, .slice none 0 0] 37)) := hid (((below_set (Below.refl H u2') (Nat.le_refl _)).block G HGH.out).trans KG2'.out)
                have HV3 : Hid (Below w.heap.size w (u2'.setCell ⟨H, 4, none⟩ (.string (y.extract 1 y.size)))) := hid (below_set HV2'.out HWH.out)
                have z0 : (u2'.setCell ⟨H, 4, none⟩ (.string (y.extract 1 y.size))).cell? ⟨H, 0, none⟩ = some (.int .i64 (a : Nat)) := cell_of_blk KH3.out 0
                have z1 : (u2'.setCell ⟨H, 4, none⟩ (.string (y.extract 1 y.size))).cell? ⟨H, 1, none⟩ = some (.int .i64 (n : Nat)) := cell_of_blk KH3.out 1
                have z2 : (u2'.setCell ⟨H, 4, none⟩ (.string (y.extract 1 y.size))).cell? ⟨H, 2, none⟩ = some (.int .i64 (b : Nat)) := cell_of_blk KH3.out 2
                have z3 : (u2'.setCell ⟨H, 4, none⟩ (.string (y.extract 1 y.size))).cell? ⟨H, 3, none⟩ = some (.int .i64 (m : Nat)) := cell_of_blk KH3.out 3
                have z4 : (u2'.setCell ⟨H, 4, none⟩ (.string (y.extract 1 y.size))).cell? ⟨H, 4, none⟩ = some (.string (y.extract 1 y.size)) := cell_of_blk KH3.out 4
                have z5 : (u2'.setCell ⟨H, 4, none⟩ (.string (y.extract 1 y.size))).cell? ⟨H, 5, none⟩ = some (.slice none 0 0) := cell_of_blk KH3.out 5
                go_wp2_with (guard_target =~ wpList _ _ _ (_ :: _) _ _; refine wpList_stA 37 #[.int .i64 (a : Nat), .int .i64 (n : Nat), .int .i64 (b : Nat), .int .i64 (m : Nat), .string (y.extract 1 y.size), .slice none 0 0] rfl rfl KG3.out sizeHk rfl rfl rfl rfl ?_; intro w8 hk8 hkp8; have y0 : w8.cell? ⟨G, 0, none⟩ = some (.int .i64 (a : Nat)) := cell_of_blk hk8 0; have y1 : w8.cell? ⟨G, 1, none⟩ = some (.int .i64 (n : Nat)) := cell_of_blk hk8 1; have y2 : w8.cell? ⟨G, 2, none⟩ = some (.int .i64 (b : Nat)) := cell_of_blk hk8 2; have y3 : w8.cell? ⟨G, 3, none⟩ = some (.int .i64 (m : Nat)) := cell_of_blk hk8 3; have y4 : w8.cell? ⟨G, 4, none⟩ = some (.string (y.extract 1 y.size)) := cell_of_blk hk8 4; have y5 : w8.cell? ⟨G, 5, none⟩ = some (.slice none 0 0) := cell_of_blk hk8 5; have HKP := hid hkp8; clear hk8 hkp8)
                exact bodyPost_ret (v := .tuple #[.agg #[.int .i64 (a : Nat), .int .i64 (n : Nat), .int .i64 (b : Nat), .int .i64 (m : Nat), .string (y.extract 1 y.size), .slice none 0 0], .bool true]) (by simp [results, Tryz.results34, go_sem, y0, y1, y2, y3, y4, y5]) rfl ⟨by rw [HX.out]; exact hd_yes HD.out, Kept.onto HV3.out HKP.out (Nat.le_of_eq HGW.out.symm) (Nat.le_refl _)⟩
              · have HT := hid (headP_no h1 h9)
                rw [hyd, HT.out] at HD
                have n9 : ((y[0].toNat : Int) != 32) = true := by rw [bne_iff_ne]; omega
                clear h9 h0
                go_enter Tryz.func34, Tryz.ntmps34
                go_wp2_with fail
                rw [← hG] at HKG ⊢
                rw [← hH] at ⊢
                clear hG hH
                generalize (w.alloc (.cells #[.int .i64 0, .int .i64 0, .int .i64 0, .int .i64 0, .string ⟨#[]⟩, .slice none 0 0] 37)).alloc (.cells #[.int .i64 0, .int .i64 0, .int .i64 0, .int .i64 0, .string ⟨#[]⟩, .slice none 0 0] 37) = w0 at HB0 HKG HKH ⊢
                refine (HBR.out w0).mono ?_
                rintro e w1 ⟨rfl, rfl⟩
                go_wp2_with fail
                refine (rBehind_any (bB l) ⟨#[64, 64, 32, 45]⟩ w1).mono ?_
                rintro e w1' ⟨rfl, rfl⟩
                unfold behB
                rw [bB_data, show (ByteArray.mk #[64, 64, 32, 45]).data.toList = Un.mkB from rfl]
                rw [hp, Option.getD_some, Option.isSome_some]
                have HPB := hid hp
                clear hp
                go_wp2_with fail
                refine (rSpanned_any (bB s1) w1' HZ1.out).mono ?_
                rintro e v1 ⟨⟨a, n, r, rfl, ha1, hn1, hr1, hp1⟩, hb1⟩
                rw [bB_data] at hr1 hp1 ⊢
                have HV1 := hid (HB0.out.trans (hb1.mono HB0.out.size))
                have KG1 := hid ((hb1.block G (lt_of_heap HKG.out)).trans HKG.out)
                have KH1 := hid ((hb1.block H (lt_of_heap HKH.out)).trans HKH.out)
                have HP1 := hid hp1
                have HR1 := hid hr1
                clear ha1 hn1 hr1 hp1 hb1
                have g1 : v1.frozen? ⟨H, 0, none⟩ = false := frozR KH1.out 0
                have k1 : v1.cell? ⟨H, 0, none⟩ = some (.int .i64 0) := cell_of_blk KH1.out 0
                have hm1 : (v1.setCell ⟨H, 0, none⟩ (.int .i64 (a : Nat))).heap[H]? = some (.cells #[.int .i64 (a : Nat), .int .i64 0, .int .i64 0, .int .i64 0, .string ⟨#[]⟩, .slice none 0 0] 37) := setR v1 H 0 _ _ (.int .i64 (a : Nat)) KH1.out
                have g1' : (v1.setCell ⟨H, 0, none⟩ (.int .i64 (a : Nat))).frozen? ⟨H, 1, none⟩ = false := frozR hm1 1
                have k1' : (v1.setCell ⟨H, 0, none⟩ (.int .i64 (a : Nat))).cell? ⟨H, 1, none⟩ = some (.int .i64 0) := cell_of_blk hm1 1
                have KH1' : Hid (((v1.setCell ⟨H, 0, none⟩ (.int .i64 (a : Nat))).setCell ⟨H, 1, none⟩ (.int .i64 (n : Nat))).heap[H]? = some (.cells #[.int .i64 (a : Nat), .int .i64 (n : Nat), .int .i64 0, .int .i64 0, .string ⟨#[]⟩, .slice none 0 0] 37)) := hid (setR _ H 1 _ _ (.int .i64 (n : Nat)) hm1)
                have KG1' : Hid (((v1.setCell ⟨H, 0, none⟩ (.int .i64 (a : Nat))).setCell ⟨H, 1, none⟩ (.int .i64 (n : Nat))).heap[G]? = some (.cells #[.int .i64 0, .int .i64 0, .int .i64 0, .int .i64 0, .string ⟨#[]⟩, .slice none 0 0] 37)) := hid (((below_set (below_set (Below.refl H v1) (Nat.le_refl _)) (Nat.le_refl _)).block G HGH.out).trans KG1.out)
                have HV1' : Hid (Below w.heap.size w ((v1.setCell ⟨H, 0, none⟩ (.int .i64 (a : Nat))).setCell ⟨H, 1, none⟩ (.int .i64 (n : Nat)))) := hid (below_set (below_set HV1.out HWH.out) HWH.out)
                clear hm1
                obtain ⟨e1, e2, e3⟩ := HP1.out _ hq
                have E1 : a = a0 := e1
                have E2 : n = n0 := e2
                have E3 : r = r0 := e3
                clear e1 e2 e3
                subst E1 E2 E3
                have HQ1 := hid hq
                clear hq
                rw [HQ1.out, Option.isSome_some]
                go_wp2_with fail
                generalize ((v1.setCell ⟨H, 0, none⟩ (.int .i64 (a : Nat))).setCell ⟨H, 1, none⟩ (.int .i64 (n : Nat))) = u1 at KH1' KG1' HV1' ⊢
                clear g1 k1 g1' k1' KH1 KG1 HV1
                refine (rBehind_any (bB r) ⟨#[32, 43]⟩ u1).mono ?_
                rintro e u1' ⟨rfl, rfl⟩
                unfold behB
                rw [bB_data, show (ByteArray.mk #[32, 43]).data.toList = Un.mkM from rfl]
                rw [hm, Option.getD_some, Option.isSome_some]
                clear hm
                go_wp2_with fail
                refine (rSpanned_any (bB s2) u1' HZ2.out).mono ?_
                rintro e v2 ⟨⟨b, m, r2, rfl, ha2, hn2, hr2, hp2⟩, hb2⟩
                rw [bB_data] at hr2 hp2 ⊢
                have HV2 := hid (HV1'.out.trans (hb2.mono HV1'.out.size))
                have KG2 := hid ((hb2.block G (lt_of_heap KG1'.out)).trans KG1'.out)
                have KH2 := hid ((hb2.block H (lt_of_heap KH1'.out)).trans KH1'.out)
                have HP2 := hid hp2
                have HR2 := hid hr2
                clear ha2 hn2 hr2 hp2 hb2
                have g2 : v2.frozen? ⟨H, 2, none⟩ = false := frozR KH2.out 2
                have k2 : v2.cell? ⟨H, 2, none⟩ = some (.int .i64 0) := cell_of_blk KH2.out 2
                have hm2 : (v2.setCell ⟨H, 2, none⟩ (.int .i64 (b : Nat))).heap[H]? = some (.cells #[.int .i64 (a : Nat), .int .i64 (n : Nat), .int .i64 (b : Nat), .int .i64 0, .string ⟨#[]⟩, .slice none 0 0] 37) := setR v2 H 2 _ _ (.int .i64 (b : Nat)) KH2.out
                have g2' : (v2.setCell ⟨H, 2, none⟩ (.int .i64 (b : Nat))).frozen? ⟨H, 3, none⟩ = false := frozR hm2 3
                have k2' : (v2.setCell ⟨H, 2, none⟩ (.int .i64 (b : Nat))).cell? ⟨H, 3, none⟩ = some (.int .i64 0) := cell_of_blk hm2 3
                have KH2' : Hid (((v2.setCell ⟨H, 2, none⟩ (.int .i64 (b : Nat))).setCell ⟨H, 3, none⟩ (.int .i64 (m : Nat))).heap[H]? = some (.cells #[.int .i64 (a : Nat), .int .i64 (n : Nat), .int .i64 (b : Nat), .int .i64 (m : Nat), .string ⟨#[]⟩, .slice none 0 0] 37)) := hid (setR _ H 3 _ _ (.int .i64 (m : Nat)) hm2)
                have KG2' : Hid (((v2.setCell ⟨H, 2, none⟩ (.int .i64 (b : Nat))).setCell ⟨H, 3, none⟩ (.int .i64 (m : Nat))).heap[G]? = some (.cells #[.int .i64 0, .int .i64 0, .int .i64 0, .int .i64 0, .string ⟨#[]⟩, .slice none 0 0] 37)) := hid (((below_set (below_set (Below.refl H v2) (Nat.le_refl _)) (Nat.le_refl _)).block G HGH.out).trans KG2.out)
                have HV2' : Hid (Below w.heap.size w ((v2.setCell ⟨H, 2, none⟩ (.int .i64 (b : Nat))).setCell ⟨H, 3, none⟩ (.int .i64 (m : Nat)))) := hid (below_set (below_set HV2.out HWH.out) HWH.out)
                clear hm2
                obtain ⟨e1, e2, e3⟩ := HP2.out _ hq2
                have E1 : b = b0 := e1
                have E2 : m = m0 := e2
                have E3 : r2 = r20 := e3
                clear e1 e2 e3
                subst E1 E2 E3
                have HQ2 := hid hq2
                clear hq2
                rw [HQ2.out, Option.isSome_some]
                go_wp2_with fail
                generalize ((v2.setCell ⟨H, 2, none⟩ (.int .i64 (b : Nat))).setCell ⟨H, 3, none⟩ (.int .i64 (m : Nat))) = u2 at KH2' KG2' HV2' ⊢
                clear g2 k2 g2' k2' KH2 KG2 HV2
                refine (rBehind_any (bB r2) ⟨#[32, 64, 64]⟩ u2).mono ?_
                rintro e u2' ⟨rfl, rfl⟩
                unfold behB
                rw [bB_data, show (ByteArray.mk #[32, 64, 64]).data.toList = Un.mkC from rfl]
                rw [hc, Option.getD_some, Option.isSome_some, ← hy]
                clear hc hy hyd
                have z0 : u2'.cell? ⟨H, 0, none⟩ = some (.int .i64 (a : Nat)) := cell_of_blk KH2'.out 0
                have z1 : u2'.cell? ⟨H, 1, none⟩ = some (.int .i64 (n : Nat)) := cell_of_blk KH2'.out 1
                have z2 : u2'.cell? ⟨H, 2, none⟩ = some (.int .i64 (b : Nat)) := cell_of_blk KH2'.out 2
                have z3 : u2'.cell? ⟨H, 3, none⟩ = some (.int .i64 (m : Nat)) := cell_of_blk KH2'.out 3
                have z4 : u2'.cell? ⟨H, 4, none⟩ = some (.string ⟨#[]⟩) := cell_of_blk KH2'.out 4
                have z5 : u2'.cell? ⟨H, 5, none⟩ = some (.slice none 0 0) := cell_of_blk KH2'.out 5
                go_wp2_with (guard_target =~ wpList _ _ _ (_ :: _) _ _; refine wpList_stA 37 #[.int .i64 (a : Nat), .int .i64 (n : Nat), .int .i64 (b : Nat), .int .i64 (m : Nat), .string ⟨#[]⟩, .slice none 0 0] rfl rfl KG2'.out sizeHk rfl rfl rfl rfl ?_; intro w8 hk8 hkp8; have y0 : w8.cell? ⟨G, 0, none⟩ = some (.int .i64 (a : Nat)) := cell_of_blk hk8 0; have y1 : w8.cell? ⟨G, 1, none⟩ = some (.int .i64 (n : Nat)) := cell_of_blk hk8 1; have y2 : w8.cell? ⟨G, 2, none⟩ = some (.int .i64 (b : Nat)) := cell_of_blk hk8 2; have y3 : w8.cell? ⟨G, 3, none⟩ = some (.int .i64 (m : Nat)) := cell_of_blk hk8 3; have y4 : w8.cell? ⟨G, 4, none⟩ = some (.string ⟨#[]⟩) := cell_of_blk hk8 4; have y5 : w8.cell? ⟨G, 5, none⟩ = some (.slice none 0 0) := cell_of_blk hk8 5; have HKP := hid hkp8; clear hk8 hkp8)
                exact bodyPost_ret (v := .tuple #[.agg #[.int .i64 (a : Nat), .int .i64 (n : Nat), .int .i64 (b : Nat), .int .i64 (m : Nat), .string ⟨#[]⟩, .slice none 0 0], .bool false]) (by simp [results, Tryz.results34, go_sem, y0, y1, y2, y3, y4, y5]) rfl ⟨hd_no HD.out, Kept.onto HV2'.out HKP.out (Nat.le_of_eq HGW.out.symm) (Nat.le_refl _)⟩
end Go.Proofs.YtobocdbehjcpjaaGreatDoor
