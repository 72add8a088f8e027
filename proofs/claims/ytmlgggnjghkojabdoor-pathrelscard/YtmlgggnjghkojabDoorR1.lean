/-
  The walks of the document's Name and Join.
-/
import Derived.Test.YtmlgggnjghkojabDoorP3
namespace Go.Proofs.YtmlgggnjghkojabDoor
open Go.RowKit

theorem rname_hit {s : ByteArray} {k : Nat} (h : k < s.size) (hb : s[k] = 47 ∨ s[k] = 0) : Pp.nameN s.data.toList = 30 := by
  refine name_bad ?_
  unfold Pp.bad
  rw [Bool.or_eq_true]
  refine .inr (List.any_eq_true.2 ⟨s[k], List.mem_of_getElem? (at_data s k h), ?_⟩)
  rcases hb with e | e <;> rw [e] <;> decide
theorem rname_snoc {s : ByteArray} {k : Nat} (h : k < s.size) (h1 : s[k] ≠ 47) (h2 : s[k] ≠ 0) (ha : ((s.data.toList.take k).any fun c => c == 47 || c == 0) = false) : ((s.data.toList.take (k + 1)).any fun c => c == 47 || c == 0) = false := by
  rw [take_snoc s k h, List.any_append, ha]
  simp [h1, h2]

set_option maxHeartbeats 1000000 in
theorem refName_any (s : ByteArray) (w : World) :
    Calls Tryd.prog 21 #[.string s] w fun e w' => e = .returned (.int .i64 (Pp.nameN s.data.toList)) ∧ w' = w := by
  have ed := ByteArray.toList_eq s
  by_cases h0 : s.size = 0
  · have HB := hid (name_bad (bad_size (.inl h0)))
    have t0 := empty_yes s h0
    clear h0 ed
    go_enter Tryd.func21, Tryd.ntmps21
    go_wp2
    go_ret
    exact ⟨by rw [HB.out]; rfl, rfl⟩
  · have t0 := empty_no s h0
    by_cases h2 : s.data.toList = [46]
    · have HB := hid (name_bad (bad_dots (.inl h2)))
      have d1 : s.toList = [46] := ed.trans h2
      clear h2 ed
      go_enter Tryd.func21, Tryd.ntmps21
      go_wp2
      go_ret
      exact ⟨by rw [HB.out]; rfl, rfl⟩
    · have d1 : ¬ s.toList = [46] := fun x => h2 (ed.symm.trans x)
      by_cases h3 : s.data.toList = [46, 46]
      · have HB := hid (name_bad (bad_dots (.inr h3)))
        have d2 : s.toList = [46, 46] := ed.trans h3
        clear h2 h3 ed d1
        have d1 : ¬ s.toList = [46] := by rw [d2]; decide
        go_enter Tryd.func21, Tryd.ntmps21
        go_wp2
        go_ret
        exact ⟨by rw [HB.out]; rfl, rfl⟩
      · have d2 : ¬ s.toList = [46, 46] := fun x => h3 (ed.symm.trans x)
        have b1 : (s.toList == [46]) = false := beq_eq_false_iff_ne.2 d1
        have b2 : (s.toList == [46, 46]) = false := beq_eq_false_iff_ne.2 d2
        by_cases h1 : 255 < s.size
        · have HB := hid (name_bad (bad_size (.inr h1)))
          clear h2 h3 h0 ed
          go_enter Tryd.func21, Tryd.ntmps21
          go_wp2
          go_ret
          exact ⟨by rw [HB.out]; rfl, rfl⟩
        · have HB := hid (bad_rest h0 h1 h2 h3)
          clear h2 h3 h0 ed
          go_enter Tryd.func21, Tryd.ntmps21
          go_wp2
          go_loop [3] (fun i => ∃ k : Nat, k ≤ s.size ∧ i = .int .i64 k ∧ Hid (((s.data.toList.take k).any fun c => c == 47 || c == 0) = false)) (fun i => s.size - (intOf i).toNat)
          case atStart => exact ⟨0, Nat.zero_le _, rfl, (rfl : ((s.data.toList.take 0).any fun c => c == 47 || c == 0) = false)⟩
          case round =>
            obtain ⟨k, hk, rfl, HA⟩ := hrel
            by_cases hlt : k < s.size
            · by_cases hc : s[k] = 47
              · have HN := hid (rname_hit hlt (.inl hc))
                have e1 : ((s[k].toNat : Int) == 47) = true := beq_iff_eq.2 ((slash_iff _).2 hc)
                clear hc
                go_wp2
                go_ret
                exact ⟨by rw [HN.out]; rfl, rfl⟩
              · have e1 : ((s[k].toNat : Int) == 47) = false := beq_eq_false_iff_ne.2 fun x => hc ((slash_iff _).1 x)
                by_cases hz : s[k] = 0
                · have HN := hid (rname_hit hlt (.inr hz))
                  have e2 : ((s[k].toNat : Int) == 0) = true := beq_iff_eq.2 ((zero_iff _).2 hz)
                  clear hc hz
                  go_wp2
                  go_ret
                  exact ⟨by rw [HN.out]; rfl, rfl⟩
                · have e2 : ((s[k].toNat : Int) == 0) = false := beq_eq_false_iff_ne.2 fun x => hz ((zero_iff _).1 x)
                  have HS := hid (rname_snoc hlt hc hz HA.out)
                  clear hc hz
                  go_wp2
                  go_round
                  case rel => exact ⟨k + 1, by omega, by go_num, HS⟩
                  case measure => simp [intOf]; omega
            · have HN : Hid (Pp.nameN s.data.toList = 0) := hid (name_good (by rw [HB.out, ← take_all s k (by omega)]; exact HA.out))
              go_wp2
              go_ret
              exact ⟨by rw [HN.out]; rfl, rfl⟩

theorem glue_take_one {xs : List ByteArray} {x : ByteArray} (hx : xs[0]? = some x) : Pp.glue ((DL xs).take 1) = x.data.toList := by
  cases xs with
  | nil => cases hx
  | cons y r =>
    simp at hx
    subst hx
    simp [DL, Pp.glue, Pp.tails]
theorem glue_take_succ {xs : List ByteArray} {k : Nat} {x : ByteArray} (hx : xs[k]? = some x) (hk : 0 < k) : Pp.glue ((DL xs).take (k + 1)) = Pp.glue ((DL xs).take k) ++ 47 :: x.data.toList := by
  have e : (DL xs)[k]? = some x.data.toList := by unfold DL; rw [List.getElem?_map, hx]; rfl
  rw [List.take_add_one, e]
  refine Pp.glue_snoc _ _ fun h => ?_
  have := congrArg List.length h
  rw [List.length_take] at this
  have hlt : k < (DL xs).length := by
    rcases Nat.lt_or_ge k (DL xs).length with q | q
    · exact q
    · rw [List.getElem?_eq_none q] at e; cases e
  rw [List.length_nil] at this
  omega
theorem glue_take_le (l : List (List UInt8)) (k : Nat) : (Pp.glue (l.take k)).length ≤ (Pp.glue l).length := by
  have := Pp.glue_len_le (l.take k) (l.drop k)
  rwa [List.take_append_drop] at this
theorem cat_data (a b : ByteArray) : (a ++ b).data.toList = a.data.toList ++ b.data.toList := by simp
theorem cat_size (a b : ByteArray) : (a ++ b).size = a.size + b.size := by simp

theorem cat_int1 (g x : ByteArray) : (g.size : Int) + x.size = ((g ++ x).size : Nat) := by have := cat_size g x; omega
theorem cat_int2 (g x : ByteArray) : (g.size : Int) + 1 + x.size = (((g ++ ⟨#[47]⟩) ++ x).size : Nat) := by
  have h1 := cat_size (g ++ ⟨#[47]⟩) x
  have h2 := cat_size g ⟨#[47]⟩
  have h3 : (ByteArray.mk #[47]).size = 1 := rfl
  omega

set_option maxHeartbeats 400000 in
theorem refJoin_none (a : Option Addr) (c : Nat) (w : World) :
    Calls Tryd.prog 22 #[.slice a 0 c] w fun e w' => e = .returned (.tuple #[.string ⟨(Pp.join []).1.toArray⟩, .int .i64 (Pp.join []).2]) ∧ w' = w := by
  go_enter Tryd.func22, Tryd.ntmps22
  go_wp2
  refine wp_loop_rounds 1 ?_
  rw [rounds_succ]
  go_wp2
  refine wp_loop_rounds 1 ?_
  rw [rounds_succ]
  go_wp2
  go_ret2
  exact ⟨rfl, rfl⟩

set_option maxHeartbeats 2000000 in
set_option maxRecDepth 100000 in
theorem refJoin_some (b o c : Nat) (xs : List ByteArray) (w : World) (hX : ∀ (j : Nat) x, xs[j]? = some x → w.cell? ⟨b, o + j, none⟩ = some (.string x)) (hn : xs.length ≤ 140737488355328) :
    Calls Tryd.prog 22 #[.slice (some ⟨b, o, none⟩) xs.length c] w fun e w' => e = .returned (.tuple #[.string ⟨(Pp.join (DL xs)).1.toArray⟩, .int .i64 (Pp.join (DL xs)).2]) ∧ w' = w := by
  have HX := hid hX
  clear hX
  go_enter Tryd.func22, Tryd.ntmps22
  go_wp2
  go_loop [5] (fun i => ∃ k : Nat, k ≤ xs.length ∧ i = .int .i64 k ∧ Hid (((DL xs).take k).any Pp.bad = false)) (fun i => xs.length - (intOf i).toNat)
  case atStart => exact ⟨0, Nat.zero_le _, rfl, (rfl : ((DL xs).take 0).any Pp.bad = false)⟩
  case round =>
    obtain ⟨k, hk, rfl, HT⟩ := hrel
    by_cases hlt : k < xs.length
    · obtain ⟨x, hx⟩ : ∃ x, xs[k]? = some x := ⟨_, List.getElem?_eq_getElem hlt⟩
      have cx := HX.out k x hx
      have Hx := hid hx
      clear hx
      by_cases hz : Pp.nameN x.data.toList = 0
      · have HS := hid (names_snoc Hx.out hz HT.out)
        have HZ := hid hz
        clear hz
        go_wp2_with fail
        refine (refName_any x _).mono ?_
        rintro e w1 ⟨rfl, rfl⟩
        rw [HZ.out]
        go_wp2
        go_round
        case rel => exact ⟨k + 1, by omega, by go_num, HS⟩
        case measure => simp [intOf]; omega
      · have HJ : Hid (Pp.join (DL xs) = ([], 30)) := hid (by
          have h1 := names_hit Hx.out hz
          have h2 : Pp.nameN x.data.toList = 30 := by
            unfold Pp.nameN at hz ⊢
            cases hb : Pp.bad x.data.toList with
            | true => rfl
            | false => rw [hb] at hz; exact absurd rfl hz
          rw [join_bad (by rw [h1]; exact hz), h1, h2])
        have hne : ((Pp.nameN x.data.toList : Int) != 0) = true := by rw [bne_iff_ne]; omega
        clear hz
        go_wp2_with fail
        refine (refName_any x _).mono ?_
        rintro e w1 ⟨rfl, rfl⟩
        go_wp2
        go_ret2
        exact ⟨by rw [HJ.out]; rfl, rfl⟩
    · have HZ := hid (names_last (by omega) HT.out)
      clear HT
      by_cases h2 : 64 < xs.length
      · have HJ := hid (join_deep HZ.out (by rw [DL_length]; exact h2))
        go_wp2
        go_ret2
        exact ⟨by rw [HJ.out]; rfl, rfl⟩
      · have h2' : ¬ 64 < (DL xs).length := by rw [DL_length]; exact h2
        have hgl := glue_len (names_ok HZ.out) (by omega)
        have H2 := hid h2'
        clear h2'
        go_wp2
        go_loop [4, 6, 7] (fun n s i => ∃ (q : Nat) (g : ByteArray), q ≤ xs.length ∧ i = .int .i64 q ∧ s = .string g ∧ n = .int .i64 g.size ∧ Hid (g.data.toList = Pp.glue ((DL xs).take q))) (fun _ _ i => xs.length - (intOf i).toNat)
        case atStart => exact ⟨0, ⟨#[]⟩, Nat.zero_le _, rfl, rfl, rfl, (rfl : ([] : List UInt8) = _)⟩
        case round =>
          obtain ⟨q, g, hq, rfl, rfl, rfl, HG⟩ := hrel
          have hgle : g.size ≤ 16384 := by
            have := glue_take_le (DL xs) q
            rw [← HG.out, size_data] at this
            omega
          by_cases hql : q < xs.length
          · obtain ⟨x, hx⟩ : ∃ x, xs[q]? = some x := ⟨_, List.getElem?_eq_getElem hql⟩
            have cx := HX.out q x hx
            by_cases hq0 : 0 < q
            · have HG2 : Hid (((g ++ ⟨#[47]⟩) ++ x).data.toList = Pp.glue ((DL xs).take (q + 1))) := hid (by
                rw [cat_data, cat_data, HG.out, glue_take_succ hx hq0]; simp)
              have hxs : g.size + 1 + x.size ≤ 16384 := by
                have := glue_take_le (DL xs) (q + 1)
                rw [← HG2.out, size_data, cat_size, cat_size] at this
                exact Nat.le_trans this hgl
              clear hx
              go_wp2
              go_round
              case rel => exact ⟨q + 1, _, by omega, by go_num, rfl, congrArg (Value.int .i64) (cat_int2 g x), HG2⟩
              case measure => simp [intOf]; omega
            · obtain rfl : q = 0 := by omega
              have cx0 : w.cell? ⟨b, o, none⟩ = some (.string x) := cx
              have HG2 : Hid ((g ++ x).data.toList = Pp.glue ((DL xs).take (0 + 1))) := hid (by
                rw [cat_data, HG.out, glue_take_one hx]; rfl)
              have hxs : g.size + x.size ≤ 16384 := by
                have := glue_take_le (DL xs) (0 + 1)
                rw [← HG2.out, size_data, cat_size] at this
                exact Nat.le_trans this hgl
              clear hx
              go_wp2
              go_round
              case rel => exact ⟨0 + 1, _, by omega, by go_num, rfl, congrArg (Value.int .i64) (cat_int1 g x), HG2⟩
              case measure => simp [intOf]; omega
          · have HA : Hid (g.data.toList = Pp.glue (DL xs)) := hid (by
              have := HG.out
              rwa [List.take_of_length_le (by rw [DL_length]; omega)] at this)
            by_cases h3 : 4096 < g.size
            · have HJ := hid (join_long HZ.out H2.out (by rw [← HA.out, size_data]; exact h3))
              go_wp2
              go_ret2
              exact ⟨by rw [HJ.out]; rfl, rfl⟩
            · have HJ := hid (join_good HZ.out H2.out (by rw [← HA.out, size_data]; exact h3))
              go_wp2
              go_ret2
              exact ⟨by rw [HJ.out, ← HA.out, bytes_eta]; rfl, rfl⟩

theorem refJoin_rd {w : World} {v : Value} {xs : List ByteArray} (h : Rd w v xs) (hn : xs.length ≤ 140737488355328) :
    Calls Tryd.prog 22 #[v] w fun e w' => e = .returned (.tuple #[.string ⟨(Pp.join (DL xs)).1.toArray⟩, .int .i64 (Pp.join (DL xs)).2]) ∧ w' = w := by
  rcases h with ⟨rfl, a, c, rfl⟩ | ⟨b, o, c, rfl, hc, hb, hX⟩
  · exact refJoin_none a c w
  · exact refJoin_some b o c xs w hX hn
end Go.Proofs.YtmlgggnjghkojabDoor
