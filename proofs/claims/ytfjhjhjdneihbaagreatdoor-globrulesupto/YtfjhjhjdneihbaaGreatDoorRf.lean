/-
  The walks of the document's begins, lone and named.
-/
import Derived.Test.YtfjhjhjdneihbaaGreatDoorRe
namespace Go.Proofs.YtfjhjhjdneihbaaGreatDoor
open Go.RowKit

theorem drop_two (s : ByteArray) (k : Nat) (h : k + 1 < s.size) : s.data.toList.drop k = s[k] :: s[k + 1] :: s.data.toList.drop (k + 2) := by
  rw [drop_head s k (by omega), drop_head s (k + 1) h]
theorem drop_past (s : ByteArray) (k : Nat) (h : s.size ≤ k) : s.data.toList.drop k = [] := List.drop_eq_nil_of_le (by rw [size_data]; exact h)
theorem drop_last (s : ByteArray) (k : Nat) (h : k < s.size) (h2 : s.size ≤ k + 1) : s.data.toList.drop k = [s[k]] := by
  rw [drop_head s k h, drop_past s (k + 1) h2]
theorem isCls_two (a b : UInt8) (r : List UInt8) : Pg.isCls (a :: b :: r) = (decide (a = 91) && decide (b = 58)) := by
  unfold Pg.isCls
  rw [Bool.eq_iff_iff]
  simp [List.isPrefixOf]
  constructor
  · rintro ⟨h1, h2⟩; exact ⟨h1.symm, h2.symm⟩
  · rintro ⟨h1, h2⟩; exact ⟨h1.symm, h2.symm⟩

/-! ### begins -/
set_option maxHeartbeats 1000000 in
theorem begins_any (s : ByteArray) (k : Nat) (w : World) (hs : s.size ≤ 140737488355328) (hk : k ≤ s.size) :
    Calls Tryz.prog 85 #[.string s, .int .i64 k] w fun e w' => e = .returned (.bool (Pg.isCls (s.data.toList.drop k))) ∧ w' = w := by
  by_cases h1 : k + 1 < s.size
  · have e := drop_two s k h1
    have i1 : (k : Int) + 1 < (s.size : Int) := by omega
    have i2 : (k : Int) < (s.size : Int) := by omega
    by_cases ha : s[k] = 91
    · have ta := byte_eq ha (m := 91) rfl
      have HF : Hid (((s[k + 1].toNat : Int) == 58) = Pg.isCls (s.data.toList.drop k)) := hid (by
        rw [e, isCls_two, decide_eq_true ha, Bool.true_and, Bool.eq_iff_iff, beq_iff_eq, decide_eq_true_eq]
        exact byte_iff s[k + 1] 58)
      clear e ha
      go_enter Tryz.func85, Tryz.ntmps85
      go_wp2
      all_goals go_ret
      all_goals exact ⟨ret_bool HF.out, rfl⟩
    · have ta := byte_ne ha (m := 91) rfl
      have HF : Hid (false = Pg.isCls (s.data.toList.drop k)) := hid (by rw [e, isCls_two, decide_eq_false ha]; rfl)
      clear e ha
      go_enter Tryz.func85, Tryz.ntmps85
      go_wp2
      all_goals go_ret
      all_goals exact ⟨ret_bool HF.out, rfl⟩
  · have HF : Hid (false = Pg.isCls (s.data.toList.drop k)) := hid (by
      by_cases h2 : k < s.size
      · rw [drop_last s k h2 (by omega)]; simp [Pg.isCls, List.isPrefixOf]
      · rw [drop_past s k (by omega)]; rfl)
    have i1 : ¬ (k : Int) + 1 < (s.size : Int) := by omega
    go_enter Tryz.func85, Tryz.ntmps85
    go_wp2
    all_goals go_ret
    all_goals exact ⟨ret_bool HF.out, rfl⟩

/-! ### lone -/
def LoneP (s : ByteArray) (k : Nat) (c : UInt8) (n : Nat) : Prop :=
  (n = 0 ∧ Pg.rb (s.data.toList.drop k) = none) ∨ (1 ≤ n ∧ n ≤ 2 ∧ k + n ≤ s.size ∧ Pg.rb (s.data.toList.drop k) = some (c, s.data.toList.drop (k + n)))
set_option maxHeartbeats 1000000 in
theorem lone_any (s : ByteArray) (k : Nat) (w : World) (hs : s.size ≤ 140737488355328) (hk : k ≤ s.size) :
    Calls Tryz.prog 88 #[.string s, .int .i64 k] w fun e w' => ∃ c n, e = .returned (.tuple #[.int .u8 c.toNat, .int .i64 (n : Nat)]) ∧ LoneP s k c n ∧ w' = w := by
  by_cases h0 : k < s.size
  · have i0 : (k : Int) < (s.size : Int) := by omega
    have e := drop_head s k h0
    by_cases ha : s[k] = 92
    · have ta : ((s[k].toNat : Int) != 92) = false := by rw [ha]; rfl
      by_cases h1 : k + 1 < s.size
      · have i1 : (k : Int) + 1 < (s.size : Int) := by omega
        have e2 := drop_two s k h1
        have HF : Hid (LoneP s k s[k + 1] 2) := hid (.inr ⟨by omega, by omega, by omega, by rw [e2, ha]; simp [Pg.rb]⟩)
        clear e e2 ha
        go_enter Tryz.func88, Tryz.ntmps88
        go_wp2
        go_ret2
        exact ⟨_, 2, rfl, HF.out, rfl⟩
      · have i1 : ¬ (k : Int) + 1 < (s.size : Int) := by omega
        have e2 := drop_last s k h0 (by omega)
        have HF : Hid (LoneP s k 0 0) := hid (.inl ⟨rfl, by rw [e2, ha]; simp [Pg.rb]⟩)
        clear e e2 ha
        go_enter Tryz.func88, Tryz.ntmps88
        go_wp2
        go_ret2
        exact ⟨0, 0, rfl, HF.out, rfl⟩
    · have ta : ((s[k].toNat : Int) != 92) = true := by rw [bne_iff_ne]; exact fun h => ha ((byte_iff s[k] 92).1 h)
      have HF : Hid (LoneP s k s[k] 1) := hid (.inr ⟨by omega, by omega, by omega, by rw [e]; simp only [Pg.rb]; rw [if_neg ha]⟩)
      clear e ha
      go_enter Tryz.func88, Tryz.ntmps88
      go_wp2
      go_ret2
      exact ⟨_, 1, rfl, HF.out, rfl⟩
  · have i0 : ¬ (k : Int) < (s.size : Int) := by omega
    have HF : Hid (LoneP s k 0 0) := hid (.inl ⟨rfl, by rw [drop_past s k (by omega)]; rfl⟩)
    go_enter Tryz.func88, Tryz.ntmps88
    go_wp2
    go_ret2
    exact ⟨0, 0, rfl, HF.out, rfl⟩

/-! ### named -/
def NamedP (s : ByteArray) (nm : ByteArray) (n : Nat) : Prop :=
  (n = 0 ∧ Pg.rc s.data.toList = none) ∨ (1 ≤ n ∧ n ≤ s.size ∧ ∃ p, Pg.lk nm.data.toList Pg.rows = some p ∧ Pg.rc s.data.toList = some (p, s.data.toList.drop n))
theorem ext_mid (s : ByteArray) (i : Nat) : (s.extract 2 i).data.toList = (s.data.toList.drop 2).take (i - 2) := Lib.extract_data s 2 i
theorem let_iff (c : UInt8) : Pg.let' c = (decide (97 ≤ c.toNat) && decide (c.toNat ≤ 122)) := rfl
/-- the text behind the two signs, at a place -/
theorem named_at {s : ByteArray} {u : List UInt8} (hu : s.data.toList = 91 :: 58 :: u) (i : Nat) (h2 : 2 ≤ i) : s.data.toList.drop i = u.drop (i - 2) := by
  rw [hu, show i = (i - 2) + 2 by omega, List.drop_succ_cons, List.drop_succ_cons]
  rfl
theorem named_split {s : ByteArray} {u : List UInt8} (hu : s.data.toList = 91 :: 58 :: u) (i : Nat) (h2 : 2 ≤ i) : u = (s.data.toList.drop 2).take (i - 2) ++ s.data.toList.drop i := by
  rw [named_at hu i h2, hu]
  show u = u.take (i - 2) ++ _
  rw [List.take_append_drop]
theorem named_hit {s : ByteArray} {u : List UInt8} (hu : s.data.toList = 91 :: 58 :: u) (i : Nat) (h2 : 2 ≤ i) (h1 : i + 1 < s.size) (hl : ((s.data.toList.drop 2).take (i - 2)).all Pg.let' = true) (ha : s[i] = 58) (hb : s[i + 1] = 93) :
    Pg.rc s.data.toList = (Pg.lk (s.extract 2 i).data.toList Pg.rows).map fun q => (q, s.data.toList.drop (i + 2)) := by
  have hd := drop_two s i h1
  rw [ha, hb] at hd
  rw [ext_mid]
  conv => lhs; rw [hu]
  exact Pg.rc_yes hl (by rw [← hd]; exact named_split hu i h2)
theorem named_bad {s : ByteArray} {u : List UInt8} (hu : s.data.toList = 91 :: 58 :: u) (i : Nat) (h2 : 2 ≤ i) (h1 : i + 1 < s.size) (hl : ((s.data.toList.drop 2).take (i - 2)).all Pg.let' = true) (ha : ¬ (s[i] = 58 ∧ s[i + 1] = 93)) (hb : Pg.let' s[i] = false) : Pg.rc s.data.toList = none := by
  have hd := drop_two s i h1
  rw [hu]
  refine Pg.rc_no hl (named_split hu i h2) (fun c hc => ?_) (fun r' hr => ?_)
  · rw [hd] at hc
    cases hc
    exact hb
  · rw [hd] at hr
    injection hr with e1 e2
    injection e2 with e2 _
    exact ha ⟨e1, e2⟩
theorem named_more {s : ByteArray} {u : List UInt8} (hu : s.data.toList = 91 :: 58 :: u) (i : Nat) (h2 : 2 ≤ i) (h1 : i < s.size) (hl : ((s.data.toList.drop 2).take (i - 2)).all Pg.let' = true) (hb : Pg.let' s[i] = true) : ((s.data.toList.drop 2).take (i + 1 - 2)).all Pg.let' = true := by
  have hd := drop_head s i h1
  rw [named_at hu i h2] at hd
  have e : (s.data.toList.drop 2).take (i + 1 - 2) = (s.data.toList.drop 2).take (i - 2) ++ [s[i]] := by
    rw [hu]
    show u.take (i + 1 - 2) = u.take (i - 2) ++ [s[i]]
    rw [show i + 1 - 2 = (i - 2) + 1 by omega, List.take_add_one]
    congr 1
    have : u[i - 2]? = some s[i] := by
      have h3 : (u.drop (i - 2))[0]? = some s[i] := by rw [hd]; rfl
      rw [List.getElem?_drop] at h3
      exact h3
    rw [this]; rfl
  rw [e, List.all_append, hl]
  simp [hb]
theorem named_end {s : ByteArray} {u : List UInt8} (hu : s.data.toList = 91 :: 58 :: u) (i : Nat) (h2 : 2 ≤ i) (h1 : s.size ≤ i + 1) (hl : ((s.data.toList.drop 2).take (i - 2)).all Pg.let' = true) : Pg.rc s.data.toList = none := by
  by_cases h0 : i < s.size
  · have hd := drop_last s i h0 h1
    cases hb : Pg.let' s[i] with
    | true =>
      have hl2 := named_more hu i h2 h0 hl hb
      rw [hu]
      refine Pg.rc_no (r := []) hl2 ?_ (fun c hc => by cases hc) (fun r' hr => by cases hr)
      have := named_split hu (i + 1) (by omega)
      rw [drop_past s (i + 1) h1] at this
      exact this
    | false =>
      rw [hu]
      refine Pg.rc_no hl (named_split hu i h2) (fun c hc => ?_) (fun r' hr => ?_)
      · rw [hd] at hc; cases hc; exact hb
      · rw [hd] at hr; injection hr with _ e2; cases e2
  · rw [hu]
    refine Pg.rc_no (r := []) hl ?_ (fun c hc => by cases hc) (fun r' hr => by cases hr)
    have := named_split hu i h2
    rw [drop_past s i (by omega)] at this
    exact this

set_option maxHeartbeats 4000000 in
set_option maxRecDepth 100000 in
theorem named_any (s : ByteArray) (w : World) (hs : s.size ≤ 140737488355328) (hc : Pg.isCls s.data.toList = true) :
    Calls Tryz.prog 86 #[.string s] w fun e w' => ∃ nm n, e = .returned (.tuple #[.string nm, .int .i64 (n : Nat)]) ∧ NamedP s nm n ∧ w' = w := by
  obtain ⟨u, hu⟩ := (Pg.isCls_iff _).1 hc
  have HU := hid hu
  clear hu hc
  go_enter Tryz.func86, Tryz.ntmps86
  go_wp2
  go_loopw [4] (fun i wr => ∃ k : Nat, 2 ≤ k ∧ k ≤ s.size + 2 ∧ i = .int .i64 k ∧ wr = w ∧ Hid (((s.data.toList.drop 2).take (k - 2)).all Pg.let' = true)) (fun i _ => s.size + 2 - (intOf i).toNat)
  case atStart => exact ⟨2, by omega, by omega, rfl, rfl, hid (by simp)⟩
  case round =>
    obtain ⟨k, h2, hk, rfl, rfl, HL⟩ := hrel
    by_cases h1 : k + 1 < s.size
    · have i1 : (k : Int) + 1 < (s.size : Int) := by omega
      have i0 : (k : Int) < (s.size : Int) := by omega
      have i2 : (2 : Int) ≤ (k : Int) := by omega
      have i3 : (k : Int) ≤ (s.size : Int) := by omega
      by_cases hh : s[k] = 58 ∧ s[k + 1] = 93
      · have HN := hid (named_hit HU.out k h2 h1 HL.out hh.1 hh.2)
        have ta := byte_eq hh.1 (m := 58) rfl
        have tb := byte_eq hh.2 (m := 93) rfl
        clear hh
        obtain ⟨X, hX⟩ : ∃ X, X = s.extract 2 k := ⟨_, rfl⟩
        rw [← hX] at HN
        have HC := hid (class_any X 0 (by omega) wr)
        cases hl : Pg.lk X.data.toList Pg.rows with
        | none =>
          have HF : Hid (NamedP s ⟨#[]⟩ 0) := hid (.inl ⟨rfl, by rw [HN.out, hl]; rfl⟩)
          have hcls : clsT X.data.toList 0 = .tuple #[.bool false, .bool false] := by unfold clsT; rw [hl]
          rw [hcls] at HC
          have HX := hid hX
          clear hl hcls hX
          go_wp2_with fail
          rw [← HX.out]
          refine HC.out.mono ?_
          rintro e w1 ⟨rfl, rfl⟩
          go_wp2
          go_ret2
          exact ⟨⟨#[]⟩, 0, rfl, HF.out, rfl⟩
        | some p =>
          have HF : Hid (NamedP s X (k + 2)) := hid (.inr ⟨by omega, by omega, p, hl, by rw [HN.out, hl]; rfl⟩)
          have hcls : clsT X.data.toList 0 = .tuple #[.bool (p (UInt8.ofNat 0)), .bool true] := by unfold clsT; rw [hl]
          rw [hcls] at HC
          have HX := hid hX
          clear hl hcls hX
          go_wp2_with fail
          rw [← HX.out]
          refine HC.out.mono ?_
          rintro e w1 ⟨rfl, rfl⟩
          go_wp2
          go_ret2
          exact ⟨X, k + 2, by rw [HX.out]; rfl, HF.out, rfl⟩
      · have hp : ((s[k].toNat : Int) == 58) = false ∨ (((s[k].toNat : Int) == 58) = true ∧ ((s[k + 1].toNat : Int) == 93) = false) := by
          by_cases ha : s[k] = 58
          · exact .inr ⟨byte_eq ha rfl, byte_ne (fun e => hh ⟨ha, e⟩) rfl⟩
          · exact .inl (byte_ne ha rfl)
        cases hb : Pg.let' s[k] with
        | false =>
          have HF : Hid (NamedP s ⟨#[]⟩ 0) := hid (.inl ⟨rfl, named_bad HU.out k h2 h1 HL.out hh hb⟩)
          rw [let_iff, Bool.and_eq_false_iff, decide_eq_false_iff_not, decide_eq_false_iff_not] at hb
          clear hh
          rcases hb with hb | hb
          · rcases hp with ta | ⟨ta, tb⟩
            all_goals
              go_wp2
              go_ret2
              exact ⟨⟨#[]⟩, 0, rfl, HF.out, rfl⟩
          · have hb' : 97 ≤ s[k].toNat := by omega
            rcases hp with ta | ⟨ta, tb⟩
            all_goals
              go_wp2
              go_ret2
              exact ⟨⟨#[]⟩, 0, rfl, HF.out, rfl⟩
        | true =>
          have HM := hid (named_more HU.out k h2 (by omega) HL.out hb)
          rw [let_iff, Bool.and_eq_true, decide_eq_true_eq, decide_eq_true_eq] at hb
          obtain ⟨hb1, hb2⟩ := hb
          clear hh
          rcases hp with ta | ⟨ta, tb⟩
          all_goals
            go_wp2
            go_roundw
            case rel => exact ⟨k + 1, by omega, by omega, by go_num, trivial, HM⟩
            case measure => simp [intOf]; omega
    · have i1 : ¬ (k : Int) + 1 < (s.size : Int) := by omega
      have HF : Hid (NamedP s ⟨#[]⟩ 0) := hid (.inl ⟨rfl, named_end HU.out k h2 (by omega) HL.out⟩)
      go_wp2
      go_ret2
      exact ⟨⟨#[]⟩, 0, rfl, HF.out, rfl⟩
end Go.Proofs.YtfjhjhjdneihbaaGreatDoor
