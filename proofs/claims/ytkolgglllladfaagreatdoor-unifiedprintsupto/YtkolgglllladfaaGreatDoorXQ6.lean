/-
  The walks of the program's readQuoted and Unquote: for every string.
-/
import Derived.Test.YtkolgglllladfaaGreatDoorXQ5
import Derived.Deep.RegionWith
namespace Go.Proofs.YtkolgglllladfaaGreatDoor.Cx
open Go.RowKit

/-- what is answered: a name and the rest, or the error -/
def tup : Option (List UInt8 × List UInt8) → Value
  | none => .tuple #[.string ⟨#[]⟩, .string ⟨#[]⟩, .iface 42 (.int .i64 20)]
  | some (a, r) => .tuple #[.string ⟨a.toArray⟩, .string ⟨r.toArray⟩, .nilIface]
def lenOf : Value → Nat
  | .string x => x.size
  | _ => 0

theorem bytes_etaQ (x : ByteArray) : ByteArray.mk x.data.toList.toArray = x := by simp
theorem ext_drop (x : ByteArray) (k : Nat) (_h : k ≤ x.size) : (x.extract k x.size).data.toList = x.data.toList.drop k := by
  rw [Lib.extract_data]
  rw [List.take_of_length_le (by rw [List.length_drop, size_data]; exact Nat.le_refl _)]
theorem ext_drop' (x : ByteArray) (k : Nat) (h : k ≤ x.size) : x.extract k x.size = ⟨(x.data.toList.drop k).toArray⟩ := by
  rw [← ext_drop x k h, bytes_etaQ]

theorem below_drewN {B : Nat} {a w : World} (h : Below B a w) (m : Nat) : Below B a (w.drewN m) := ⟨h.os, h.tape, h.output, h.size, h.block⟩
theorem builder_stays {T e : TypeId} {B b : Nat} {bs : List Value} {w w' : World} (h : Lib.IsBuilder T e B b bs w) (hb : Below w.heap.size w w') : Lib.IsBuilder T e B b bs w' := by
  have key : ∀ p, Lib.BuilderAt T e B b p bs w → Lib.BuilderAt T e B b p bs w' := by
    rintro p ⟨hB, v, hbk, hown, hne⟩
    have h1 : b < w.heap.size := by
      rcases Nat.lt_or_ge b w.heap.size with k | k
      · exact k
      · rw [Array.getElem?_eq_none k] at hbk; cases hbk
    refine ⟨hB, v, (hb.block b h1).trans hbk, ⟨hown.1, ?_⟩, hne⟩
    rcases hown.2 with h | ⟨g, cap, cur, hv, hg, hh, r⟩
    · exact .inl h
    · have h2 : g < w.heap.size := by
        rcases Nat.lt_or_ge g w.heap.size with k | k
        · exact k
        · rw [Array.getElem?_eq_none k] at hh; cases hh
      exact .inr ⟨g, cap, cur, hv, hg, (hb.block g h2).trans hh, r⟩
  rcases h with h | h
  · exact .inl (key _ h)
  · exact .inr (key _ h)

theorem rq_byte (x : ByteArray) (out : List UInt8) (h : 1 ≤ x.size) (h10 : x[0].toNat ≠ 10) (h34 : x[0].toNat ≠ 34) :
    ((rbV x).2 = 0 ∧ Pq.rq out x.data.toList = none) ∨ (1 ≤ (rbV x).2 ∧ (rbV x).2 ≤ x.size ∧ Pq.rq out x.data.toList = Pq.rq (out ++ [(rbV x).1]) (x.data.toList.drop (rbV x).2)) := by
  have n10 : x[0] ≠ 10 := fun e => h10 (by rw [e]; rfl)
  have n34 : x[0] ≠ 34 := fun e => h34 (by rw [e]; rfl)
  cases hb : Pq.rb x.data.toList with
  | none =>
    refine .inl ⟨by rw [rbV_none hb], ?_⟩
    rw [data1 x h] at hb ⊢
    exact Pq.rq_none _ _ _ n34 hb
  | some bk =>
    obtain ⟨b, k⟩ := bk
    obtain ⟨h1, h2⟩ := Pq.rb_len _ _ _ hb
    rw [size_data] at h2
    rw [rbV_some hb]
    refine .inr ⟨h1, h2, ?_⟩
    rw [data1 x h] at hb ⊢
    exact Pq.rq_some _ _ _ _ _ n10 n34 hb

theorem ret_threeQ {a b c d e f : Value} (h1 : a = d) (h2 : b = e) (h3 : c = f) : Ending.returned (.tuple #[a, b, c]) = .returned (.tuple #[d, e, f]) := by rw [h1, h2, h3]

set_option maxHeartbeats 2000000 in
theorem readQuoted_any (s : ByteArray) (w : World) (hs : s.size ≤ 140737488355327) :
    Calls Tryz.prog 113 #[.string s] w fun e w' => e = .returned (tup (Pq.rq [] s.data.toList)) ∧ Below w.heap.size w w' := by
  have HF := hid (fresh_builder w)
  have hb0 : Below w.heap.size w (w.alloc (.cells #[.pointer none, .slice none 0 0] 60)) := (Below.refl _ _).alloc (Nat.le_refl _) _
  go_enter Tryz.func113, Tryz.ntmps113
  go_wp2
  go_loopw [0] (fun t wr => ∃ (x : ByteArray) (out : List UInt8), t = .string x ∧ x.size + out.length ≤ s.size ∧ Pq.rq out x.data.toList = Pq.rq [] s.data.toList ∧
      Lib.IsBuilder 60 5 w.heap.size w.heap.size (Lib.byteCells out) wr ∧ Below w.heap.size w wr) (fun t _ => lenOf t)
  case atStart => exact ⟨s, [], rfl, Nat.le_refl _, rfl, HF.out, hb0⟩
  case round =>
    obtain ⟨x, out, rfl, hsz, hq, hI, hb⟩ := hrel
    clear HF hb0
    have hz := hb.size
    have HI := hid hI
    have HQ := hid hq
    clear hI hq
    by_cases h0 : x.size = 0
    · have he := empty_yes x h0
      have HR : Hid (Pq.rq [] s.data.toList = none) := hid (by
        rw [← HQ.out, List.length_eq_zero_iff.1 (show x.data.toList.length = 0 by rw [size_data]; exact h0), Pq.rq_nil])
      clear h0 HQ
      go_wp2
      go_ret3
      exact ⟨by rw [HR.out]; rfl, hb⟩
    · have he := empty_no x h0
      have h1 : 1 ≤ x.size := by omega
      have h1' : (0 : Int) < (x.size : Int) := by omega
      have hc := x[0].toNat_lt
      by_cases h10 : x[0].toNat = 10
      · have e1 : ((x[0].toNat : Int) != 10) = false := by rw [h10]; rfl
        have HR : Hid (Pq.rq [] s.data.toList = none) := hid (by
          rw [← HQ.out, data1 x h1, UInt8.toNat_inj.1 (show x[0].toNat = (10 : UInt8).toNat from h10), Pq.rq_end])
        clear h10 HQ h0
        go_wp2
        go_ret3
        exact ⟨by rw [HR.out]; rfl, hb⟩
      · have e1 : ((x[0].toNat : Int) != 10) = true := by rw [bne_iff_ne]; omega
        by_cases h34 : x[0].toNat = 34
        · have e2 := ieq (m := 34) (by omega : (x[0].toNat : Int) = 34)
          have HR : Hid (Pq.rq [] s.data.toList = some (out, x.data.toList.drop 1)) := hid (by
            rw [← HQ.out]
            conv => lhs; rw [data1 x h1]
            rw [UInt8.toNat_inj.1 (show x[0].toNat = (34 : UInt8).toNat from h34), Pq.rq_mark])
          have HX := hid (ext_drop' x 1 h1)
          have h11 : (1 : Int) ≤ (x.size : Int) := by omega
          have HI' := hid (builder_stays HI.out (Below.refl _ _).drew)
          have hb' := hb.drew
          have hz' := hb'.size
          clear h10 h34 HQ h0 HI hb hz
          go_wp2
          go_region_with (go_at_call 20; refine (Tryz.Builder_String_any _ _ _ _ HI'.out hz').mono ?_; rintro e w2 ⟨rfl, hb2⟩)
          all_goals go_wp2
          all_goals go_ret3
          all_goals exact ⟨by rw [HR.out]; exact ret_threeQ rfl (congrArg Value.string HX.out) rfl, hb'.trans (by assumption)⟩
        · have e2 := ine (m := 34) (by omega : (x[0].toNat : Int) ≠ 34)
          rcases rq_byte x out h1 h10 h34 with ⟨k0, hr⟩ | ⟨k1, k2, hr⟩
          · have HR : Hid (Pq.rq [] s.data.toList = none) := hid (by rw [← HQ.out, hr])
            have HK := hid k0
            clear k0 hr HQ h10 h34 h0
            go_wp2_with fail
            refine (readByte_any x _ (by unfold maxLen; omega) h1).mono ?_
            rintro e w2 ⟨rfl, m, rfl⟩
            rw [HK.out]
            go_wp2
            go_ret3
            exact ⟨by rw [HR.out]; rfl, below_drewN hb _⟩
          · obtain ⟨bk, hbk⟩ : ∃ bk, bk = rbV x := ⟨_, rfl⟩
            have HC := hid (readByte_any x wr (by unfold maxLen; omega) h1)
            rw [← hbk] at k1 k2 hr HC
            obtain ⟨c, k⟩ := bk
            simp only at k1 k2 hr HC
            have HR := hid (HQ.out.symm.trans hr)
            have hk0 : ((k : Int) == 0) = false := ine (m := 0) (by omega)
            have hk2 : (k : Int) ≤ (x.size : Int) := by omega
            clear hr HQ h10 h34 h0 hbk
            go_wp2_with fail
            refine HC.out.mono ?_
            rintro e w2 ⟨rfl, m, rfl⟩
            have HI' := hid (builder_stays HI.out (below_drewN (Below.refl _ wr) m))
            have hlen : (Lib.byteCells out).length + 1 ≤ 140737488355328 := by rw [Lib.byteCells_length]; omega
            have HL := hid hlen
            have hb' := below_drewN hb m
            have hz' := hb'.size
            clear HC HI hlen hb hz
            go_wp2_with fail
            refine (Tryz.Builder_WriteByte _ _ _ _ _ HI'.out HL.out hz').mono ?_
            rintro e w3 ⟨rfl, hA3, hb3⟩
            rw [cells_snoc] at hA3
            have HA3 := hid hA3
            have HX := hid (ext_drop x k k2)
            clear hA3
            go_wp2
            go_roundw
            case rel => exact ⟨x.extract k x.size, out ++ [c], rfl, by simp; omega, by rw [HX.out]; exact HR.out.symm, .inr HA3.out, hb'.trans hb3⟩
            case measure => simp [lenOf]; omega

theorem unq_yes (s : ByteArray) (h : 1 ≤ s.size) (h34 : s[0].toNat = 34) : Pq.unq s.data.toList = Pq.rq [] (s.data.toList.drop 1) := by
  unfold Pq.unq
  have e : s[0] = 34 := UInt8.toNat_inj.1 (show s[0].toNat = (34 : UInt8).toNat from h34)
  rw [data1 s h, e]
  simp
theorem unq_no (s : ByteArray) (h : s.size = 0 ∨ ∃ h1 : 1 ≤ s.size, s[0].toNat ≠ 34) : Pq.unq s.data.toList = some (s.data.toList.take (pl s), s.data.toList.drop (pl s)) := by
  have hh : s.data.toList.head? ≠ some 34 := by
    rcases h with h | ⟨h1, h34⟩
    · rw [List.length_eq_zero_iff.1 (show s.data.toList.length = 0 by rw [size_data]; exact h)]; simp
    · rw [data1 s h1]
      intro e
      exact h34 (by rw [Option.some.inj e]; rfl)
  unfold Pq.unq
  rw [if_neg hh]
  have e := List.takeWhile_append_dropWhile (p := Pq.plain) (l := s.data.toList)
  have e1 : s.data.toList.take (pl s) = s.data.toList.takeWhile Pq.plain := by
    conv => lhs; rw [← e]
    exact List.take_left' rfl
  have e2 : s.data.toList.drop (pl s) = s.data.toList.dropWhile Pq.plain := by
    conv => lhs; rw [← e]
    exact List.drop_left' rfl
  rw [e1, e2]
theorem ext_take' (x : ByteArray) (k : Nat) : x.extract 0 k = ⟨(x.data.toList.take k).toArray⟩ := by
  rw [← bytes_etaQ (x.extract 0 k), Lib.extract_data]
  simp

set_option maxHeartbeats 1000000 in
theorem unquote_any (s : ByteArray) (w : World) (hs : s.size ≤ 140737488355327) :
    Calls Tryz.prog 101 #[.string s] w fun e w' => e = .returned (tup (Pq.unq s.data.toList)) ∧ Below w.heap.size w w' := by
  by_cases hq : 1 ≤ s.size ∧ s.data.toList.head? = some 34
  · obtain ⟨h1, h34⟩ := hq
    have h34' : s[0].toNat = 34 := by
      rw [data1 s h1] at h34
      rw [Option.some.inj h34]; rfl
    have HU := hid (unq_yes s h1 h34')
    have e1 := ieq (m := 34) (by omega : (s[0].toNat : Int) = 34)
    have he := empty_no s (by omega)
    have h1' : (1 : Int) ≤ (s.size : Int) := by omega
    have HX := hid (ext_drop s 1 h1)
    have HC := hid (readQuoted_any (s.extract 1 s.size) w (by simp; omega))
    clear h34 h34'
    go_enter Tryz.func101, Tryz.ntmps101
    go_wp2_with fail
    refine HC.out.mono ?_
    rintro e w1 ⟨rfl, hb⟩
    rw [HX.out, ← HU.out]
    cases hu : Pq.unq s.data.toList with
    | none =>
      clear HU
      simp only [tup]
      have HU := hid hu
      clear hu
      go_wp2
      go_ret3
      exact ⟨by rw [HU.out]; rfl, hb⟩
    | some ar =>
      obtain ⟨a, r⟩ := ar
      clear HU
      simp only [tup]
      have HU := hid hu
      clear hu
      go_wp2
      go_ret3
      exact ⟨by rw [HU.out]; rfl, hb⟩
  · have hno : s.size = 0 ∨ ∃ h1 : 1 ≤ s.size, s[0].toNat ≠ 34 := by
      by_cases h0 : s.size = 0
      · exact .inl h0
      · refine .inr ⟨by omega, fun e => hq ⟨by omega, ?_⟩⟩
        rw [data1 s (by omega), UInt8.toNat_inj.1 (show s[0].toNat = (34 : UInt8).toNat from e)]
        rfl
    have HU := hid (unq_no s hno)
    have hp := pl_le s
    have hp' : (pl s : Int) ≤ (s.size : Int) := by omega
    have HA := hid (ext_take' s (pl s))
    have HB := hid (ext_drop' s (pl s) hp)
    clear hq
    by_cases h0 : s.size = 0
    · have he := empty_yes s h0
      clear hno h0
      go_enter Tryz.func101, Tryz.ntmps101
      go_wp2_with fail
      refine (plain_any s _ (by unfold maxLen; omega)).mono ?_
      rintro e w1 ⟨rfl, rfl⟩
      go_wp2
      go_quiet (fail)
      go_wp2
      go_ret3
      exact ⟨by rw [HU.out]; exact ret_threeQ (congrArg Value.string HA.out) (congrArg Value.string HB.out) rfl, below_drewN (Below.refl _ _) _⟩
    · have he := empty_no s h0
      obtain ⟨h1, hne⟩ := hno.resolve_left h0
      have e1 := ine (m := 34) (by omega : (s[0].toNat : Int) ≠ 34)
      clear hno h0 hne
      go_enter Tryz.func101, Tryz.ntmps101
      go_wp2_with fail
      refine (plain_any s _ (by unfold maxLen; omega)).mono ?_
      rintro e w1 ⟨rfl, rfl⟩
      go_wp2
      go_quiet (fail)
      go_wp2
      go_ret3
      exact ⟨by rw [HU.out]; exact ret_threeQ (congrArg Value.string HA.out) (congrArg Value.string HB.out) rfl, below_drewN (Below.refl _ _) _⟩
end Go.Proofs.YtkolgglllladfaaGreatDoor.Cx
