/-
  Several texts in one: Pt, Pu, Pv.
-/
import Derived.Test.YtkolgglllladfaaGreatDoorFx
import Derived.Test.YtkolgglllladfaaGreatDoorShelf3
import Derived.Lib.IndexAny
import Derived.Lib.IndexBytes
import Derived.Lib.MapLaws
import Derived.Laws.RangeString
import Derived.Laws.Runes
import Derived.WalkMore
import Derived.Deep.LoopGhost
import Derived.Deep.QuietTactic
import Derived.BigQuiet
import Derived.Test.YtkolgglllladfaaGreatDoorFp
import Derived.Test.YtkolgglllladfaaGreatDoorGrU0
/-
  strings.ContainsAny at the three bytes that no stamp has (9, 10, 0): for every string, whatever its bytes are. (Made by wip/genpt.py out of P0 and P1.)
-/
namespace Go.Proofs.YtkolgglllladfaaGreatDoor.Ct
open Go.RowKit

theorem size_data (s : ByteArray) : s.data.toList.length = s.size := by rw [Array.length_toList]; rfl
theorem emptyB (s : ByteArray) : s.toList.isEmpty = decide (s.size = 0) := by
  rw [ByteArray.toList_eq, Bool.eq_iff_iff, List.isEmpty_iff, ← List.length_eq_zero_iff, size_data]
  simp
theorem empty_no (s : ByteArray) (h : s.size ≠ 0) : s.toList.isEmpty = false := by rw [emptyB]; exact decide_eq_false h
theorem at_data (s : ByteArray) (k : Nat) (h : k < s.size) : s.data.toList[k]? = some s[k] := Lib.data_getElem? s k h
theorem indexAny_two (l : List UInt8) : Lib.containsAny l [9, 10, 0] = l.any fun c => c == 9 || c == 10 || c == 0 := by
  unfold Lib.containsAny
  induction l with
  | nil => rfl
  | cons c r ih =>
    have hge := Lib.indexAny_ge [9, 10, 0] r
    have e : [9, 10, 0].contains c = (c == 9 || c == 10 || c == 0) := by
      show (match c == 9 with | true => true | false => (match c == 10 with | true => true | false => (match c == 0 with | true => true | false => false))) = _
      cases c == 9 <;> cases c == 10 <;> cases c == 0 <;> rfl
    rw [List.any_cons, ← ih]
    have e2 : Lib.indexAny (c :: r) [9, 10, 0] = if [9, 10, 0].contains c then 0 else if Lib.indexAny r [9, 10, 0] == -1 then -1 else Lib.indexAny r [9, 10, 0] + 1 := rfl
    rw [e2, e]
    cases hc : (c == 9 || c == 10 || c == 0) with
    | true => simp
    | false =>
      simp only [Bool.false_eq_true, if_false, Bool.false_or]
      split
      · next h => rw [beq_iff_eq.1 h]
      · next h =>
        have h' : Lib.indexAny r [9, 10, 0] ≠ -1 := fun x => h (by rw [x]; rfl)
        rw [Bool.eq_iff_iff, decide_eq_true_eq, decide_eq_true_eq]
        omega
theorem rune_at (s : ByteArray) (i : Nat) (h : i < s.size) (hc : ¬ s[i].toNat < 128) :
    128 ≤ (Utf8.decode s i).1 ∧ (Utf8.decode s i).1 ≤ 1114111 ∧ 1 ≤ (Utf8.decode s i).2 ∧ i + (Utf8.decode s i).2 ≤ s.size ∧ ∀ j, i ≤ j → j < i + (Utf8.decode s i).2 → ∀ hj : j < s.size, 128 ≤ s[j].toNat := by
  have hget : ∀ j (h : j < s.size), s.get! j = s[j] := fun j h => by
    show s.data[j]! = _
    rw [getElem!_pos s.data j h]; rfl
  have hlt : ∀ b : UInt8, b.toNat < 256 := fun b => b.toNat_lt
  have h0 : (s.get! i).toNat = s[i].toNat := by rw [hget i h]
  rw [Lib.decode_at]
  have hb0 : ¬ (s.get! i).toNat < 128 := by rw [h0]; exact hc
  have l0 := hlt (s.get! i)
  have l1 := hlt (s.get! (i + 1))
  have l2 := hlt (s.get! (i + 2))
  have l3 := hlt (s.get! (i + 3))
  rcases Lib.decodeN_shape (s.size - i) (s.get! i).toNat (s.get! (i + 1)).toNat (s.get! (i + 2)).toNat (s.get! (i + 3)).toNat with ⟨k1, k⟩ | ⟨k1, k2, k3, k4, k⟩ | ⟨k1, k2, k3, k4, k5, k6, k⟩ | ⟨k1, k2, k3, k4, k5, k6, k7, k⟩ | k
  · exact absurd k1 hb0
  · rw [k]
    refine ⟨k4, by show _ % 32 * 64 + _ % 64 ≤ _; omega, by omega, by show i + 2 ≤ s.size; omega, fun j h1 h2 hj => ?_⟩
    have h2' : j < i + 2 := h2
    have : j = i ∨ j = i + 1 := by omega
    rcases this with rfl | rfl
    · omega
    · have := hget (i + 1) hj; rw [← this]; omega
  · rw [k]
    refine ⟨by show 128 ≤ _ % 16 * 4096 + _ % 64 * 64 + _ % 64; omega, by show _ % 16 * 4096 + _ % 64 * 64 + _ % 64 ≤ _; omega, by omega, by show i + 3 ≤ s.size; omega, fun j h1 h2 hj => ?_⟩
    have h2' : j < i + 3 := h2
    have : j = i ∨ j = i + 1 ∨ j = i + 2 := by omega
    rcases this with rfl | rfl | rfl
    · omega
    · have := hget (i + 1) hj; rw [← this]; omega
    · have := hget (i + 2) hj; rw [← this]; omega
  · rw [k]
    refine ⟨by show 128 ≤ _ % 8 * 262144 + _ % 64 * 4096 + _ % 64 * 64 + _ % 64; omega, k7, by omega, by show i + 4 ≤ s.size; omega, fun j h1 h2 hj => ?_⟩
    have h2' : j < i + 4 := h2
    have : j = i ∨ j = i + 1 ∨ j = i + 2 ∨ j = i + 3 := by omega
    rcases this with rfl | rfl | rfl | rfl
    · omega
    · have := hget (i + 1) hj; rw [← this]; omega
    · have := hget (i + 2) hj; rw [← this]; omega
    · have := hget (i + 3) hj; rw [← this]; omega
  · rw [k]
    refine ⟨by omega, by omega, by omega, by show i + 1 ≤ s.size; omega, fun j h1 h2 hj => ?_⟩
    have h2' : j < i + 1 := h2
    obtain rfl : j = i := by omega
    omega
def two : ByteArray := ⟨#[9, 10, 0]⟩
theorem two_data : two.data.toList = [9, 10, 0] := rfl
theorem two_size : two.size = 3 := rfl

theorem iter_next {P : Program} {wx : World} {b pos : Nat} {s : ByteArray} (ty : TypeId) (hb : wx.heap[b]? = some (.stringIter s pos)) (h : pos < s.size) :
    (Instr.next (.pointer (some ⟨b, 0, none⟩)) true ty).run P wx =
      .ok (.tuple #[.bool true, .int .i64 pos, .int .i32 (Utf8.decode s pos).1]) { wx with heap := wx.heap.setIfInBounds b (.stringIter s (pos + (Utf8.decode s pos).2)) } := by
  simp only [Instr.next, getObj, setObj, Sem.run_bind, Sem.run, hb, Result.andThen, h, if_true]
  simp [goInt]
theorem iter_end {P : Program} {wx : World} {b pos : Nat} {s : ByteArray} (ty : TypeId) (hb : wx.heap[b]? = some (.stringIter s pos)) (h : ¬ pos < s.size) :
    (Instr.next (.pointer (some ⟨b, 0, none⟩)) true ty).run P wx = .ok (.tuple #[.bool false]) wx := by
  simp [Instr.next, getObj, Sem.run, hb, h]

theorem encode_high (r : Int) (h : 128 ≤ r) : (∃ a b : UInt8, Utf8.encode r = ⟨#[a, b]⟩ ∧ 128 ≤ b.toNat) ∨ (∃ a b c : UInt8, Utf8.encode r = ⟨#[a, b, c]⟩ ∧ 128 ≤ c.toNat) ∨ (∃ a b c d : UInt8, Utf8.encode r = ⟨#[a, b, c, d]⟩) := by
  have hc : 128 ≤ (if Utf8.valid r then r.toNat else Utf8.runeError) := by
    split
    · omega
    · decide
  unfold Utf8.encode
  generalize (if Utf8.valid r then r.toNat else Utf8.runeError) = c at hc
  simp only
  rw [if_neg (by omega)]
  split
  · refine .inl ⟨_, _, rfl, ?_⟩
    rw [UInt8.toNat_ofNat']
    omega
  · split
    · refine .inr (.inl ⟨_, _, _, rfl, ?_⟩)
      rw [UInt8.toNat_ofNat']
      omega
    · exact .inr (.inr ⟨_, _, _, _, rfl⟩)

set_option maxHeartbeats 2000000 in
set_option maxRecDepth 1000000 in
theorem indexRune_err (w : World) :
    Calls Tryz.prog 83 #[.string two, .int .i32 65533] w fun e w' => e = .returned (.int .i64 (-1)) ∧ Below w.heap.size w w' := by
  have n0 := fun ty => run_next_ascii (P := Tryz.prog) w two 0 ty (by decide) (by decide)
  have n1 := fun ty => run_next_ascii (P := Tryz.prog) w two 1 ty (by decide) (by decide)
  have n2 := fun ty => run_next_ascii (P := Tryz.prog) w two 2 ty (by decide) (by decide)
  have n3 := fun ty => run_next_end (P := Tryz.prog) w two 3 ty (by decide)
  have hb : Below w.heap.size w (w.iter two 3) := (Below.refl _ _).alloc (Nat.le_refl _) _
  go_enter Tryz.func83, Tryz.ntmps83
  go_wp2
  refine wp_loop_rounds 4 ?_
  rw [rounds_succ]
  go_wp2
  rw [rounds_succ]
  go_wp2
  rw [rounds_succ]
  go_wp2
  rw [rounds_succ]
  go_wp2
  go_ret
  exact ⟨rfl, hb⟩

theorem index_one (c : UInt8) (h : 128 ≤ c.toNat) : Lib.indexByte (two.extract 2 two.size).data.toList c = -1 := by
  have : (two.extract 2 two.size).data.toList = [0] := by decide
  rw [this]
  have hc : (0 : UInt8) ≠ c := fun e => by subst e; exact absurd h (by decide)
  have e : ((0 : UInt8) == c) = false := beq_eq_false_iff_ne.2 hc
  unfold Lib.indexByte
  rw [if_neg (by rw [e]; exact Bool.false_ne_true)]
  rfl
theorem index_nothing (c : UInt8) : Lib.indexByte (two.extract 3 two.size).data.toList c = -1 := by
  have : (two.extract 3 two.size).data.toList = [] := by decide
  rw [this]; rfl

set_option maxHeartbeats 4000000 in
set_option maxRecDepth 1000000 in
theorem indexRune_high (r : Int) (w : World) (h1 : 128 ≤ r) (h2 : r ≤ 1114111) (hne : r ≠ 65533) :
    Calls Tryz.prog 83 #[.string two, .int .i32 r] w fun e w' => e = .returned (.int .i64 (-1)) ∧ Below w.heap.size w w' := by
  have hz : (r == 65533) = false := beq_eq_false_iff_ne.2 hne
  have HE := hid (encode_high r h1)
  cases hv : Lib.validRune r with
  | false =>
    have HV := hid hv
    clear hv
    go_enter Tryz.func83, Tryz.ntmps83
    go_wp2_with (go_at_call 106; refine (Tryz.utf8_ValidRune _ _).mono ?_; rintro e w' ⟨rfl, rfl⟩; rw [HV.out])
    go_ret
    exact ⟨rfl, Below.refl _ _⟩
  | true =>
    have HV := hid hv
    clear hv
    go_enter Tryz.func83, Tryz.ntmps83
    go_wp2_with (go_at_call 106; refine (Tryz.utf8_ValidRune _ _).mono ?_; rintro e w' ⟨rfl, rfl⟩; rw [HV.out])
    refine wp_scope_straight ?_
    rcases HE.out with ⟨a, b, he, hb⟩ | ⟨a, b, c, he, hb⟩ | ⟨a, b, c, d, he⟩
    · have hcv : ∀ w, (convert 21 9 (.int .i32 r)).run Tryz.prog w = .ok (.string ⟨#[a, b]⟩) w := fun w => by
        rw [run_convert_int_string w 21 9 .i32 r (by rw [Tryz.underlying21]; rfl) Tryz.underlying9, he]
      have hnb : ((two[1].toNat : Int) != (((ByteArray.mk #[a, b])[1]'(show 1 < 2 by decide)).toNat : Int)) = true := by
        rw [bne_iff_ne]
        show (10 : Int) ≠ (b.toNat : Int)
        omega
      have HN := hid (index_one b hb)
      have hle : (2 : Int) ≤ (two.size : Int) := by decide
      have hwr : IntKind.i64.wrap 2 = 2 := by decide
      go_wp2
      refine wp_loop_rounds 1 ?_
      rw [rounds_succ]
      go_wp2
      go_step3
      go_wp2
      go_quiet (fail)
      go_wp2
      have hB0 := below_drewN (Below.refl w'.heap.size w') nq
      generalize w'.drewN nq = W at hB0 ⊢
      go_quiet (first | (go_at_call 90; exact Calls.quiet_of_same (Tryz.strings_IndexByte _ _ _)))
      have hB1 := below_drewN (Below.refl W.heap.size W) nq
      generalize W.drewN nq = W1 at hB1 ⊢
      have hlt : decide (Lib.indexByte (two.extract 2 two.size).data.toList ((((ByteArray.mk #[a, b])[1]'(show 1 < 2 by decide)).toNat : Int)).toNat.toUInt8 < 0) = true := by
        rw [show ((((ByteArray.mk #[a, b])[1]'(show 1 < 2 by decide)).toNat : Int)).toNat.toUInt8 = b by (simp; rfl)]
        rw [HN.out]; rfl
      have hlt2 : Lib.indexByte (List.take (two.size - 2) (List.drop 2 two.data.toList)) ((ByteArray.mk #[a, b])[1]'(show 1 < 2 by decide)) < 0 := by
        rw [show ((ByteArray.mk #[a, b])[1]'(show 1 < 2 by decide)) = b from rfl, show List.take (two.size - 2) (List.drop 2 two.data.toList) = (two.extract 2 two.size).data.toList by decide, HN.out]
        decide
      go_wp2
      rw [Exit.noGoto_ret]
      go_wp2
      rw [Exit.noGoto_ret]
      go_wp2
      go_ret
      exact ⟨rfl, hB0.trans (hB1.mono hB0.size)⟩
    · have hcv : ∀ w, (convert 21 9 (.int .i32 r)).run Tryz.prog w = .ok (.string ⟨#[a, b, c]⟩) w := fun w => by
        rw [run_convert_int_string w 21 9 .i32 r (by rw [Tryz.underlying21]; rfl) Tryz.underlying9, he]
      have hnb : ((two[2].toNat : Int) != (((ByteArray.mk #[a, b, c])[2]'(show 2 < 3 by decide)).toNat : Int)) = true := by
        rw [bne_iff_ne]
        show (0 : Int) ≠ (c.toNat : Int)
        omega
      have HN := hid (index_nothing c)
      have hle : (3 : Int) ≤ (two.size : Int) := by decide
      have hwr : IntKind.i64.wrap 3 = 3 := by decide
      go_wp2
      refine wp_loop_rounds 1 ?_
      rw [rounds_succ]
      go_wp2
      go_step3
      go_wp2
      go_quiet (fail)
      go_wp2
      have hB0 := below_drewN (Below.refl w'.heap.size w') nq
      generalize w'.drewN nq = W at hB0 ⊢
      go_quiet (first | (go_at_call 90; exact Calls.quiet_of_same (Tryz.strings_IndexByte _ _ _)))
      have hB1 := below_drewN (Below.refl W.heap.size W) nq
      generalize W.drewN nq = W1 at hB1 ⊢
      have hlt : decide (Lib.indexByte (two.extract 3 two.size).data.toList ((((ByteArray.mk #[a, b, c])[2]'(show 2 < 3 by decide)).toNat : Int)).toNat.toUInt8 < 0) = true := by
        rw [show ((((ByteArray.mk #[a, b, c])[2]'(show 2 < 3 by decide)).toNat : Int)).toNat.toUInt8 = c by (simp; rfl)]
        rw [HN.out]; rfl
      have hlt2 : Lib.indexByte (List.take (two.size - 3) (List.drop 3 two.data.toList)) ((ByteArray.mk #[a, b, c])[2]'(show 2 < 3 by decide)) < 0 := by
        rw [show ((ByteArray.mk #[a, b, c])[2]'(show 2 < 3 by decide)) = c from rfl, show List.take (two.size - 3) (List.drop 3 two.data.toList) = (two.extract 3 two.size).data.toList by decide, HN.out]
        decide
      go_wp2
      rw [Exit.noGoto_ret]
      go_wp2
      rw [Exit.noGoto_ret]
      go_wp2
      go_ret
      exact ⟨rfl, hB0.trans (hB1.mono hB0.size)⟩
    · have hcv : ∀ w, (convert 21 9 (.int .i32 r)).run Tryz.prog w = .ok (.string ⟨#[a, b, c, d]⟩) w := fun w => by
        rw [run_convert_int_string w 21 9 .i32 r (by rw [Tryz.underlying21]; rfl) Tryz.underlying9, he]
      go_wp2
      refine wp_loop_rounds 1 ?_
      rw [rounds_succ]
      go_wp2
      rw [Exit.noGoto_ret]
      go_wp2
      go_ret
      exact ⟨rfl, Below.refl _ _⟩

theorem iter_step {P : Program} {w wx : World} {pos : Nat} {s : ByteArray} (hb : wx.heap[w.heap.size]? = some (.stringIter s pos)) (h : pos < s.size) (hB : Below w.heap.size w wx) :
    ∃ W2 : World, (∀ ty, (Instr.next (.pointer (some ⟨w.heap.size, 0, none⟩)) true ty).run P wx = .ok (.tuple #[.bool true, .int .i64 pos, .int .i32 (Utf8.decode s pos).1]) W2) ∧
      W2.heap[w.heap.size]? = some (.stringIter s (pos + (Utf8.decode s pos).2)) ∧ Below w.heap.size w W2 := by
  have hlt : w.heap.size < wx.heap.size := by
    rcases Nat.lt_or_ge w.heap.size wx.heap.size with k | k
    · exact k
    · rw [Array.getElem?_eq_none k] at hb; cases hb
  refine ⟨_, fun ty => iter_next ty hb h, ?_, hB.os, hB.tape, hB.output, ?_, fun k hk => ?_⟩
  · simp [hlt]
  · show _ ≤ (wx.heap.setIfInBounds _ _).size
    rw [Array.size_setIfInBounds]
    exact hB.size
  · show (wx.heap.setIfInBounds _ _)[k]? = _
    rw [Array.getElem?_setIfInBounds_ne (by omega)]
    exact hB.block k hk

theorem noAny_skip {s : ByteArray} {i n : Nat} (h : Lib.NoAny s.data.toList [9, 10, 0] i) (hs : ∀ j, i ≤ j → j < i + n → ∀ hj : j < s.size, 128 ≤ s[j].toNat) : Lib.NoAny s.data.toList [9, 10, 0] (i + n) := by
  intro j b hj hb
  rcases Nat.lt_or_ge j i with k | k
  · exact h j b k hb
  · have hjs : j < s.size := by
      rcases Nat.lt_or_ge j s.size with k | k
      · exact k
      · rw [List.getElem?_eq_none (by rw [size_data]; exact k)] at hb; cases hb
    rw [at_data s j hjs] at hb
    have h128 := hs j k hj hjs
    rw [Option.some.inj hb] at h128
    have e1 : b ≠ 9 := fun e => by subst e; exact absurd h128 (by decide)
    have e3 : b ≠ 10 := fun e => by subst e; exact absurd h128 (by decide)
    have e2 : b ≠ 0 := fun e => by subst e; exact absurd h128 (by decide)
    simp [e1, e2, e3]

set_option maxHeartbeats 4000000 in
set_option maxRecDepth 1000000 in
theorem indexAny_short (s : ByteArray) (w : World) (h8 : s.size ≤ 8) :
    Calls Tryz.prog 50 #[.string s, .string two] w fun e w' => e = .returned (.int .i64 (Lib.indexAny s.data.toList [9, 10, 0])) ∧ Below w.heap.size w w' := by
  have hemp : two.toList.isEmpty = false := empty_no two (by decide)
  have hn1 : ((two.size : Int) == 1) = false := by decide
  have h8z : decide ((8 : Int) < (s.size : Int)) = false := decide_eq_false (by omega)
  go_enter Tryz.func50, Tryz.ntmps50
  go_wp2_with (go_at_call 84; refine (Tryz.strings_shouldUseASCIISet _ _).mono ?_; rintro e w' ⟨rfl, hw⟩; rw [hw, h8z])
  go_loopg [9, 10] s.size (fun g _ _ wx => ∃ i : Nat, i ≤ s.size ∧ s.size - i ≤ g ∧ wx.heap[w.heap.size]? = some (.stringIter s i) ∧ Below w.heap.size w wx ∧ Hid (Lib.NoAny s.data.toList [9, 10, 0] i))
  case atStart => exact ⟨0, Nat.zero_le _, Nat.le_refl _, World.iter_heap w s 0, (Below.refl _ _).alloc (Nat.le_refl _) _, Lib.NoAny.zero _ _⟩
  case round =>
    obtain ⟨i, hi, hg, hit, hB, HN⟩ := hrel
    by_cases hlt : i < s.size
    · have HI := hid hit
      have hBz := hB.size
      obtain ⟨W2, hnx, hit2, hb2⟩ := iter_step (P := Tryz.prog) hit hlt hB
      have HI2 := hid hit2
      clear hit hit2 HI hB
      by_cases hc : s[i].toNat < 128
      · have hdec := decode_ascii s i hlt hc
        rw [hdec] at hnx HI2
        have Hx := hid (at_data s i hlt)
        have hback : ((s[i].toNat : Int)).toNat.toUInt8 = s[i] := by simp
        have hcon := Lib.contains_iff_indexByte two.data.toList s[i]
        clear hdec
        cases hin : ([9, 10, 0] : List UInt8).contains s[i] with
        | false =>
          have HIN := hid hin
          rw [two_data, hin] at hcon
          have hneg : ¬ ((0 : Int) ≤ Lib.indexByte two.data.toList s[i]) := of_decide_eq_false hcon.symm
          clear hcon hin
          go_wp2_with (go_at_call 83; refine (Tryz.strings_IndexRune_ascii _ _ _ (by omega) (by omega)).mono ?_; rintro e w' ⟨rfl, hw⟩; rw [hw, hback])
          go_roundg (s.size - (i + 1))
          case measure => omega
          case rel => exact ⟨i + 1, by omega, by omega, HI2.out, hb2, HN.out.succ Hx.out HIN.out⟩
        | true =>
          have HIN := hid hin
          rw [two_data, hin] at hcon
          have hpos : (0 : Int) ≤ Lib.indexByte two.data.toList s[i] := of_decide_eq_true hcon.symm
          clear hcon hin
          go_wp2_with (go_at_call 83; refine (Tryz.strings_IndexRune_ascii _ _ _ (by omega) (by omega)).mono ?_; rintro e w' ⟨rfl, hw⟩; rw [hw, hback])
          go_ret
          exact ⟨by rw [Lib.indexAny_hit HN.out Hx.out HIN.out]; rfl, hb2⟩
      · obtain ⟨r1, r2, r3, r4, r5⟩ := rune_at s i hlt hc
        have HN2 := hid (noAny_skip HN.out r5)
        obtain ⟨R, hR⟩ : ∃ R, Utf8.decode s i = R := ⟨_, rfl⟩
        rw [hR] at hnx HI2 r1 r2 r3 r4 HN2
        clear r5 hR
        have hcall : Calls Tryz.prog 83 #[.string two, .int .i32 R.1] W2 fun e w' => e = .returned (.int .i64 (-1)) ∧ Below W2.heap.size W2 w' := by
          by_cases he : R.1 = 65533
          · rw [he]; exact indexRune_err W2
          · exact indexRune_high R.1 W2 (by omega) (by omega) (by omega)
        have HC := hid hcall
        clear hcall hc
        go_wp2_with (go_at_call 83; refine HC.out.mono ?_; rintro e w3 ⟨rfl, hb3⟩)
        have hit3 : w3.heap[w.heap.size]? = some (.stringIter s (i + R.2)) := by
          have hk : w.heap.size < W2.heap.size := by
            rcases Nat.lt_or_ge w.heap.size W2.heap.size with k | k
            · exact k
            · have := HI2.out; rw [Array.getElem?_eq_none k] at this; cases this
          rw [hb3.block _ hk]; exact HI2.out
        go_roundg (s.size - (i + R.2))
        case measure => omega
        case rel => exact ⟨i + R.2, by omega, by omega, hit3, hb2.trans (hb3.mono hb2.size), HN2.out⟩
    · have hil : i = s.size := by omega
      have hnx := fun ty => iter_end (P := Tryz.prog) ty hit hlt
      have HF := hid (Lib.indexAny_none (s := s.data.toList) (chars := [9, 10, 0]) (by rw [size_data, ← hil]; exact HN.out))
      clear hil
      go_wp2
      go_ret
      exact ⟨by rw [HF.out]; rfl, hB⟩

theorem zero_set : ∀ w, (zeroValue 134).run Tryz.prog w = .ok (.agg (Array.replicate 256 (.bool false))) w := fun w => by
  exact (Tryz.zeroValue134 w).trans (by kernel_rfl)
theorem two_ascii : ∀ (j : Nat) b, two.data.toList[j]? = some b → b.toNat < 128 := by
  intro j b h
  have : b ∈ two.data.toList := List.mem_of_getElem? h
  rw [two_data] at this
  simp at this
  rcases this with rfl | rfl | rfl <;> decide

theorem indexAny_any (s : ByteArray) (w : World) (hs : s.size < 4294967281) :
    Calls Tryz.prog 50 #[.string s, .string two] w fun e w' => e = .returned (.int .i64 (Lib.indexAny s.data.toList [9, 10, 0])) ∧ Below w.heap.size w w' := by
  by_cases h8 : s.size ≤ 8
  · exact indexAny_short s w h8
  · refine (Tryz.strings_IndexAny_long zero_set s two w (by decide) (by omega) hs (by decide) two_ascii).mono ?_
    rintro e w' ⟨he, hw⟩
    exact ⟨he, hw ▸ ((Below.refl _ _).alloc (Nat.le_refl _) _).alloc (by simp) _⟩

set_option maxHeartbeats 1000000 in
theorem containsAny_two (s : ByteArray) (w : World) (hs : s.size < 4294967281) :
    Calls Tryz.prog 26 #[.string s, .string ⟨#[9, 10, 0]⟩] w fun e w' => e = .returned (.bool (s.data.toList.any fun c => c == 9 || c == 10 || c == 0)) ∧ Below w.heap.size w w' := by
  have HA := hid (indexAny_two s.data.toList)
  go_enter Tryz.func26, Tryz.ntmps26
  go_wp2_with (go_at_call 50; refine (indexAny_any s _ hs).mono ?_; rintro e w' ⟨rfl, hb⟩)
  go_ret
  exact ⟨by rw [← HA.out]; rfl, hb⟩
end Go.Proofs.YtkolgglllladfaaGreatDoor.Ct
/-
  Unified diffs: the program's isPrinted, of every name. (Made by wip/genpv.py.)
-/
namespace Go.Proofs.YtkolgglllladfaaGreatDoor
open Go.RowKit
open Hu (Rw Hk)

theorem index_has (l : Un.Bs) (c : UInt8) : decide (0 ≤ Lib.indexByte l c) = l.contains c := by
  cases hc : l.contains c with
  | true =>
    apply decide_eq_true
    rw [List.contains_iff_mem] at hc
    induction l with
    | nil => cases hc
    | cons d r ih =>
      unfold Lib.indexByte
      by_cases hd : d = c
      · rw [hd, if_pos (by exact beq_self_eq_true c)]; decide
      · rw [if_neg (by rw [beq_eq_false_iff_ne.2 hd]; exact Bool.false_ne_true)]
        have h1 := ih ((List.mem_cons.1 hc).resolve_left (fun e => hd e.symm))
        split
        · rename_i h; rw [beq_iff_eq.1 h] at h1; exact absurd h1 (by decide)
        · omega
  | false =>
    apply decide_eq_false
    have hm : c ∉ l := fun h => by rw [List.contains_iff_mem.2 h] at hc; cases hc
    rw [Pl.index_miss _ _ hm]
    decide
theorem any_three (l : Un.Bs) : (l.any fun c => c == 9 || c == 10 || c == 0) = !(!l.contains 9 && (!l.contains 10 && !l.contains 0)) := by
  induction l with
  | nil => rfl
  | cons c r ih =>
    rw [List.any_cons, ih, List.contains_cons, List.contains_cons, List.contains_cons, Bool.beq_comm (a := (9 : UInt8)) , Bool.beq_comm (a := (10 : UInt8)), Bool.beq_comm (a := (0 : UInt8))]
    cases c == 9 <;> cases c == 10 <;> cases c == 0 <;> cases r.contains 9 <;> cases r.contains 10 <;> cases r.contains 0 <;> rfl
set_option maxHeartbeats 2000000 in
set_option maxRecDepth 100000 in
theorem isPrinted_any (p s : ByteArray) (w : World) (hs : s.size < 4294967281) :
    Calls Tryz.prog 12 #[.agg #[.string p, .string s]] w fun e w' => e = .returned (.bool (Un.nameOk (p.data.toList, s.data.toList))) ∧ Below w.heap.size w w' := by
  have HBA := hid ((Below.refl w.heap.size w).alloc (Nat.le_refl _) (.cells #[.string p, .string s] 23))
  have hkA := heap_alloc_new w (.cells #[.string p, .string s] 23)
  have HKA := hid hkA
  have HC := hid (fun w1 => Tryz.strings_Contains_one p 0 w1)
  rw [index_has] at HC
  have HN := hid (fun w1 => Ct.containsAny_two s w1 hs)
  rw [any_three] at HN
  obtain ⟨G, hG⟩ : ∃ G, G = w.heap.size := ⟨_, rfl⟩
  rw [← hG] at HKA
  have HOK : Hid (Un.nameOk (p.data.toList, s.data.toList) = (!p.data.toList.isEmpty && (!p.data.toList.contains 0 && (!s.data.toList.contains 9 && (!s.data.toList.contains 10 && !s.data.toList.contains 0))))) := hid rfl
  rw [HOK.out]
  generalize (!s.data.toList.contains 9 && (!s.data.toList.contains 10 && !s.data.toList.contains 0)) = S3 at HN ⊢
  by_cases h0 : p.size = 0
  · have he : p.data.toList.isEmpty = true := by rw [List.isEmpty_iff]; exact List.length_eq_zero_iff.1 (by rw [dsize]; exact h0)
    have HE := hid he
    have hx := Cx.empty_yes p h0
    clear he h0 hs hkA
    go_enter Tryz.func12, Tryz.ntmps12
    go_wp2_with fail
    go_ret
    exact ⟨by rw [HE.out]; rfl, HBA.out⟩
  · have he : p.data.toList.isEmpty = false := by
      cases hq : p.data.toList.isEmpty with
      | false => rfl
      | true => exact absurd (by rw [← dsize, List.isEmpty_iff.1 hq]; rfl) h0
    have HE := hid he
    have hx := Cx.empty_no p h0
    clear he h0 hs hkA
    cases hz : p.data.toList.contains 0 with
    | true =>
      rw [hz] at HC
      clear hz
      go_enter Tryz.func12, Tryz.ntmps12
      go_wp2_with fail
      refine (HC.out _).mono ?_
      rintro e w1 ⟨rfl, rfl⟩
      go_wp2_with fail
      go_ret
      exact ⟨by rw [HE.out]; rfl, HBA.out⟩
    | false =>
      rw [hz] at HC
      clear hz
      go_enter Tryz.func12, Tryz.ntmps12
      go_wp2_with fail
      rw [← hG]
      clear hG
      generalize w.alloc (.cells #[.string p, .string s] 23) = w0 at HBA HKA ⊢
      refine (HC.out w0).mono ?_
      rintro e w1 ⟨rfl, rfl⟩
      have c1 : w1.cell? ⟨G, 1, none⟩ = some (.string s) := cell_of_blk HKA.out 1
      go_wp2_with fail
      refine (HN.out w1).mono ?_
      rintro e w2 ⟨rfl, hb2⟩
      have HB := hid (HBA.out.trans (hb2.mono HBA.out.size))
      clear hb2
      go_wp2_with fail
      go_ret
      exact ⟨by rw [HE.out]; cases S3 <;> rfl, HB.out⟩
end Go.Proofs.YtkolgglllladfaaGreatDoor
/-
  Unified diffs: the program's Print, of every name and of all hunks. (Made by wip/genpv.py.)
-/
namespace Go.Proofs.YtkolgglllladfaaGreatDoor
open Go.RowKit
open Hu (Rw Hk)

set_option maxHeartbeats 4000000 in
set_option maxRecDepth 100000 in
theorem uprint_ok {w : World} {v : Value} {hs : List Hk} (p1 s1 p2 s2 : ByteArray) (hr : RdH w v hs) (hp : PowV w) (hch : chkN hs = 0) (hz : ∀ h ∈ hs, SzH h) (hn : hs.length ≤ 5000000) (hp1 : p1.size ≤ 1099511627776) (hp2 : p2.size ≤ 1099511627776) (hs1 : s1.size < 4294967281) (hs2 : s2.size < 4294967281) (hn1 : Un.nameOk (p1.data.toList, s1.data.toList) = true) (hn2 : Un.nameOk (p2.data.toList, s2.data.toList) = true) (hl : (hs.flatMap Un.hunkT).length ≤ 100000000000000) :
    Calls Tryz.prog 5 #[.agg #[.string p1, .string s1], .agg #[.string p2, .string s2], v] w fun e w' => e = .returned (.tuple #[.string (bB (Un.printT (p1.data.toList, s1.data.toList) (p2.data.toList, s2.data.toList) hs)), .nilIface]) ∧ Below w.heap.size w w' := by
  have hall : hs.all Hu.vld = true := by
    unfold chkN at hch
    split at hch
    · assumption
    · cases hch
  have HCK := hid (fun w1 (h1 : Below w.heap.size w w1) => check_any (hr.below h1) hn hz)
  rw [hch] at HCK
  have HFP := hid (fun w1 (h1 : Below w.heap.size w w1) => fprint_any p1 s1 p2 s2 (hr.below h1) (hp.below h1 (Nat.succ_le_of_lt hp.lt)) hall hz hn hp1 hp2 (by omega) (by omega) hl)
  have HI1 := hid (fun w1 => isPrinted_any p1 s1 w1 hs1)
  rw [hn1] at HI1
  have HI2 := hid (fun w1 => isPrinted_any p2 s2 w1 hs2)
  rw [hn2] at HI2
  have HFM := hid (fun w1 => format_any w1)
  obtain ⟨PT, hPT⟩ : ∃ PT, PT = bB (Un.printT (p1.data.toList, s1.data.toList) (p2.data.toList, s2.data.toList) hs) := ⟨_, rfl⟩
  rw [← hPT] at HFP ⊢
  obtain ⟨va, vc, rfl⟩ := hr.shape
  obtain ⟨N, hN⟩ : ∃ N, N = hs.length := ⟨_, rfl⟩
  rw [← hN] at HCK HFP ⊢
  obtain ⟨hb0, k1, k2⟩ := twoF w (.cells #[.string p1, .string s1] 23) (.cells #[.string p2, .string s2] 23)
  have HB0 := hid hb0
  have K1 := hid k1
  have K2 := hid k2
  obtain ⟨A, hA⟩ : ∃ A, A = w.heap.size := ⟨_, rfl⟩
  rw [← hA] at K1 K2
  clear hr hp hch hz hall hPT hN hb0 k1 k2 hn1 hn2 hs1 hs2
  go_enter Tryz.func5, Tryz.ntmps5
  go_wp2_with fail
  rw [← hA]
  clear hA
  generalize (w.alloc (.cells #[.string p1, .string s1] 23)).alloc (.cells #[.string p2, .string s2] 23) = w0 at HB0 K1 K2 ⊢
  refine (HI1.out w0).mono ?_
  rintro e w1 ⟨rfl, hb1⟩
  have HB1 := hid (HB0.out.trans (hb1.mono HB0.out.size))
  have L1 := hid ((hb1.block A (lt_of_heap K1.out)).trans K1.out)
  have L2 := hid ((hb1.block (A + 1) (lt_of_heap K2.out)).trans K2.out)
  have c0 : w1.cell? ⟨A + 1, 0, none⟩ = some (.string p2) := cell_of_blk L2.out 0
  have c1 : w1.cell? ⟨A + 1, 1, none⟩ = some (.string s2) := cell_of_blk L2.out 1
  clear hb1
  go_wp2_with fail
  refine (HI2.out w1).mono ?_
  rintro e w2 ⟨rfl, hb2⟩
  have HB2 := hid (HB1.out.trans (hb2.mono HB1.out.size))
  have M1 := hid ((hb2.block A (lt_of_heap L1.out)).trans L1.out)
  have M2 := hid ((hb2.block (A + 1) (lt_of_heap L2.out)).trans L2.out)
  clear hb2 c0 c1
  go_wp2_with fail
  refine (HCK.out w2 HB2.out).mono ?_
  rintro e w3 ⟨rfl, hb3⟩
  have HB3 := hid (HB2.out.trans (hb3.mono HB2.out.size))
  have N1 := hid ((hb3.block A (lt_of_heap M1.out)).trans M1.out)
  have N2 := hid ((hb3.block (A + 1) (lt_of_heap M2.out)).trans M2.out)
  clear hb3
  rw [errV_zero]
  go_wp2_with fail
  refine wp_region_noPanic ?_
  refine wp_region_held_drew (S := fun w' => Below w3.heap.size w3 w') (by kernel_rfl) ?S (fun hHeld => ?M)
  case S => exact (Below.refl _ _).drew
  generalize w3.drew = wd at hHeld ⊢
  refine wpAnyH_take (i := 1) (v := ?v1) rfl (by kernel_rfl) (by kernel_rfl) (by kernel_rfl) (fun _ _ _ h => h) (Or.inl ⟨by rfl, fun ww hSw => ?y1⟩) hHeld ?r1
  case y1 => (have t0 : ww.cell? ⟨A, 0, none⟩ = some (.string p1) := cell_of_blk ((hSw.block A (lt_of_heap N1.out)).trans N1.out) 0; have t1 : ww.cell? ⟨A, 1, none⟩ = some (.string s1) := cell_of_blk ((hSw.block A (lt_of_heap N1.out)).trans N1.out) 1; go_simp; all_goals with_reducible rfl)
  try simp only [Act.put]
  try simp only [List.setIfInBounds_toArray]
  try simp only [List.set]
  refine wpAnyH_take (i := 2) (v := ?v2) rfl (by kernel_rfl) (by kernel_rfl) (by kernel_rfl) (fun _ _ _ h => h) (Or.inl ⟨by rfl, fun ww hSw => ?y2⟩) hHeld ?r2
  case y2 => (have t0 : ww.cell? ⟨(A + 1), 0, none⟩ = some (.string p2) := cell_of_blk ((hSw.block (A + 1) (lt_of_heap N2.out)).trans N2.out) 0; have t1 : ww.cell? ⟨(A + 1), 1, none⟩ = some (.string s2) := cell_of_blk ((hSw.block (A + 1) (lt_of_heap N2.out)).trans N2.out) 1; go_simp; all_goals with_reducible rfl)
  try simp only [Act.put]
  try simp only [List.setIfInBounds_toArray]
  try simp only [List.set]
  refine wpAnyH_take (i := 3) (v := ?v3) rfl (by kernel_rfl) (by kernel_rfl) (by kernel_rfl) (fun _ _ _ h => h) (Or.inl ⟨by rfl, fun ww hSw => ?y3⟩) hHeld ?r3
  case y3 => (go_simp; all_goals with_reducible rfl)
  try simp only [Act.put]
  try simp only [List.setIfInBounds_toArray]
  try simp only [List.set]
  refine wpAnyH_ready (rs := [0]) (by kernel_rfl) (by simp) ?q0
  refine AllReadyH.cons rfl (fun K hK => ?_) AllReadyH.nil
  go_simp
  refine (HFM.out wd).mono ?_
  rintro e w5 ⟨rfl, hb5⟩
  go_simp
  refine hK.out _ _ ?S0 (fun hHeld => ?M0)
  case S0 => exact hHeld.trans (hb5.mono hHeld.size)
  clear hK K hb5
  try simp only [Act.put]
  try simp only [List.setIfInBounds_toArray]
  try simp only [List.set]
  refine wpAnyH_ready (rs := [4]) (by kernel_rfl) (by simp) ?q4
  refine AllReadyH.cons rfl (fun K hK => ?_) AllReadyH.nil
  go_simp
  refine (HFP.out w5 (HB3.out.trans (hHeld.mono HB3.out.size))).mono ?_
  rintro e w6 ⟨rfl, hb6⟩
  go_simp
  refine hK.out _ _ ?S4 (fun hHeld => ?M4)
  case S4 => exact hHeld.trans (hb6.mono hHeld.size)
  clear hK K hb6
  try simp only [Act.put]
  try simp only [List.setIfInBounds_toArray]
  try simp only [List.set]
  refine wpAnyH_ready (rs := [5]) (by kernel_rfl) (by simp) ?q5
  refine AllReadyH.cons rfl (fun K hK => ?_) AllReadyH.nil
  go_simp
  refine hK.out _ _ ?S5 (fun hHeld => ?M5)
  case S5 => exact hHeld
  clear hK K
  try simp only [Act.put]
  try simp only [List.setIfInBounds_toArray]
  try simp only [List.set]
  refine wpAnyH_ready (rs := [6]) (by kernel_rfl) (by simp) ?q6
  refine AllReadyH.cons rfl (fun K hK => ?_) AllReadyH.nil
  go_simp
  refine hK.out _ _ ?S6 (fun hHeld => ?M6)
  case S6 => exact hHeld
  clear hK K
  try simp only [Act.put]
  try simp only [List.setIfInBounds_toArray]
  try simp only [List.set]
  refine wpAnyH_done (by kernel_rfl) ?_ _
  refine NoPanic.normal ?_
  have HBZ := hid (HB3.out.trans (hHeld.mono HB3.out.size))
  clear hHeld
  go_wp2_with fail
  go_ret2
  exact ⟨rfl, HBZ.out⟩
/-- what is wrong with names and hunks -/
def fltN (o q : Un.Bs × Un.Bs) (hs : List Hk) : Nat := if Un.nameOk o && Un.nameOk q then chkN hs else 110
set_option maxHeartbeats 4000000 in
set_option maxRecDepth 100000 in
theorem uprint_bad {w : World} {v : Value} {hs : List Hk} (p1 s1 p2 s2 : ByteArray) (hr : RdH w v hs) (hz : ∀ h ∈ hs, SzH h) (hn : hs.length ≤ 5000000) (hs1 : s1.size < 4294967281) (hs2 : s2.size < 4294967281) (hf : fltN (p1.data.toList, s1.data.toList) (p2.data.toList, s2.data.toList) hs ≠ 0) :
    Calls Tryz.prog 5 #[.agg #[.string p1, .string s1], .agg #[.string p2, .string s2], v] w fun e w' => e = .returned (.tuple #[.string ⟨#[]⟩, .iface 42 (.int .i64 (fltN (p1.data.toList, s1.data.toList) (p2.data.toList, s2.data.toList) hs : Nat))]) ∧ Below w.heap.size w w' := by
  have HCK := hid (fun w1 (h1 : Below w.heap.size w w1) => check_any (hr.below h1) hn hz)
  have HI1 := hid (fun w1 => isPrinted_any p1 s1 w1 hs1)
  have HI2 := hid (fun w1 => isPrinted_any p2 s2 w1 hs2)
  obtain ⟨va, vc, rfl⟩ := hr.shape
  obtain ⟨N, hN⟩ : ∃ N, N = hs.length := ⟨_, rfl⟩
  rw [← hN] at HCK ⊢
  obtain ⟨hb0, k1, k2⟩ := twoF w (.cells #[.string p1, .string s1] 23) (.cells #[.string p2, .string s2] 23)
  have HB0 := hid hb0
  have K1 := hid k1
  have K2 := hid k2
  obtain ⟨A, hA⟩ : ∃ A, A = w.heap.size := ⟨_, rfl⟩
  rw [← hA] at K1 K2
  unfold fltN at hf ⊢
  cases h1 : Un.nameOk (p1.data.toList, s1.data.toList) with
  | false =>
    rw [h1] at HI1
    clear hr hz hN hb0 k1 k2 hs1 hs2 h1 hf
    go_enter Tryz.func5, Tryz.ntmps5
    go_wp2_with fail
    rw [← hA]
    clear hA
    generalize (w.alloc (.cells #[.string p1, .string s1] 23)).alloc (.cells #[.string p2, .string s2] 23) = w0 at HB0 K1 K2 ⊢
    refine (HI1.out w0).mono ?_
    rintro e w1 ⟨rfl, hb1⟩
    have HB1 := hid (HB0.out.trans (hb1.mono HB0.out.size))
    clear hb1
    go_wp2_with fail
    go_ret2
    exact ⟨rfl, HB1.out⟩
  | true =>
    rw [h1] at HI1 hf
    cases h2 : Un.nameOk (p2.data.toList, s2.data.toList) with
    | false =>
      rw [h2] at HI2
      clear hr hz hN hb0 k1 k2 hs1 hs2 h1 h2 hf
      go_enter Tryz.func5, Tryz.ntmps5
      go_wp2_with fail
      rw [← hA]
      clear hA
      generalize (w.alloc (.cells #[.string p1, .string s1] 23)).alloc (.cells #[.string p2, .string s2] 23) = w0 at HB0 K1 K2 ⊢
      refine (HI1.out w0).mono ?_
      rintro e w1 ⟨rfl, hb1⟩
      have HB1 := hid (HB0.out.trans (hb1.mono HB0.out.size))
      have L2 := hid ((hb1.block (A + 1) (lt_of_heap K2.out)).trans K2.out)
      have c0 : w1.cell? ⟨A + 1, 0, none⟩ = some (.string p2) := cell_of_blk L2.out 0
      have c1 : w1.cell? ⟨A + 1, 1, none⟩ = some (.string s2) := cell_of_blk L2.out 1
      clear hb1
      go_wp2_with fail
      refine (HI2.out w1).mono ?_
      rintro e w2 ⟨rfl, hb2⟩
      have HB2 := hid (HB1.out.trans (hb2.mono HB1.out.size))
      clear hb2 c0 c1
      go_wp2_with fail
      go_ret2
      exact ⟨rfl, HB2.out⟩
    | true =>
      rw [h2] at HI2 hf
      have hc : chkN hs ≠ 0 := hf
      have HE : Hid (errV (chkN hs) = .iface 42 (.int .i64 (chkN hs : Nat))) := hid (by unfold errV; rw [if_neg hc])
      rw [HE.out] at HCK
      generalize chkN hs = CN at HCK ⊢
      clear hr hz hN hb0 k1 k2 hs1 hs2 h1 h2 hf hc HE
      go_enter Tryz.func5, Tryz.ntmps5
      go_wp2_with fail
      rw [← hA]
      clear hA
      generalize (w.alloc (.cells #[.string p1, .string s1] 23)).alloc (.cells #[.string p2, .string s2] 23) = w0 at HB0 K1 K2 ⊢
      refine (HI1.out w0).mono ?_
      rintro e w1 ⟨rfl, hb1⟩
      have HB1 := hid (HB0.out.trans (hb1.mono HB0.out.size))
      have L2 := hid ((hb1.block (A + 1) (lt_of_heap K2.out)).trans K2.out)
      have c0 : w1.cell? ⟨A + 1, 0, none⟩ = some (.string p2) := cell_of_blk L2.out 0
      have c1 : w1.cell? ⟨A + 1, 1, none⟩ = some (.string s2) := cell_of_blk L2.out 1
      clear hb1
      go_wp2_with fail
      refine (HI2.out w1).mono ?_
      rintro e w2 ⟨rfl, hb2⟩
      have HB2 := hid (HB1.out.trans (hb2.mono HB1.out.size))
      clear hb2 c0 c1
      go_wp2_with fail
      refine (HCK.out w2 HB2.out).mono ?_
      rintro e w3 ⟨rfl, hb3⟩
      have HB3 := hid (HB2.out.trans (hb3.mono HB2.out.size))
      clear hb3
      go_wp2_with fail
      go_ret2
      exact ⟨rfl, HB3.out⟩
end Go.Proofs.YtkolgglllladfaaGreatDoor
