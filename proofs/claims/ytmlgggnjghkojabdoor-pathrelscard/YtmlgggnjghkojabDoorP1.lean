/-
  strings.ContainsAny at the two bytes that no name has, the slash and NUL: for every string, whatever its bytes are.
-/
import Derived.Test.YtmlgggnjghkojabDoorP0
import Derived.Test.YtmlgggnjghkojabDoorShelf
import Derived.Laws.Runes
import Derived.WalkMore
import Derived.Deep.QuietTactic
import Derived.BigQuiet
namespace Go.Proofs.YtmlgggnjghkojabDoor
open Go.RowKit

/-- the slash and NUL -/
def two : ByteArray := ⟨#[47, 0]⟩
theorem two_data : two.data.toList = [47, 0] := rfl
theorem two_size : two.size = 2 := rfl

theorem iter_next {P : Program} {wx : World} {b pos : Nat} {s : ByteArray} (ty : TypeId) (hb : wx.heap[b]? = some (.stringIter s pos)) (h : pos < s.size) :
    (Instr.next (.pointer (some ⟨b, 0, none⟩)) true ty).run P wx =
      .ok (.tuple #[.bool true, .int .i64 pos, .int .i32 (Utf8.decode s pos).1]) { wx with heap := wx.heap.setIfInBounds b (.stringIter s (pos + (Utf8.decode s pos).2)) } := by
  simp only [Instr.next, getObj, setObj, Sem.run_bind, Sem.run, hb, Result.andThen, h, if_true]
  simp [goInt]
theorem iter_end {P : Program} {wx : World} {b pos : Nat} {s : ByteArray} (ty : TypeId) (hb : wx.heap[b]? = some (.stringIter s pos)) (h : ¬ pos < s.size) :
    (Instr.next (.pointer (some ⟨b, 0, none⟩)) true ty).run P wx = .ok (.tuple #[.bool false]) wx := by
  simp [Instr.next, getObj, Sem.run, hb, h]

theorem below_drewN (w : World) (m : Nat) : Below w.heap.size w (w.drewN m) := ⟨rfl, rfl, rfl, Nat.le_refl _, fun _ _ => rfl⟩
theorem encode_high (r : Int) (h : 128 ≤ r) : (∃ a b : UInt8, Utf8.encode r = ⟨#[a, b]⟩ ∧ 128 ≤ b.toNat) ∨ (∃ a b c : UInt8, Utf8.encode r = ⟨#[a, b, c]⟩) ∨ (∃ a b c d : UInt8, Utf8.encode r = ⟨#[a, b, c, d]⟩) := by
  have hc : 128 ≤ (if Utf8.valid r then r.toNat else Utf8.runeError) := by
    split
    · omega
    · decide
  unfold Utf8.encode
  generalize (if Utf8.valid r then r.toNat else Utf8.runeError) = c at hc
  simp only
  rw [if_neg (by omega)]
  split
  · refine .inl ⟨_, _, rfl, ?_⟩
    rw [UInt8.toNat_ofNat']
    omega
  · split
    · exact .inr (.inl ⟨_, _, _, rfl⟩)
    · exact .inr (.inr ⟨_, _, _, _, rfl⟩)

set_option maxHeartbeats 2000000 in
set_option maxRecDepth 1000000 in
theorem indexRune_err (w : World) :
    Calls Tryd.prog 60 #[.string two, .int .i32 65533] w fun e w' => e = .returned (.int .i64 (-1)) ∧ Below w.heap.size w w' := by
  have n0 := fun ty => run_next_ascii (P := Tryd.prog) w two 0 ty (by decide) (by decide)
  have n1 := fun ty => run_next_ascii (P := Tryd.prog) w two 1 ty (by decide) (by decide)
  have n2 := fun ty => run_next_end (P := Tryd.prog) w two 2 ty (by decide)
  have hb : Below w.heap.size w (w.iter two 2) := (Below.refl _ _).alloc (Nat.le_refl _) _
  go_enter Tryd.func60, Tryd.ntmps60
  go_wp2
  refine wp_loop_rounds 3 ?_
  rw [rounds_succ]
  go_wp2
  rw [rounds_succ]
  go_wp2
  rw [rounds_succ]
  go_wp2
  go_ret
  exact ⟨rfl, hb⟩

theorem index_nothing (c : UInt8) : Lib.indexByte (two.extract 2 two.size).data.toList c = -1 := by
  have : (two.extract 2 two.size).data.toList = [] := by decide
  rw [this]; rfl

set_option maxHeartbeats 4000000 in
set_option maxRecDepth 1000000 in
theorem indexRune_high (r : Int) (w : World) (h1 : 128 ≤ r) (h2 : r ≤ 1114111) (hne : r ≠ 65533) :
    Calls Tryd.prog 60 #[.string two, .int .i32 r] w fun e w' => e = .returned (.int .i64 (-1)) ∧ Below w.heap.size w w' := by
  have hz : (r == 65533) = false := beq_eq_false_iff_ne.2 hne
  have HE := hid (encode_high r h1)
  cases hv : Lib.validRune r with
  | false =>
    have HV := hid hv
    clear hv
    go_enter Tryd.func60, Tryd.ntmps60
    go_wp2_with (go_at_call 67; refine (Tryd.utf8_ValidRune _ _).mono ?_; rintro e w' ⟨rfl, rfl⟩; rw [HV.out])
    go_ret
    exact ⟨rfl, Below.refl _ _⟩
  | true =>
    have HV := hid hv
    clear hv
    go_enter Tryd.func60, Tryd.ntmps60
    go_wp2_with (go_at_call 67; refine (Tryd.utf8_ValidRune _ _).mono ?_; rintro e w' ⟨rfl, rfl⟩; rw [HV.out])
    refine wp_scope_straight ?_
    rcases HE.out with ⟨a, b, he, hb⟩ | ⟨a, b, c, he⟩ | ⟨a, b, c, d, he⟩
    · have hcv : ∀ w, (convert 21 9 (.int .i32 r)).run Tryd.prog w = .ok (.string ⟨#[a, b]⟩) w := fun w => by
        rw [run_convert_int_string w 21 9 .i32 r (by rw [Tryd.underlying21]; rfl) Tryd.underlying9, he]
      have hnb : ((two[1].toNat : Int) != (((ByteArray.mk #[a, b])[1]'(show 1 < 2 by decide)).toNat : Int)) = true := by
        rw [bne_iff_ne]
        show (0 : Int) ≠ (b.toNat : Int)
        omega
      have HN := hid (index_nothing b)
      have hle : (2 : Int) ≤ (two.size : Int) := by decide
      have hwr : IntKind.i64.wrap 2 = 2 := by decide
      go_wp2
      refine wp_loop_rounds 1 ?_
      rw [rounds_succ]
      go_wp2
      go_step3
      go_wp2
      go_quiet (fail)
      go_wp2
      have hB0 := below_drewN w' nq
      generalize w'.drewN nq = W at hB0 ⊢
      go_quiet (first | (go_at_call 66; exact Calls.quiet_of_same (Tryd.strings_IndexByte _ _ _)))
      have hB1 := below_drewN W nq
      generalize W.drewN nq = W1 at hB1 ⊢
      have hlt : decide (Lib.indexByte (two.extract 2 two.size).data.toList ((((ByteArray.mk #[a, b])[1]'(show 1 < 2 by decide)).toNat : Int)).toNat.toUInt8 < 0) = true := by
        rw [index_nothing]; rfl
      go_wp2
      rw [Exit.noGoto_ret]
      go_wp2
      rw [Exit.noGoto_ret]
      go_wp2
      go_ret
      exact ⟨rfl, hB0.trans (hB1.mono hB0.size)⟩
    · have hcv : ∀ w, (convert 21 9 (.int .i32 r)).run Tryd.prog w = .ok (.string ⟨#[a, b, c]⟩) w := fun w => by
        rw [run_convert_int_string w 21 9 .i32 r (by rw [Tryd.underlying21]; rfl) Tryd.underlying9, he]
      go_wp2
      refine wp_loop_rounds 1 ?_
      rw [rounds_succ]
      go_wp2
      rw [Exit.noGoto_ret]
      go_wp2
      go_ret
      exact ⟨rfl, Below.refl _ _⟩
    · have hcv : ∀ w, (convert 21 9 (.int .i32 r)).run Tryd.prog w = .ok (.string ⟨#[a, b, c, d]⟩) w := fun w => by
        rw [run_convert_int_string w 21 9 .i32 r (by rw [Tryd.underlying21]; rfl) Tryd.underlying9, he]
      go_wp2
      refine wp_loop_rounds 1 ?_
      rw [rounds_succ]
      go_wp2
      rw [Exit.noGoto_ret]
      go_wp2
      go_ret
      exact ⟨rfl, Below.refl _ _⟩

theorem iter_step {P : Program} {w wx : World} {pos : Nat} {s : ByteArray} (hb : wx.heap[w.heap.size]? = some (.stringIter s pos)) (h : pos < s.size) (hB : Below w.heap.size w wx) :
    ∃ W2 : World, (∀ ty, (Instr.next (.pointer (some ⟨w.heap.size, 0, none⟩)) true ty).run P wx = .ok (.tuple #[.bool true, .int .i64 pos, .int .i32 (Utf8.decode s pos).1]) W2) ∧
      W2.heap[w.heap.size]? = some (.stringIter s (pos + (Utf8.decode s pos).2)) ∧ Below w.heap.size w W2 := by
  have hlt : w.heap.size < wx.heap.size := by
    rcases Nat.lt_or_ge w.heap.size wx.heap.size with k | k
    · exact k
    · rw [Array.getElem?_eq_none k] at hb; cases hb
  refine ⟨_, fun ty => iter_next ty hb h, ?_, hB.os, hB.tape, hB.output, ?_, fun k hk => ?_⟩
  · simp [hlt]
  · show _ ≤ (wx.heap.setIfInBounds _ _).size
    rw [Array.size_setIfInBounds]
    exact hB.size
  · show (wx.heap.setIfInBounds _ _)[k]? = _
    rw [Array.getElem?_setIfInBounds_ne (by omega)]
    exact hB.block k hk

theorem noAny_skip {s : ByteArray} {i n : Nat} (h : Lib.NoAny s.data.toList [47, 0] i) (hs : ∀ j, i ≤ j → j < i + n → ∀ hj : j < s.size, 128 ≤ s[j].toNat) : Lib.NoAny s.data.toList [47, 0] (i + n) := by
  intro j b hj hb
  rcases Nat.lt_or_ge j i with k | k
  · exact h j b k hb
  · have hjs : j < s.size := by
      rcases Nat.lt_or_ge j s.size with k | k
      · exact k
      · rw [List.getElem?_eq_none (by rw [size_data]; exact k)] at hb; cases hb
    rw [at_data s j hjs] at hb
    have h128 := hs j k hj hjs
    rw [Option.some.inj hb] at h128
    have e1 : b ≠ 47 := fun e => by subst e; exact absurd h128 (by decide)
    have e2 : b ≠ 0 := fun e => by subst e; exact absurd h128 (by decide)
    simp [e1, e2]

set_option maxHeartbeats 4000000 in
set_option maxRecDepth 1000000 in
theorem indexAny_short (s : ByteArray) (w : World) (h8 : s.size ≤ 8) :
    Calls Tryd.prog 54 #[.string s, .string two] w fun e w' => e = .returned (.int .i64 (Lib.indexAny s.data.toList [47, 0])) ∧ Below w.heap.size w w' := by
  have hemp : two.toList.isEmpty = false := empty_no two (by decide)
  have hn1 : ((two.size : Int) == 1) = false := by decide
  have h8z : decide ((8 : Int) < (s.size : Int)) = false := decide_eq_false (by omega)
  go_enter Tryd.func54, Tryd.ntmps54
  go_wp2_with (go_at_call 61; refine (Tryd.strings_shouldUseASCIISet _ _).mono ?_; rintro e w' ⟨rfl, hw⟩; rw [hw, h8z])
  go_loopg [9, 10] s.size (fun g _ _ wx => ∃ i : Nat, i ≤ s.size ∧ s.size - i ≤ g ∧ wx.heap[w.heap.size]? = some (.stringIter s i) ∧ Below w.heap.size w wx ∧ Hid (Lib.NoAny s.data.toList [47, 0] i))
  case atStart => exact ⟨0, Nat.zero_le _, Nat.le_refl _, World.iter_heap w s 0, (Below.refl _ _).alloc (Nat.le_refl _) _, Lib.NoAny.zero _ _⟩
  case round =>
    obtain ⟨i, hi, hg, hit, hB, HN⟩ := hrel
    by_cases hlt : i < s.size
    · have HI := hid hit
      have hBz := hB.size
      obtain ⟨W2, hnx, hit2, hb2⟩ := iter_step (P := Tryd.prog) hit hlt hB
      have HI2 := hid hit2
      clear hit hit2 HI hB
      by_cases hc : s[i].toNat < 128
      · have hdec := decode_ascii s i hlt hc
        rw [hdec] at hnx HI2
        have Hx := hid (at_data s i hlt)
        have hback : ((s[i].toNat : Int)).toNat.toUInt8 = s[i] := by simp
        have hcon := Lib.contains_iff_indexByte two.data.toList s[i]
        clear hdec
        cases hin : ([47, 0] : List UInt8).contains s[i] with
        | false =>
          have HIN := hid hin
          rw [two_data, hin] at hcon
          have hneg : ¬ ((0 : Int) ≤ Lib.indexByte two.data.toList s[i]) := of_decide_eq_false hcon.symm
          clear hcon hin
          go_wp2_with (go_at_call 60; refine (Tryd.strings_IndexRune_ascii _ _ _ (by omega) (by omega)).mono ?_; rintro e w' ⟨rfl, hw⟩; rw [hw, hback])
          go_roundg (s.size - (i + 1))
          case measure => omega
          case rel => exact ⟨i + 1, by omega, by omega, HI2.out, hb2, HN.out.succ Hx.out HIN.out⟩
        | true =>
          have HIN := hid hin
          rw [two_data, hin] at hcon
          have hpos : (0 : Int) ≤ Lib.indexByte two.data.toList s[i] := of_decide_eq_true hcon.symm
          clear hcon hin
          go_wp2_with (go_at_call 60; refine (Tryd.strings_IndexRune_ascii _ _ _ (by omega) (by omega)).mono ?_; rintro e w' ⟨rfl, hw⟩; rw [hw, hback])
          go_ret
          exact ⟨by rw [Lib.indexAny_hit HN.out Hx.out HIN.out]; rfl, hb2⟩
      · obtain ⟨r1, r2, r3, r4, r5⟩ := rune_at s i hlt hc
        have HN2 := hid (noAny_skip HN.out r5)
        obtain ⟨R, hR⟩ : ∃ R, Utf8.decode s i = R := ⟨_, rfl⟩
        rw [hR] at hnx HI2 r1 r2 r3 r4 HN2
        clear r5 hR
        have hcall : Calls Tryd.prog 60 #[.string two, .int .i32 R.1] W2 fun e w' => e = .returned (.int .i64 (-1)) ∧ Below W2.heap.size W2 w' := by
          by_cases he : R.1 = 65533
          · rw [he]; exact indexRune_err W2
          · exact indexRune_high R.1 W2 (by omega) (by omega) (by omega)
        have HC := hid hcall
        clear hcall hc
        go_wp2_with (go_at_call 60; refine HC.out.mono ?_; rintro e w3 ⟨rfl, hb3⟩)
        have hit3 : w3.heap[w.heap.size]? = some (.stringIter s (i + R.2)) := by
          have hk : w.heap.size < W2.heap.size := by
            rcases Nat.lt_or_ge w.heap.size W2.heap.size with k | k
            · exact k
            · have := HI2.out; rw [Array.getElem?_eq_none k] at this; cases this
          rw [hb3.block _ hk]; exact HI2.out
        go_roundg (s.size - (i + R.2))
        case measure => omega
        case rel => exact ⟨i + R.2, by omega, by omega, hit3, hb2.trans (hb3.mono hb2.size), HN2.out⟩
    · have hil : i = s.size := by omega
      have hnx := fun ty => iter_end (P := Tryd.prog) ty hit hlt
      have HF := hid (Lib.indexAny_none (s := s.data.toList) (chars := [47, 0]) (by rw [size_data, ← hil]; exact HN.out))
      clear hil
      go_wp2
      go_ret
      exact ⟨by rw [HF.out]; rfl, hB⟩

theorem zero_set : ∀ w, (zeroValue 108).run Tryd.prog w = .ok (.agg (Array.replicate 256 (.bool false))) w := fun w => by
  exact (Tryd.zeroValue108 w).trans (by kernel_rfl)
theorem two_ascii : ∀ (j : Nat) b, two.data.toList[j]? = some b → b.toNat < 128 := by
  intro j b h
  have : b ∈ two.data.toList := List.mem_of_getElem? h
  rw [two_data] at this
  simp at this
  rcases this with rfl | rfl <;> decide

theorem indexAny_any (s : ByteArray) (w : World) (hs : s.size < 4294967281) :
    Calls Tryd.prog 54 #[.string s, .string two] w fun e w' => e = .returned (.int .i64 (Lib.indexAny s.data.toList [47, 0])) ∧ Below w.heap.size w w' := by
  by_cases h8 : s.size ≤ 8
  · exact indexAny_short s w h8
  · refine (Tryd.strings_IndexAny_long zero_set s two w (by decide) (by omega) hs (by decide) two_ascii).mono ?_
    rintro e w' ⟨he, hw⟩
    exact ⟨he, hw ▸ ((Below.refl _ _).alloc (Nat.le_refl _) _).alloc (by simp) _⟩

set_option maxHeartbeats 1000000 in
theorem containsAny_two (s : ByteArray) (w : World) (hs : s.size < 4294967281) :
    Calls Tryd.prog 44 #[.string s, .string ⟨#[47, 0]⟩] w fun e w' => e = .returned (.bool (s.data.toList.any fun c => c == 47 || c == 0)) ∧ Below w.heap.size w w' := by
  have HA := hid (indexAny_two s.data.toList)
  go_enter Tryd.func44, Tryd.ntmps44
  go_wp2_with (go_at_call 54; refine (indexAny_any s _ hs).mono ?_; rintro e w' ⟨rfl, hb⟩)
  go_ret
  exact ⟨by rw [← HA.out]; rfl, hb⟩
end Go.Proofs.YtmlgggnjghkojabDoor
