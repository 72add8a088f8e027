/-
  The walks of the document's Digits, times, many.
-/
import Derived.Test.YtnbonghlmdnabaaDoorBt
import Derived.Test.YtnbonghlmdnabaaDoorXOwn
import Derived.Deep.Quiet
namespace Go.Proofs.YtnbonghlmdnabaaDoor.Sx
open Go.RowKit

theorem wp_region_classK {id : Nat} {C : World → Prop} {Q : Exit → Act → World → Prop} {a : Act} {w : World} {l : List Oper} (hm : Tryd.prog.follows .mixedOrders = true) (hB : Region.lexB .any l.toArray = true) (hC : C w.drew)
    (h : wpQuiet Tryd.prog l.toArray C (fun a' => ∀ w', C w' → Q .normal a' w') l a) : (Code.region id l.toArray true).wp Tryd.prog Q a w :=
  wp_region_quiet (C := C) hm hB hC (by simpa using h)
theorem digit_all : ∀ i : Fin 10, (ByteArray.mk #[48, 49, 50, 51, 52, 53, 54, 55, 56, 57]).extract i.val (i.val + 1) = bB [UInt8.ofNat (48 + i.val)] := by decide +kernel
theorem digit_one {n : Nat} (h : n < 10) : (ByteArray.mk #[48, 49, 50, 51, 52, 53, 54, 55, 56, 57]).extract n (n + 1) = bB [UInt8.ofNat (48 + n)] := digit_all ⟨n, h⟩
theorem decD_small {n : Nat} (h : n < 10) : Lib.decDigits n = [UInt8.ofNat (48 + n)] := Lib.decDigits_one h
theorem decD_big {n : Nat} (h : ¬ n < 10) : Lib.decDigits n = Lib.decDigits (n / 10) ++ [UInt8.ofNat (48 + n % 10)] := by rw [Lib.decDigits, dif_neg h]
theorem decD_len (n : Nat) (h : n ≤ 9223372036854775807) : (Lib.decDigits n).length ≤ 21 := by
  rw [Lib.decDigits_length]
  have := Lib.nDigits_le20 n (by omega)
  omega
theorem dec_nat (n : Nat) : dec (n : Int) = Lib.decDigits n := by
  unfold dec Lib.itoa
  rw [if_neg (by omega), Int.toNat_natCast]
set_option maxHeartbeats 2000000 in
theorem digits_any : ∀ (m n : Nat), n ≤ m → n ≤ 9223372036854775807 → ∀ w : World, Calls Tryd.prog 18 #[.int .i64 (n : Int)] w fun e w' => e = .returned (.string (bB (Lib.decDigits n))) ∧ Below w.heap.size w w' := by
  intro m
  induction m with
  | zero =>
    intro n hm hn w
    obtain rfl : n = 0 := by omega
    rw [decD_small (by decide)]
    go_enter Tryd.func18, Tryd.ntmps18
    go_wp2
    go_ret
    exact ⟨rfl, Below.refl _ _⟩
  | succ m ih =>
    intro n hm hn w
    by_cases h : n < 10
    · rw [decD_small h, ← digit_one h]
      have i1 : (n : Int) < 10 := by omega
      have s1 : IntKind.i64.wrap ((n : Int) + 1) = ((n + 1 : Nat) : Int) := by rw [wrapI (by omega) (by omega)]; omega
      go_enter Tryd.func18, Tryd.ntmps18
      go_wp2
      go_ret
      exact ⟨rfl, Below.refl _ _⟩
    · have HI := hid (ih (n / 10) (by omega) (by omega))
      have hl : (bB (Lib.decDigits (n / 10))).size ≤ 21 := by rw [bB_size]; exact decD_len _ (by omega)
      have hr : n % 10 < 10 := Nat.mod_lt _ (by decide)
      have HE : Hid (bB (Lib.decDigits (n / 10)) ++ (ByteArray.mk #[48, 49, 50, 51, 52, 53, 54, 55, 56, 57]).extract (n % 10) (n % 10 + 1) = bB (Lib.decDigits n)) := hid (by rw [digit_one hr, bB_app, ← decD_big h])
      have he : ((ByteArray.mk #[48, 49, 50, 51, 52, 53, 54, 55, 56, 57]).extract (n % 10) (n % 10 + 1)).size ≤ 10 := by rw [digit_one hr, bB_size]; simp
      have q1 : IntKind.i64.wrap ((n : Int) / 10) = ((n / 10 : Nat) : Int) := by rw [wrapI (by omega) (by omega)]; omega
      have q2 : (n : Int).tmod 10 = ((n % 10 : Nat) : Int) := by rw [Int.tmod_eq_emod_of_nonneg (by omega)]; omega
      have i1 : (10 : Int) ≤ (n : Int) := by omega
      rw [← HE.out]
      clear HE ih
      generalize bB (Lib.decDigits (n / 10)) = D at HI hl ⊢
      generalize n / 10 = d at HI q1
      obtain ⟨r, hrr⟩ : ∃ r, r = n % 10 := ⟨_, rfl⟩
      rw [← hrr] at hr he q2 ⊢
      obtain ⟨r1, hr1⟩ : ∃ r1, r1 = r + 1 := ⟨_, rfl⟩
      rw [← hr1] at he ⊢
      have q3 : IntKind.i64.wrap ((r : Int) + 1) = (r1 : Int) := by rw [wrapI (by omega) (by omega)]; omega
      have j1 : (0 : Int) ≤ (r : Int) := by omega
      have j4 : r ≤ r1 := by omega
      have j5 : r1 ≤ 10 := by omega
      have j2 : (r : Int) ≤ (r1 : Int) := by omega
      have j3 : (r1 : Int) ≤ 10 := by omega
      clear hrr hr1 h
      go_enter Tryd.func18, Tryd.ntmps18
      go_wp2_with fail
      go_region_with (go_at_call 18; refine (HI.out _).mono ?_; rintro e w1 ⟨rfl, hb1⟩; have HB1 := hid hb1; clear hb1)
      all_goals
        go_wp2
        go_ret
        exact ⟨rfl, Below.trans (b := w.drew) (below_drewN (Below.refl _ _) 1) HB1.out⟩
/-! ### a row of bytes of the call's own -/
abbrev OwB (w : World) (B : Nat) (v : Value) (l : Bs) : Prop := w.ownsRow B 5 1 v l.length (Lib.byteCells l)
end Go.Proofs.YtnbonghlmdnabaaDoor.Sx
