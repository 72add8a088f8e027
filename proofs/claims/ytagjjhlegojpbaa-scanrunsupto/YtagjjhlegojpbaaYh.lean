/-
  A byte as cmp tells it: both Show.
-/
import Derived.Test.YtagjjhlegojpbaaYf
namespace Go.Proofs.Ytagjjhlegojpbaa
open Go.RowKit

theorem and_255 (c : Int) : bits BinOp.and IntKind.i64 c 255 = c % 256 := by
  show IntKind.i64.wrap ((BitVec.ofInt 64 c &&& BitVec.ofInt 64 255).toNat : Int) = _
  have h2 : (BitVec.ofInt 64 255).toNat = 2 ^ 8 - 1 := by decide
  rw [BitVec.toNat_and, h2, Nat.and_two_pow_sub_one_eq_mod, BitVec.toNat_ofInt, IntKind.wrap_i64]
  omega
def sh1 (n : Nat) : ByteArray := if n < 32 then ⟨#[94, UInt8.ofNat (n + 64)]⟩ else if n = 127 then ⟨#[94, 63]⟩ else ⟨#[UInt8.ofNat n]⟩
theorem sh1_size (n : Nat) : (sh1 n).size ≤ 2 := by
  unfold sh1
  split
  · exact Nat.le_refl 2
  · split
    · exact Nat.le_refl 2
    · exact Nat.le_succ 1
def sh2 (n : Nat) : ByteArray := if n < 128 then sh1 n else ⟨#[77, 45]⟩ ++ sh1 (n - 128)
theorem ext_dataY {x y : ByteArray} (h : x.data.toList = y.data.toList) : x = y := by
  obtain ⟨⟨a⟩⟩ := x
  obtain ⟨⟨b⟩⟩ := y
  simp at h
  rw [h]
theorem enc_a (n : Nat) (h : n < 128) : Utf8.encode (n : Int) = ⟨#[UInt8.ofNat n]⟩ := by
  apply ext_dataY
  have v : Utf8.valid (n : Int) = true := by simp [Utf8.valid]; omega
  simp [Utf8.encode, v, h]
set_option maxHeartbeats 1000000 in
theorem show_a (c : Int) (n : Nat) (hc : c % 256 = (n : Int)) (w : World) (h1 : 32 ≤ n) (h2 : n < 127) : Calls Try.prog 15 #[.int .i64 c] w fun e w' => e = .returned (.string ⟨#[UInt8.ofNat n]⟩) ∧ w' = w := by
  have a1 : bits BinOp.and IntKind.i64 c 255 = (n : Int) := by rw [and_255]; exact hc
  have i1 : decide ((n : Int) ≥ 128) = false := decide_eq_false (by omega)
  have i2 : decide ((n : Int) < 32) = false := decide_eq_false (by omega)
  have i3 : ((n : Int) == 127) = false := ine (by omega)
  have HEN := hid (enc_a n (by omega))
  generalize (⟨#[UInt8.ofNat n]⟩ : ByteArray) = s at HEN ⊢
  clear hc
  go_enter Try.func15, Try.ntmps15
  go_wp2
  rw [HEN.out]
  go_ret
  exact ⟨rfl, rfl⟩
set_option maxHeartbeats 1000000 in
theorem show_b (c : Int) (n : Nat) (hc : c % 256 = (n : Int)) (w : World) (h1 : n < 128) : Calls Try.prog 15 #[.int .i64 c] w fun e w' => e = .returned (.string (sh1 n)) ∧ w' = w := by
  have a1 : bits BinOp.and IntKind.i64 c 255 = (n : Int) := by rw [and_255]; exact hc
  by_cases h : n < 32
  · have i1 : decide ((n : Int) ≥ 128) = false := decide_eq_false (by omega)
    have i2 : decide ((n : Int) < 32) = true := decide_eq_true (by omega)
    obtain ⟨m, hm⟩ : ∃ m, m = n + 64 := ⟨_, rfl⟩
    have i4 : IntKind.i64.wrap ((n : Int) + 64) = (m : Int) := by rw [IntKind.wrap_i64]; omega
    have HS := hid (show_a (m : Int) m (by omega) w (by omega) (by omega))
    have HR : Hid ((⟨#[94]⟩ : ByteArray) ++ ⟨#[UInt8.ofNat m]⟩ = sh1 n) := hid (by unfold sh1; rw [if_pos h, hm]; apply ext_dataY; simp)
    generalize (⟨#[UInt8.ofNat m]⟩ : ByteArray) = s at HS HR
    have hsz : s.size ≤ 8 := by
      have h1 := HR.out
      have := sh1_size n
      rw [← h1, ByteArray.size_append] at this
      omega
    clear h h1 hm hc
    go_enter Try.func15, Try.ntmps15
    go_wp2_with fail
    refine HS.out.mono ?_
    rintro e w2 ⟨rfl, rfl⟩
    go_wp2_with fail
    rw [HR.out]
    go_ret
    exact ⟨rfl, rfl⟩
  · by_cases h7 : n = 127
    · subst h7
      have HR : Hid ((⟨#[94, 63]⟩ : ByteArray) = sh1 127) := hid rfl
      have a2 : bits BinOp.and IntKind.i64 c 255 = 127 := a1
      clear a1 hc
      go_enter Try.func15, Try.ntmps15
      go_wp2
      rw [HR.out]
      go_ret
      exact ⟨rfl, rfl⟩
    · have := show_a c n hc w (by omega) (by omega)
      unfold sh1
      rw [if_neg h, if_neg h7]
      exact this
def shN (c : Int) : ByteArray := sh2 (c % 256).toNat
set_option maxHeartbeats 1000000 in
theorem show_any (c : Int) (w : World) : Calls Try.prog 15 #[.int .i64 c] w fun e w' => e = .returned (.string (shN c)) ∧ w' = w := by
  obtain ⟨n, hn⟩ : ∃ n : Nat, c % 256 = (n : Int) := ⟨(c % 256).toNat, by omega⟩
  have hlt : n < 256 := by omega
  have a1 : bits BinOp.and IntKind.i64 c 255 = (n : Int) := by rw [and_255]; exact hn
  have HC : Hid (shN c = sh2 n) := hid (by unfold shN; rw [hn, Int.toNat_natCast])
  rw [HC.out]
  by_cases h : n < 128
  · have HB := show_b c n hn w h
    unfold sh2
    rw [if_pos h]
    exact HB
  · have i1 : decide ((n : Int) ≥ 128) = true := decide_eq_true (by omega)
    obtain ⟨m, hm⟩ : ∃ m, m = n - 128 := ⟨_, rfl⟩
    have i4 : IntKind.i64.wrap ((n : Int) - 128) = (m : Int) := by rw [IntKind.wrap_i64]; omega
    have HS := hid (show_b (m : Int) m (by omega) w (by omega))
    have HR : Hid ((⟨#[77, 45]⟩ : ByteArray) ++ sh1 m = sh2 n) := hid (by unfold sh2; rw [if_neg h, hm])
    have hsz := sh1_size m
    generalize sh1 m = s at HS HR hsz
    clear h hn HC hm
    go_enter Try.func15, Try.ntmps15
    go_wp2_with fail
    refine HS.out.mono ?_
    rintro e w2 ⟨rfl, rfl⟩
    go_wp2_with fail
    rw [HR.out]
    go_ret
    exact ⟨rfl, rfl⟩
end Go.Proofs.Ytagjjhlegojpbaa
