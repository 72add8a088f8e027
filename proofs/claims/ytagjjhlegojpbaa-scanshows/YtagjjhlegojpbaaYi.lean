/-
  The document's Show.
-/
import Derived.Test.YtagjjhlegojpbaaYh
namespace Go.Proofs.Ytagjjhlegojpbaa
open Go.RowKit

theorem tmod_256 (c : Int) : ((c.tmod 256) + 256).tmod 256 = c % 256 := by
  have h : c.tmod 256 = if 0 ≤ c then c % 256 else -((-c) % 256) := by
    split
    · rename_i h
      exact Int.tmod_eq_emod_of_nonneg h
    · rename_i h
      have : c = -(-c) := by omega
      rw [this, Int.neg_tmod, Int.tmod_eq_emod_of_nonneg (by omega)]
      simp
  have h2 : 0 ≤ c.tmod 256 + 256 := by rw [h]; split <;> omega
  rw [Int.tmod_eq_emod_of_nonneg h2, h]
  split <;> omega
theorem conv_one (w : World) (z : Int) (m : Nat) (hz : z = (m : Int)) (hm : m < 256) : (convert 50 9 (.slice (some ⟨w.heap.size, 0, none⟩) 1 1)).run Try.prog (w.alloc (.cells #[.int .u8 z] 5)) = .ok (.string ⟨#[UInt8.ofNat m]⟩) (w.alloc (.cells #[.int .u8 z] 5)) := by
  subst hz
  refine run_convert_bytes_back _ 50 9 5 ⟨w.heap.size, 0, none⟩ 1 [UInt8.ofNat m] Try.underlying50 Try.underlying5 Try.underlying9 fun j hj => ?_
  have h0 : j = 0 := by simp at hj; omega
  subst h0
  have := cell_of_blk (heap_alloc_new w (.cells #[.int .u8 (m : Int)] 5)) 0
  rw [Go.WideShapes.add_plain]
  rw [this]
  have e : (UInt8.ofNat m).toNat = m := by simp; omega
  simp [e]
set_option maxHeartbeats 1000000 in
theorem refShow_any (c : Int) (w : World) : Calls Try.prog 16 #[.int .i64 c] w fun e w' => e = .returned (.string (shN c)) ∧ Below w.heap.size w w' := by
  obtain ⟨n, hn⟩ : ∃ n : Nat, c % 256 = (n : Int) := ⟨(c % 256).toNat, by omega⟩
  have hlt : n < 256 := by omega
  have t1 := tmod_256 c
  rw [hn] at t1
  have HC : Hid (shN c = sh2 n) := hid (by unfold shN; rw [hn, Int.toNat_natCast])
  obtain ⟨t, ht⟩ : ∃ t, t = c.tmod 256 := ⟨_, rfl⟩
  have t0 : -256 ≤ t ∧ t ≤ 256 := by
    have h : c.tmod 256 = if 0 ≤ c then c % 256 else -((-c) % 256) := by
      split
      · rename_i h
        exact Int.tmod_eq_emod_of_nonneg h
      · rename_i h
        have : c = -(-c) := by omega
        rw [this, Int.neg_tmod, Int.tmod_eq_emod_of_nonneg (by omega)]
        simp
    rw [ht, h]
    split <;> omega
  have ht' := ht.symm
  rw [← ht] at t1
  clear ht
  have i1 : IntKind.i64.wrap (t + 256) = t + 256 := by rw [IntKind.wrap_i64]; omega
  have i0 : IntKind.i64.wrap t = t := by rw [IntKind.wrap_i64]; omega
  have i2 : IntKind.i64.wrap (n : Int) = (n : Int) := by rw [IntKind.wrap_i64]; omega
  go_enter Try.func16, Try.ntmps16
  by_cases h : n < 128
  · have j1 : decide ((n : Int) ≥ 128) = false := decide_eq_false (by omega)
    by_cases h3 : n < 32
    · have j2 : decide ((n : Int) < 32) = true := decide_eq_true (by omega)
      have k1 : IntKind.i64.wrap ((n : Int) + 64) = (n : Int) + 64 := by rw [IntKind.wrap_i64]; omega
      have k2 : IntKind.u8.wrap ((n : Int) + 64) = (n : Int) + 64 := by rw [IntKind.wrap_u8]; omega
      have hcv := conv_one w ((n : Int) + 64) (n + 64) (by omega) (by omega)
      have HR : Hid ((⟨#[]⟩ : ByteArray) ++ ⟨#[94]⟩ ++ ⟨#[UInt8.ofNat (n + 64)]⟩ = shN c) := hid (by rw [HC.out]; unfold sh2 sh1; rw [if_pos h, if_pos h3]; apply ext_dataY; simp)
      have hsz : (⟨#[UInt8.ofNat (n + 64)]⟩ : ByteArray).size ≤ 1 := Nat.le_refl 1
      generalize (⟨#[UInt8.ofNat (n + 64)]⟩ : ByteArray) = s at hcv HR hsz
      clear h h3
      go_wp2
      rw [HR.out]
      go_ret
      exact ⟨rfl, (Below.refl _ _).alloc (Nat.le_refl _) _⟩
    · have j2 : decide ((n : Int) < 32) = false := decide_eq_false (by omega)
      by_cases h7 : n = 127
      · have j3 : ((n : Int) == 127) = true := ieq (by omega)
        have HR : Hid ((⟨#[]⟩ : ByteArray) ++ ⟨#[94, 63]⟩ = shN c) := hid (by rw [HC.out]; unfold sh2 sh1; rw [if_pos h, if_neg h3, if_pos h7]; apply ext_dataY; simp)
        clear h h3 h7
        go_wp2
        rw [HR.out]
        go_ret
        exact ⟨rfl, Below.refl _ _⟩
      · have j3 : ((n : Int) == 127) = false := ine (by omega)
        have k2 : IntKind.u8.wrap (n : Int) = (n : Int) := by rw [IntKind.wrap_u8]; omega
        have hcv := conv_one w (n : Int) n rfl (by omega)
        have HR : Hid ((⟨#[]⟩ : ByteArray) ++ ⟨#[UInt8.ofNat n]⟩ = shN c) := hid (by rw [HC.out]; unfold sh2 sh1; rw [if_pos h, if_neg h3, if_neg h7]; apply ext_dataY; simp)
        have hsz : (⟨#[UInt8.ofNat n]⟩ : ByteArray).size ≤ 1 := Nat.le_refl 1
        generalize (⟨#[UInt8.ofNat n]⟩ : ByteArray) = s at hcv HR hsz
        clear h h3 h7
        go_wp2
        rw [HR.out]
        go_ret
        exact ⟨rfl, (Below.refl _ _).alloc (Nat.le_refl _) _⟩
  · have j1 : decide ((n : Int) ≥ 128) = true := decide_eq_true (by omega)
    obtain ⟨m, hm⟩ : ∃ m, m = n - 128 := ⟨_, rfl⟩
    have i4 : IntKind.i64.wrap ((n : Int) - 128) = (m : Int) := by rw [IntKind.wrap_i64]; omega
    by_cases h3 : m < 32
    · have j2 : decide ((m : Int) < 32) = true := decide_eq_true (by omega)
      have k1 : IntKind.i64.wrap ((m : Int) + 64) = (m : Int) + 64 := by rw [IntKind.wrap_i64]; omega
      have k2 : IntKind.u8.wrap ((m : Int) + 64) = (m : Int) + 64 := by rw [IntKind.wrap_u8]; omega
      have hcv := conv_one w ((m : Int) + 64) (m + 64) (by omega) (by omega)
      have HR : Hid ((⟨#[77, 45]⟩ : ByteArray) ++ ⟨#[94]⟩ ++ ⟨#[UInt8.ofNat (m + 64)]⟩ = shN c) := hid (by rw [HC.out]; unfold sh2 sh1; rw [if_neg h, ← hm, if_pos h3]; apply ext_dataY; simp)
      have hsz : (⟨#[UInt8.ofNat (m + 64)]⟩ : ByteArray).size ≤ 1 := Nat.le_refl 1
      generalize (⟨#[UInt8.ofNat (m + 64)]⟩ : ByteArray) = s at hcv HR hsz
      clear h h3 hm
      go_wp2
      rw [HR.out]
      go_ret
      exact ⟨rfl, (Below.refl _ _).alloc (Nat.le_refl _) _⟩
    · have j2 : decide ((m : Int) < 32) = false := decide_eq_false (by omega)
      by_cases h7 : m = 127
      · have j3 : ((m : Int) == 127) = true := ieq (by omega)
        have HR : Hid ((⟨#[77, 45]⟩ : ByteArray) ++ ⟨#[94, 63]⟩ = shN c) := hid (by rw [HC.out]; unfold sh2 sh1; rw [if_neg h, ← hm, if_neg h3, if_pos h7])
        clear h h3 h7 hm
        go_wp2
        rw [HR.out]
        go_ret
        exact ⟨rfl, Below.refl _ _⟩
      · have j3 : ((m : Int) == 127) = false := ine (by omega)
        have k2 : IntKind.u8.wrap (m : Int) = (m : Int) := by rw [IntKind.wrap_u8]; omega
        have hcv := conv_one w (m : Int) m rfl (by omega)
        have HR : Hid ((⟨#[77, 45]⟩ : ByteArray) ++ ⟨#[UInt8.ofNat m]⟩ = shN c) := hid (by rw [HC.out]; unfold sh2 sh1; rw [if_neg h, ← hm, if_neg h3, if_neg h7])
        have hsz : (⟨#[UInt8.ofNat m]⟩ : ByteArray).size ≤ 1 := Nat.le_refl 1
        generalize (⟨#[UInt8.ofNat m]⟩ : ByteArray) = s at hcv HR hsz
        clear h h3 h7 hm
        go_wp2
        rw [HR.out]
        go_ret
        exact ⟨rfl, (Below.refl _ _).alloc (Nat.le_refl _) _⟩
end Go.Proofs.Ytagjjhlegojpbaa
