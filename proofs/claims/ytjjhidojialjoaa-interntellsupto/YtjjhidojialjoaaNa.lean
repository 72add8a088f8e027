/-
  The walk of the law's function that tells whether two strings count as equal; what more ways do.
-/
import Derived.Test.YtjjhidojialjoaaN8
import Derived.Deep.RegionWith
namespace Go.Proofs.Ytjjhidojialjoaa.internWays
open Go.ChangeShapes Go.WideShapes Go.ChangeAt Go.RowKit
open Go.ChangeMaps (open_string shut_string)

/-- two strings count as equal -/
def alk (s t : ByteArray) (m : Int) : Bool := decide (In.keyI m s.data.toList = In.keyI m t.data.toList)
theorem beq_T {A B : ByteArray} {a b : List UInt8} (h1 : A.data.toList = a) (h2 : B.data.toList = b) : (A.toList == B.toList) = decide (a = b) := by
  rw [ByteArray.toList_eq, ByteArray.toList_eq, h1, h2, Bool.eq_iff_iff, beq_iff_eq, decide_eq_true_eq]
theorem key_T (s : ByteArray) (e : Int) (w : World) (hs : s.size ≤ 140737488351232) :
    Calls Try.prog 7 #[.string s, .int .i64 e] w fun r w' => ∃ T : ByteArray, r = .returned (.string T) ∧ T.data.toList = In.keyI e s.data.toList ∧ Below w.heap.size w w' := by
  refine (key_any s e w (by omega)).mono ?_
  rintro r w' ⟨rfl, hb⟩
  exact ⟨_, rfl, data_mk _, hb⟩

theorem cell_later {w w' : World} {b : Nat} {v : Value} (h : w.cell? ⟨b, 0, none⟩ = some v) (hb : Below w.heap.size w w') : w'.cell? ⟨b, 0, none⟩ = some v := (hb.cell (p := ⟨b, 0, none⟩) (lt_of_cell h)).trans h
theorem two_below {w w1 w2 : World} (h : Below w.drew.heap.size w.drew w1) (h2 : Below w1.heap.size w1 w2) : Below w.heap.size w w2 := by
  have h' : Below w.heap.size w w1 := ⟨h.os, h.tape, h.output, h.size, h.block⟩
  exact h'.trans (h2.mono h'.size)
set_option maxHeartbeats 2000000 in
theorem alike_any (s t : ByteArray) (m : Int) (bs bt : Nat) (w : World) (hs : s.size ≤ 140737488351232) (ht : t.size ≤ 140737488351232) (h1 : w.cell? ⟨bs, 0, none⟩ = some (.string s)) (h2 : w.cell? ⟨bt, 0, none⟩ = some (.string t)) :
    Calls Try.prog 13 #[.int .i64 m, .pointer (some ⟨bs, 0, none⟩), .pointer (some ⟨bt, 0, none⟩)] w fun r w' => r = .returned (.bool (alk s t m)) ∧ Below w.heap.size w w' := by
  unfold alk
  go_enter Try.func13, Try.ntmps13
  go_wp2_with fail
  go_region_with (go_at_call 7; refine (key_T _ _ _ (by assumption)).mono ?_; rintro r w1 ⟨T, rfl, hT, hb⟩; have h1' := cell_later (b := bs) (v := .string s) (by assumption) hb; have h2' := cell_later (b := bt) (v := .string t) (by assumption) hb)
  all_goals go_wp2
  all_goals go_ret
  all_goals exact ⟨ret_bool (beq_T (by assumption) (by assumption)), two_below (by assumption) (by assumption)⟩

theorem bits_15 (e : Int) : ∃ n : Nat, n ≤ 15 ∧ bits .and .i64 e 15 = n := by
  refine ⟨(BitVec.ofInt 64 e &&& BitVec.ofInt 64 15).toNat, ?_, ?_⟩
  · rw [BitVec.toNat_and]
    exact Nat.and_le_right
  · have h : (BitVec.ofInt 64 e &&& BitVec.ofInt 64 15).toNat ≤ 15 := by rw [BitVec.toNat_and]; exact Nat.and_le_right
    show IntKind.i64.wrap ((BitVec.ofInt 64 e &&& BitVec.ofInt 64 15).toNat : Int) = _
    rw [IntKind.wrap_i64]
    omega
theorem ways_in (m n : Nat) (hm : m ≤ 15) (hn : n ≤ 15) (h : (bits .and .i64 (m : Int) (n : Int) == (n : Int)) = true) : In.kd n ≤ In.kd m ∧ (n % 2 = 1 → m % 2 = 1) := by
  have key : ∀ i j : Fin 16, (bits .and .i64 (i.val : Int) (j.val : Int) == (j.val : Int)) = true → In.kd j.val ≤ In.kd i.val ∧ (j.val % 2 = 1 → i.val % 2 = 1) := by decide +kernel
  exact key ⟨m, by omega⟩ ⟨n, by omega⟩ h
theorem keyI_nat (m : Nat) (hm : m ≤ 15) (l : List UInt8) : In.keyI (m : Int) l = In.key m l := by
  unfold In.keyI
  rw [if_pos (by omega)]; rfl
theorem alk_more (s t : ByteArray) (m n : Nat) (hm : m ≤ 15) (hn : n ≤ 15) (hk : In.kd n ≤ In.kd m) (hc : n % 2 = 1 → m % 2 = 1) (h : alk s t n = true) : alk s t m = true := by
  unfold alk at h ⊢
  rw [keyI_nat n hn, keyI_nat n hn] at h
  rw [keyI_nat m hm, keyI_nat m hm]
  exact decide_eq_true (In.key_more n m hk hc _ _ (of_decide_eq_true h))
theorem alk_same (s t : ByteArray) (m : Int) (h : (s.toList == t.toList) = true) : alk s t m = true := by
  rw [ByteArray.toList_eq, ByteArray.toList_eq, beq_iff_eq] at h
  unfold alk
  rw [h]
  exact decide_eq_true rfl

theorem two_b {w w1 w2 : World} {B : Nat} (h2 : Below w1.heap.size w1 w2) (hB : B ≤ w.heap.size) (h : Below B w w1) : Below B w w2 := h.trans (h2.mono (Nat.le_trans hB h.size))
end Go.Proofs.Ytjjhidojialjoaa.internWays
