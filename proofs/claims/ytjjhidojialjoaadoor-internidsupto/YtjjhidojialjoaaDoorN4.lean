/-
  The walks of the program's closed, evened, lowered, spaced.
-/
import Derived.Test.YtjjhidojialjoaaDoorN1
import Derived.Test.YtjjhidojialjoaaDoorShelf
import Derived.Lib.AppendStr
namespace Go.Proofs.YtjjhidojialjoaaDoor
open Go.RowKit

theorem data_mk' (l : List UInt8) : (ByteArray.mk l.toArray).data.toList = l := by simp
theorem size_mk' (l : List UInt8) : (ByteArray.mk l.toArray).size = l.length := by show l.toArray.size = _; simp
theorem cells_snoc' (l : List UInt8) (c : UInt8) : Lib.byteCells l ++ [.int .u8 c.toNat] = Lib.byteCells (l ++ [c]) := by rw [Lib.byteCells_append]; rfl
theorem cl_take (s : ByteArray) (k : Nat) (h : k < s.size) : In.cl (s.data.toList.take (k + 1)) = if In.bl s[k] = true then In.cl (s.data.toList.take k) else In.cl (s.data.toList.take k) ++ [s[k]] := by
  rw [take_snoc s k h, In.cl_snoc]

set_option maxHeartbeats 2000000 in
theorem closed_any (s : ByteArray) (w : World) (hs : s.size ≤ 140737488355327) :
    Calls Tryd.prog 34 #[.string s] w fun e w' => e = .returned (.string ⟨(In.cl s.data.toList).toArray⟩) ∧ Below w.heap.size w w' := by
  go_enter Tryd.func34, Tryd.ntmps34
  go_wp2_with fail
  refine (Tryd.Builder_Grow_fresh w.heap.size w.heap.size s.size _ (Nat.le_refl _) (heap_alloc_new _ _) (by simp) (by omega)).mono ?_
  rintro e w1 ⟨rfl, hA, hb⟩
  have hb1 : Below w.heap.size w w1 := ((Below.refl _ _).alloc (Nat.le_refl _) _).trans hb
  have hI : Lib.IsBuilder 78 5 w.heap.size w.heap.size (Lib.byteCells []) w1 := .inr hA
  clear hA hb
  have HI := hid hI
  clear hI
  go_wp2
  go_loopw [10] (fun i wr => ∃ k : Nat, k ≤ s.size ∧ i = .int .i64 k ∧ Lib.IsBuilder 78 5 w.heap.size w.heap.size (Lib.byteCells (In.cl (s.data.toList.take k))) wr ∧ Below w.heap.size w wr) (fun i _ => s.size - (intOf i).toNat)
  case atStart => exact ⟨0, Nat.zero_le _, rfl, HI.out, hb1⟩
  case round =>
    obtain ⟨k, hk, rfl, hI, hb⟩ := hrel
    clear HI hb1
    have hz := hb.size
    have HI := hid hI
    clear hI
    have hlen := In.cl_len (s.data.toList.take k)
    rw [List.length_take, size_data] at hlen
    by_cases hlt : k < s.size
    · have HS := hid (cl_take s k hlt)
      generalize In.cl (s.data.toList.take k) = L at HI HS hlen
      have HL3 : Hid ((Lib.byteCells L).length + 1 ≤ 140737488355328) := hid (by rw [Lib.byteCells_length]; omega)
      clear hlen
      cases hp : In.bl s[k] with
      | false =>
        have HE : Hid (In.cl (s.data.toList.take (k + 1)) = L ++ [s[k]]) := hid (by rw [HS.out, hp]; rfl)
        go_wp2_with (go_at_call 39; refine (isBlank_any _ _).mono ?_; rintro e w2 ⟨rfl, h2⟩; obtain rfl : wr = w2 := h2.symm)
        refine (Tryd.Builder_WriteByte w.heap.size w.heap.size _ _ _ HI.out HL3.out hz).mono ?_
        rintro e w2 ⟨rfl, hA, hb2⟩
        have HA : Hid (Lib.IsBuilder 78 5 w.heap.size w.heap.size (Lib.byteCells (In.cl (s.data.toList.take (k + 1)))) w2) := hid (by rw [HE.out, ← cells_snoc']; exact .inr hA)
        clear hA HI
        go_wp2
        go_roundw
        case rel => exact ⟨k + 1, by omega, by go_num, HA.out, hb.trans hb2⟩
        case measure => simp [intOf]; omega
      | true =>
        have HE : Hid (In.cl (s.data.toList.take (k + 1)) = L) := hid (by rw [HS.out, hp]; rfl)
        go_wp2_with (go_at_call 39; refine (isBlank_any _ _).mono ?_; rintro e w2 ⟨rfl, h2⟩; obtain rfl : wr = w2 := h2.symm)
        go_roundw
        case rel => exact ⟨k + 1, by omega, by go_num, by rw [HE.out]; exact HI.out, hb⟩
        case measure => simp [intOf]; omega
    · have hall : s.data.toList.take k = s.data.toList := List.take_of_length_le (by rw [size_data]; omega)
      rw [hall] at HI
      clear hall hlen
      go_wp2_with fail
      refine (Tryd.Builder_String_any _ _ _ _ HI.out hz).mono ?_
      rintro e w2 ⟨rfl, hb2⟩
      go_wp2
      go_ret
      exact ⟨rfl, hb.trans hb2⟩

theorem sq_take (s : ByteArray) (k : Nat) (h : k < s.size) : In.sq (s.data.toList.take (k + 1)) = In.sq (s.data.toList.take k) ++ (if In.bl s[k] = true then (if In.lb (s.data.toList.take k) = true then [] else [32]) else [s[k]]) := by
  rw [take_snoc s k h, In.sq_snoc]
theorem lb_take' (s : ByteArray) (k : Nat) (h : k < s.size) : In.lb (s.data.toList.take (k + 1)) = In.bl s[k] := by
  rw [take_snoc s k h, In.lb_snoc]
theorem trimmed_T (s : ByteArray) (w : World) (hs : s.size ≤ 140737488355327) :
    Calls Tryd.prog 27 #[.string s] w fun e w' => ∃ T : ByteArray, e = .returned (.string T) ∧ T.data.toList = In.tl s.data.toList ∧ T.size ≤ s.size ∧ w' = w := by
  refine (trimmed_any s w (by unfold maxLen; omega)).mono ?_
  rintro e w' ⟨rfl, hb⟩
  refine ⟨_, rfl, data_mk' _, ?_, hb⟩
  rw [size_mk', ← size_data s]
  exact In.tl_len _

set_option maxHeartbeats 2000000 in
theorem evened_any (x : ByteArray) (w : World) (hx : x.size ≤ 140737488355327) :
    Calls Tryd.prog 35 #[.string x] w fun e w' => e = .returned (.string ⟨(In.sq (In.tl x.data.toList)).toArray⟩) ∧ Below w.heap.size w w' := by
  go_enter Tryd.func35, Tryd.ntmps35
  go_wp2_with fail
  refine (trimmed_T _ _ hx).mono ?_
  rintro e w0 ⟨s, rfl, hs1, hs2, h0⟩
  obtain rfl : w = w0 := h0.symm
  have HS1 := hid hs1
  have hs : s.size ≤ 140737488355327 := by omega
  clear hs1 hs2 hx
  go_wp2_with fail
  refine (Tryd.Builder_Grow_fresh w.heap.size w.heap.size s.size _ (Nat.le_refl _) (heap_alloc_new _ _) (by simp) (by omega)).mono ?_
  rintro e w1 ⟨rfl, hA, hb⟩
  have hb1 : Below w.heap.size w w1 := ((Below.refl _ _).alloc (Nat.le_refl _) _).trans hb
  have hI : Lib.IsBuilder 78 5 w.heap.size w.heap.size (Lib.byteCells []) w1 := .inr hA
  clear hA hb
  have HI := hid hI
  clear hI
  go_wp2
  go_loopw [12] (fun i wr => ∃ k : Nat, k ≤ s.size ∧ i = .int .i64 k ∧ Lib.IsBuilder 78 5 w.heap.size w.heap.size (Lib.byteCells (In.sq (s.data.toList.take k))) wr ∧ Below w.heap.size w wr) (fun i _ => s.size - (intOf i).toNat)
  case atStart => exact ⟨0, Nat.zero_le _, rfl, HI.out, hb1⟩
  case round =>
    obtain ⟨k, hk, rfl, hI, hb⟩ := hrel
    clear HI hb1
    have hz := hb.size
    have HI := hid hI
    clear hI
    have hlen := In.sq_len (s.data.toList.take k)
    rw [List.length_take, size_data] at hlen
    by_cases hlt : k < s.size
    · have HS := hid (sq_take s k hlt)
      cases hp : In.bl s[k] with
      | false =>
        have HE : Hid (In.sq (s.data.toList.take (k + 1)) = In.sq (s.data.toList.take k) ++ [s[k]]) := hid (by rw [HS.out, hp]; rfl)
        generalize In.sq (s.data.toList.take k) = L at HI HE hlen
        have HL3 : Hid ((Lib.byteCells L).length + 1 ≤ 140737488355328) := hid (by rw [Lib.byteCells_length]; omega)
        clear hlen HS
        go_wp2_with (go_at_call 39; refine (isBlank_any _ _).mono ?_; rintro e w2 ⟨rfl, h2⟩; obtain rfl : wr = w2 := h2.symm)
        refine (Tryd.Builder_WriteByte w.heap.size w.heap.size _ _ _ HI.out HL3.out hz).mono ?_
        rintro e w2 ⟨rfl, hA, hb2⟩
        have HA : Hid (Lib.IsBuilder 78 5 w.heap.size w.heap.size (Lib.byteCells (In.sq (s.data.toList.take (k + 1)))) w2) := hid (by rw [HE.out, ← cells_snoc']; exact .inr hA)
        clear hA HI
        go_wp2
        go_roundw
        case rel => exact ⟨k + 1, by omega, by go_num, HA.out, hb.trans hb2⟩
        case measure => simp [intOf]; omega
      | true =>
        cases k with
        | zero =>
          have HE : Hid (In.sq (s.data.toList.take (0 + 1)) = In.sq (s.data.toList.take 0) ++ [32]) := hid (by rw [HS.out, hp]; rfl)
          generalize In.sq (s.data.toList.take 0) = L at HI HE hlen
          have HL3 : Hid ((Lib.byteCells L).length + 1 ≤ 140737488355328) := hid (by rw [Lib.byteCells_length]; omega)
          clear hlen HS
          go_wp2_with (go_at_call 39; refine (isBlank_any _ _).mono ?_; rintro e w2 ⟨rfl, h2⟩; obtain rfl : wr = w2 := h2.symm)
          refine (Tryd.Builder_WriteByte w.heap.size w.heap.size _ _ _ HI.out HL3.out hz).mono ?_
          rintro e w2 ⟨rfl, hA, hb2⟩
          have HA : Hid (Lib.IsBuilder 78 5 w.heap.size w.heap.size (Lib.byteCells (In.sq (s.data.toList.take (0 + 1)))) w2) := hid (by rw [HE.out, ← cells_snoc']; exact .inr hA)
          clear hA HI
          go_wp2
          go_roundw
          case rel => exact ⟨1, by omega, by go_num, HA.out, hb.trans hb2⟩
          case measure => simp [intOf]; omega
        | succ k =>
          have hlt' : k < s.size := by omega
          have hl := lb_take' s k hlt'
          cases hq : In.bl s[k] with
          | false =>
            have HE : Hid (In.sq (s.data.toList.take (k + 1 + 1)) = In.sq (s.data.toList.take (k + 1)) ++ [32]) := hid (by rw [HS.out, hp, hl, hq]; rfl)
            generalize In.sq (s.data.toList.take (k + 1)) = L at HI HE hlen
            have HL3 : Hid ((Lib.byteCells L).length + 1 ≤ 140737488355328) := hid (by rw [Lib.byteCells_length]; omega)
            clear hlen HS hl
            go_wp2_with (go_at_call 39; refine (isBlank_any _ _).mono ?_; rintro e w2 ⟨rfl, h2⟩; obtain rfl : wr = w2 := h2.symm)
            refine (Tryd.Builder_WriteByte w.heap.size w.heap.size _ _ _ HI.out HL3.out hz).mono ?_
            rintro e w2 ⟨rfl, hA, hb2⟩
            have HA : Hid (Lib.IsBuilder 78 5 w.heap.size w.heap.size (Lib.byteCells (In.sq (s.data.toList.take (k + 1 + 1)))) w2) := hid (by rw [HE.out, ← cells_snoc']; exact .inr hA)
            clear hA HI
            go_wp2
            go_roundw
            case rel => exact ⟨k + 1 + 1, by omega, by go_num, HA.out, hb.trans hb2⟩
            case measure => simp [intOf]; omega
          | true =>
            have HE : Hid (In.sq (s.data.toList.take (k + 1 + 1)) = In.sq (s.data.toList.take (k + 1))) := hid (by rw [HS.out, hp, hl, hq]; simp)
            clear hlen HS hl
            go_wp2_with (go_at_call 39; refine (isBlank_any _ _).mono ?_; rintro e w2 ⟨rfl, h2⟩; obtain rfl : wr = w2 := h2.symm)
            go_roundw
            case rel => exact ⟨k + 1 + 1, by omega, by go_num, by rw [HE.out]; exact HI.out, hb⟩
            case measure => simp [intOf]; omega
    · have hall : s.data.toList.take k = s.data.toList := List.take_of_length_le (by rw [size_data]; omega)
      rw [hall] at HI
      clear hall hlen
      go_wp2_with fail
      refine (Tryd.Builder_String_any _ _ _ _ HI.out hz).mono ?_
      rintro e w2 ⟨rfl, hb2⟩
      go_wp2
      go_ret
      exact ⟨by rw [← HS1.out]; rfl, hb.trans hb2⟩

theorem lw_take' (T : ByteArray) (k : Nat) (h : k < T.size) : In.lw (T.data.toList.take (k + 1)) = In.lw (T.data.toList.take k) ++ [In.lo T[k]] := by
  rw [take_snoc T k h, In.lw_snoc]
theorem lo_great' (c : UInt8) (h1 : 65 ≤ c.toNat) (h2 : c.toNat ≤ 90) : ((In.lo c).toNat : Int) = c.toNat + 32 := by
  unfold In.lo
  rw [if_pos ⟨h1, h2⟩, UInt8.toNat_add]
  have : (32 : UInt8).toNat = 32 := rfl
  omega
theorem lo_low' (c : UInt8) (h : ¬ 65 ≤ c.toNat) : In.lo c = c := by
  unfold In.lo; rw [if_neg (fun e => h e.1)]
theorem lo_high' (c : UInt8) (h : ¬ c.toNat ≤ 90) : In.lo c = c := by
  unfold In.lo; rw [if_neg (fun e => h e.2)]
set_option maxHeartbeats 2000000 in
theorem lowered_any (s : ByteArray) (w : World) (hs : s.size ≤ 140737488355327) :
    Calls Tryd.prog 26 #[.string s] w fun e w' => e = .returned (.string ⟨(In.lw s.data.toList).toArray⟩) ∧ Below w.heap.size w w' := by
  go_enter Tryd.func26, Tryd.ntmps26
  go_wp2_with fail
  refine (Tryd.Builder_Grow_fresh w.heap.size w.heap.size s.size _ (Nat.le_refl _) (heap_alloc_new _ _) (by simp) (by omega)).mono ?_
  rintro e w1 ⟨rfl, hA, hb⟩
  have hb1 : Below w.heap.size w w1 := ((Below.refl _ _).alloc (Nat.le_refl _) _).trans hb
  have hI : Lib.IsBuilder 78 5 w.heap.size w.heap.size (Lib.byteCells []) w1 := .inr hA
  clear hA hb
  have HI := hid hI
  clear hI
  go_wp2
  go_loopw [11] (fun i wr => ∃ k : Nat, k ≤ s.size ∧ i = .int .i64 k ∧ Lib.IsBuilder 78 5 w.heap.size w.heap.size (Lib.byteCells (In.lw (s.data.toList.take k))) wr ∧ Below w.heap.size w wr) (fun i _ => s.size - (intOf i).toNat)
  case atStart => exact ⟨0, Nat.zero_le _, rfl, HI.out, hb1⟩
  case round =>
    obtain ⟨k, hk, rfl, hI, hb⟩ := hrel
    clear HI hb1
    have hz := hb.size
    have HI := hid hI
    clear hI
    have hlen : (In.lw (s.data.toList.take k)).length ≤ k := by unfold In.lw; rw [List.length_map, List.length_take]; omega
    by_cases hlt : k < s.size
    · have HS := hid (lw_take' s k hlt)
      generalize In.lw (s.data.toList.take k) = L at HI HS hlen
      have HL3 : Hid ((Lib.byteCells L).length + 1 ≤ 140737488355328) := hid (by rw [Lib.byteCells_length]; omega)
      clear hlen
      by_cases g1 : 65 ≤ s[k].toNat
      · by_cases g2 : s[k].toNat ≤ 90
        · have HG := hid (lo_great' s[k] g1 g2)
          go_wp2_with fail
          refine (Tryd.Builder_WriteByte w.heap.size w.heap.size _ _ _ HI.out HL3.out hz).mono ?_
          rintro e w2 ⟨rfl, hA, hb2⟩
          have HA : Hid (Lib.IsBuilder 78 5 w.heap.size w.heap.size (Lib.byteCells (In.lw (s.data.toList.take (k + 1)))) w2) := hid (by rw [HS.out, ← cells_snoc', HG.out]; exact .inr hA)
          clear hA HI
          go_wp2
          go_roundw
          case rel => exact ⟨k + 1, by omega, by go_num, HA.out, hb.trans hb2⟩
          case measure => simp [intOf]; omega
        · have HG := hid (lo_high' s[k] g2)
          go_wp2_with fail
          refine (Tryd.Builder_WriteByte w.heap.size w.heap.size _ _ _ HI.out HL3.out hz).mono ?_
          rintro e w2 ⟨rfl, hA, hb2⟩
          have HA : Hid (Lib.IsBuilder 78 5 w.heap.size w.heap.size (Lib.byteCells (In.lw (s.data.toList.take (k + 1)))) w2) := hid (by rw [HS.out, ← cells_snoc', HG.out]; exact .inr hA)
          clear hA HI
          go_wp2
          go_roundw
          case rel => exact ⟨k + 1, by omega, by go_num, HA.out, hb.trans hb2⟩
          case measure => simp [intOf]; omega
      · have HG := hid (lo_low' s[k] g1)
        go_wp2_with fail
        refine (Tryd.Builder_WriteByte w.heap.size w.heap.size _ _ _ HI.out HL3.out hz).mono ?_
        rintro e w2 ⟨rfl, hA, hb2⟩
        have HA : Hid (Lib.IsBuilder 78 5 w.heap.size w.heap.size (Lib.byteCells (In.lw (s.data.toList.take (k + 1)))) w2) := hid (by rw [HS.out, ← cells_snoc', HG.out]; exact .inr hA)
        clear hA HI
        go_wp2
        go_roundw
        case rel => exact ⟨k + 1, by omega, by go_num, HA.out, hb.trans hb2⟩
        case measure => simp [intOf]; omega
    · have hall : s.data.toList.take k = s.data.toList := List.take_of_length_le (by rw [size_data]; omega)
      rw [hall] at HI
      clear hall hlen
      go_wp2_with fail
      refine (Tryd.Builder_String_any _ _ _ _ HI.out hz).mono ?_
      rintro e w2 ⟨rfl, hb2⟩
      go_wp2
      go_ret
      exact ⟨rfl, hb.trans hb2⟩

theorem bit_at (n : Nat) (hn : n ≤ 15) : (bits .and .i64 (n : Int) 1 != 0) = decide (n % 2 = 1) ∧ (bits .and .i64 (n : Int) 2 != 0) = decide (n / 2 % 2 = 1) ∧ (bits .and .i64 (n : Int) 4 != 0) = decide (n / 4 % 2 = 1) ∧ (bits .and .i64 (n : Int) 8 != 0) = decide (n / 8 % 2 = 1) := by
  have h : ∀ i : Fin 16, (bits .and .i64 (i.val : Int) 1 != 0) = decide (i.val % 2 = 1) ∧ (bits .and .i64 (i.val : Int) 2 != 0) = decide (i.val / 2 % 2 = 1) ∧ (bits .and .i64 (i.val : Int) 4 != 0) = decide (i.val / 4 % 2 = 1) ∧ (bits .and .i64 (i.val : Int) 8 != 0) = decide (i.val / 8 % 2 = 1) := by decide +kernel
  exact h ⟨n, by omega⟩
theorem kd_of (n : Nat) (hn : n ≤ 15) : In.kd n = if (bits .and .i64 (n : Int) 2 != 0) = true then 3 else if (bits .and .i64 (n : Int) 4 != 0) = true then 2 else if (bits .and .i64 (n : Int) 8 != 0) = true then 1 else 0 := by
  obtain ⟨_, h2, h4, h8⟩ := bit_at n hn
  rw [h2, h4, h8]
  simp only [decide_eq_true_eq]
  rfl

set_option maxHeartbeats 1000000 in
/-- what a sum of ways leaves of a text -/
theorem spaced_T (x : ByteArray) (n : Nat) (hn : n ≤ 15) (w : World) (hx : x.size ≤ 140737488355327) :
    Calls Tryd.prog 25 #[.string x, .int .i64 n] w fun e w' => ∃ T : ByteArray, e = .returned (.string T) ∧ T.data.toList = In.sp (In.kd n) x.data.toList ∧ T.size ≤ x.size ∧ Below w.heap.size w w' := by
  have hl := In.sp_len (In.kd n) x.data.toList
  rw [size_data] at hl
  have hk := kd_of n hn
  cases c2 : (bits .and .i64 (n : Int) 2 != 0) with
  | true =>
    rw [c2, if_pos rfl] at hk
    rw [hk] at hl ⊢
    go_enter Tryd.func25, Tryd.ntmps25
    go_wp2_with fail
    refine (closed_any _ _ hx).mono ?_
    rintro e w1 ⟨rfl, hb⟩
    go_wp2
    go_ret
    exact ⟨_, rfl, data_mk' _, by rw [size_mk']; exact hl, hb⟩
  | false =>
    rw [c2, if_neg (by simp)] at hk
    cases c4 : (bits .and .i64 (n : Int) 4 != 0) with
    | true =>
      rw [c4, if_pos rfl] at hk
      rw [hk] at hl ⊢
      go_enter Tryd.func25, Tryd.ntmps25
      go_wp2_with fail
      refine (evened_any _ _ hx).mono ?_
      rintro e w1 ⟨rfl, hb⟩
      go_wp2
      go_ret
      exact ⟨_, rfl, data_mk' _, by rw [size_mk']; exact hl, hb⟩
    | false =>
      rw [c4, if_neg (by simp)] at hk
      cases c8 : (bits .and .i64 (n : Int) 8 != 0) with
      | true =>
        rw [c8, if_pos rfl] at hk
        rw [hk] at hl ⊢
        go_enter Tryd.func25, Tryd.ntmps25
        go_wp2_with fail
        refine (trimmed_any _ _ (by unfold maxLen; omega)).mono ?_
        rintro e w1 ⟨rfl, rfl⟩
        go_wp2
        go_ret
        exact ⟨_, rfl, data_mk' _, by rw [size_mk']; exact hl, Below.refl _ _⟩
      | false =>
        rw [c8, if_neg (by simp)] at hk
        rw [hk] at hl ⊢
        go_enter Tryd.func25, Tryd.ntmps25
        go_wp2
        go_ret
        exact ⟨_, rfl, rfl, Nat.le_refl _, Below.refl _ _⟩
theorem lowered_T (x : ByteArray) (w : World) (hx : x.size ≤ 140737488355327) :
    Calls Tryd.prog 26 #[.string x] w fun e w' => ∃ T : ByteArray, e = .returned (.string T) ∧ T.data.toList = In.lw x.data.toList ∧ T.size ≤ x.size ∧ Below w.heap.size w w' := by
  refine (lowered_any x w hx).mono ?_
  rintro e w' ⟨rfl, hb⟩
  refine ⟨_, rfl, data_mk' _, ?_, hb⟩
  rw [size_mk', ← size_data x]
  unfold In.lw
  rw [List.length_map]
  exact Nat.le_refl _
end Go.Proofs.YtjjhidojialjoaaDoor
