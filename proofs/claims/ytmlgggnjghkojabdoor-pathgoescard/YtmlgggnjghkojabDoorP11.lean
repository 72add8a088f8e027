/-
  The walk of slices.Repeat at the one piece that leads up.
-/
import Derived.Test.YtmlgggnjghkojabDoorP10
namespace Go.Proofs.YtmlgggnjghkojabDoor
open Go.RowKit

/-- copy, as one step of a region that draws its order -/
theorem step_copy {P : Program} {ops : Array Oper} {o : Oper} {a : Act} {w : World} {K : Act → World → Prop} {Q : Exit → Act → World → Prop} {E : Prop}
    (hgd : o.guard = none) (d s : Operand) (dT sT : TypeId) (ho : o.op = .call { callee := .builtin .copy, args := #[d, s], argTypes := #[dT, sT] }) (elem : TypeId) (hu : P.underlying dT = some (.slice elem)) (hsz : (P.info? elem).map (·.size) = some 1)
    (g off dLen dCap : Nat) (ad : Addr) (sLen sCap : Nat) (hd : a.eval d = .slice (some ⟨g, off, none⟩) dLen dCap) (hs : a.eval s = .slice (some ad) sLen sCap)
    (cur : Array Value) (t : TypeId) (hg : w.heap[g]? = some (.cells cur t (0, 0))) (cs : List Value) (hn : cs.length = Nat.min sLen dLen)
    (hsrc : ∀ j v, cs[j]? = some v → w.cell? (ad.add j) = some v) (hfit : off + cs.length ≤ cur.size) (h1 : ∀ v ∈ cs, v.oneCell' = true) (nv : Int) (hnv : goInt cs.length = .int .i64 nv) (R : Array Value) (hR : (cur.toList.take off ++ (cs ++ cur.toList.drop (off + cs.length))).toArray = R)
    (hK : K (a.put o.dst (.int .i64 nv)) (w.setRow g R)) :
    if Region.wanted o (yielded ops a.tmps) = true then Oper.wp P o a w K Q else E := by
  have hw : Region.wanted o (yielded ops a.tmps) = true := by simp [Region.wanted, hgd]
  rw [if_pos hw]
  have hrun := run_copy_row (P := P) w dT sT o.type elem g off dLen dCap ad sLen sCap cur t cs hu hsz hg hn hsrc hfit h1
  subst hR
  unfold Oper.wp
  simp [execOp, ho, resolve, invoke, builtin, hd, hs, hrun, Result.andThen]
  rw [hnv]
  exact hK

/-- n pieces that lead up, then nothing -/
def dots : Value := .string ⟨#[46, 46]⟩
def none' : Value := .string ⟨#[]⟩
def row (n k : Nat) : List Value := List.replicate n dots ++ List.replicate (k - n) none'
theorem row_len (n k : Nat) (h : n ≤ k) : (row n k).length = k := by unfold row; simp; omega
theorem row_zero (k : Nat) : madeCells #[none'] k = (row 0 k).toArray := by
  unfold row
  simp [madeCells]
  apply Array.ext
  · simp
  · intro i h1 h2
    simp [Nat.mod_one]
theorem row_copy (n m k : Nat) (h : n + m ≤ k) : (row n k).toArray.toList.take n ++ (List.replicate m dots ++ (row n k).toArray.toList.drop (n + m)) = row (n + m) k := by
  unfold row
  rw [List.toList_toArray, List.take_append_of_le_length (by simp), List.take_of_length_le (by simp), List.drop_append, List.drop_of_length_le (by simp), List.nil_append, List.length_replicate, List.drop_replicate, ← List.append_assoc, List.replicate_append_replicate]
  congr 2
  omega
theorem row_full (k : Nat) : row k k = SV (List.replicate k [46, 46]) := by
  unfold row SV
  rw [Nat.sub_self, List.map_replicate]
  simp
  exact .inr rfl
theorem row_at {w : World} {g n k : Nat} (hg : w.heap[g]? = some (.cells (row n k).toArray 9 (0, 0))) (m : Nat) (hm : m ≤ n) : ∀ j v, (List.replicate m dots)[j]? = some v → w.cell? ((⟨g, 0, none⟩ : Addr).add j) = some v := by
  intro j v hj
  rw [Go.WideShapes.add_plain, Nat.zero_add]
  have hjm : j < m := by
    rcases Nat.lt_or_ge j m with q | q
    · exact q
    · rw [List.getElem?_eq_none (by simpa using q)] at hj; cases hj
  rw [List.getElem?_replicate, if_pos hjm] at hj
  have e : (row n k)[j]? = some dots := by
    unfold row
    rw [List.getElem?_append_left (by simp; omega), List.getElem?_replicate, if_pos (by omega)]
  rw [← hj]
  simp [World.cell?, hg, e]

set_option maxHeartbeats 4000000 in
set_option maxRecDepth 100000 in
theorem repeat_any (b k : Nat) (w : World) (hk : k ≤ 64) (hx : w.cell? ⟨b, 0, none⟩ = some dots) :
    Calls Tryd.prog 14 #[.slice (some ⟨b, 0, none⟩) 1 1, .int .i64 k] w fun e w' => ∃ v, e = .returned v ∧ OwnS w' w.heap.size v (List.replicate k [46, 46]) ∧ Below w.heap.size w w' := by
  obtain ⟨i0, hi, hz0, hz1, hz2⟩ := info_parts Tryd.infoStr
  have hbw : b < w.heap.size := by
    rcases Nat.lt_or_ge b w.heap.size with q | q
    · exact q
    · have : w.heap[b]? = none := Array.getElem?_eq_none q
      simp [World.cell?, this] at hx
  have HX := hid hx
  have HI := hid hi
  have hmk : (Instr.makeSlice 31 (.int .i64 k) (.int .i64 k)).run Tryd.prog w = .ok (.slice (some ⟨w.heap.size, 0, none⟩) k k) (w.alloc (.cells (row 0 k).toArray 9)) := by
    have h := run_make (P := Tryd.prog) w 31 9 i0 (.string ⟨#[]⟩) Tryd.underlying31 hi hz0 .i64 .i64 k k (by omega) (by omega) (by rw [hz2]; omega) (by omega)
    simp only [Int.toNat_natCast] at h
    rw [hz1, Nat.mul_one] at h
    rw [h]
    have e : (Value.string ⟨#[]⟩).cells = #[none'] := rfl
    rw [e, row_zero]
  have m1 : (1 * k / 18446744073709551616 : Nat) = 0 := by omega
  have m2 : (1 * k % 18446744073709551616 : Nat) = k := by omega
  have M1 := hid m1
  have M2 := hid m2
  clear hx m1 m2 hi
  go_enter Tryd.func14, Tryd.ntmps14
  go_wp2_with fail
  refine (Tryd.bits_Mul 1 k (by omega) (by omega) _).mono ?_
  rintro e w1 ⟨rfl, rfl⟩
  rw [M1.out, M2.out]
  obtain ⟨m0, hm0, hm0k, hm0p⟩ : ∃ m0 : Nat, m0 = Nat.min 1 k ∧ m0 ≤ k ∧ (0 < k → 0 < m0) := ⟨_, rfl, Nat.min_le_right _ _, fun h => Nat.lt_of_lt_of_le (by omega : 0 < 1) (Nat.le_min.2 ⟨Nat.le_refl _, h⟩)⟩
  have hm1 : m0 ≤ 1 := by rw [hm0]; exact Nat.min_le_left _ _
  have hsz : (Tryd.prog.info? 9).map (·.size) = some 1 := by kernel_rfl
  have hb0 : Below w1.heap.size w1 (w1.alloc (.cells (row 0 k).toArray 9)) := (Below.refl _ _).alloc (Nat.le_refl _) _
  have hrow0 : (w1.alloc (.cells (row 0 k).toArray 9)).heap[w1.heap.size]? = some (.cells (row 0 k).toArray 9 (0, 0)) := heap_alloc_new _ _
  have HR0 := hid hrow0
  have HB0 := hid hb0
  have HM0 := hid hm0
  clear hrow0 hb0 hm0
  go_wp2_with (refine wpList_copy_splice rfl _ _ 31 31 rfl 9 Tryd.underlying31 hsz (some ⟨w1.heap.size, 0, none⟩) (some ⟨b, 0, none⟩) k k 1 1 rfl rfl w1.heap.size 0 (row 0 k) 9 HR0.out (List.replicate m0 dots) ?c1 ?c2 ?c3 ?c4 w1.heap.size w1 HB0.out (Nat.le_refl _) ?_)
  case c1 => rw [List.length_replicate]; exact HM0.out
  case c2 =>
    intro _ j v hj
    have hj0 : j = 0 := by
      rcases Nat.lt_or_ge j m0 with q | q
      · omega
      · rw [List.getElem?_eq_none (by simpa using q)] at hj; cases hj
    subst hj0
    rw [List.getElem?_replicate] at hj
    split at hj
    · rw [← hj]
      exact HX.out
    · omega
  case c3 => rw [row_len 0 k (Nat.zero_le _), List.length_replicate]; omega
  case c4 => intro v hv; rw [List.eq_of_mem_replicate hv]; rfl
  intro w2 HG2 hB2
  have HRow : Hid (w2.heap[w1.heap.size]? = some (.cells (row m0 k).toArray 9 (0, 0))) := hid (by
    have e : splice (row 0 k) 0 (List.replicate m0 dots) = row m0 k := by
      unfold splice
      have h := row_copy 0 m0 k (by omega)
      rw [List.toList_toArray] at h
      rw [List.length_replicate, h, Nat.zero_add]
    have h := HG2.out
    rwa [e] at h)
  clear HG2 HR0 HB0 HX hmk
  go_wp2
  go_loopw [8] (fun i wr => ∃ n : Nat, n ≤ k ∧ i = .int .i64 n ∧ (0 < k → 0 < n) ∧ Hid (wr.heap[w1.heap.size]? = some (.cells (row n k).toArray 9 (0, 0))) ∧ Below w1.heap.size w1 wr) (fun i _ => k - (intOf i).toNat)
  case atStart => exact ⟨m0, hm0k, rfl, hm0p, HRow, hB2⟩
  case round =>
    obtain ⟨n, hn, rfl, hpos, HRn, hBn⟩ := hrel
    by_cases hlt : n < k
    · have hn0 : 0 < n := hpos (by omega)
      obtain ⟨m, hm⟩ : ∃ m : Nat, m = Nat.min n (k - n) := ⟨_, rfl⟩
      have hm2 : m ≤ k - n := by rw [hm]; exact Nat.min_le_right _ _
      have hm3 : m ≤ n := by rw [hm]; exact Nat.min_le_left _ _
      have hm4 : 0 < m := by rw [hm]; exact Nat.lt_of_lt_of_le (by omega : 0 < 1) (Nat.le_min.2 ⟨hn0, by omega⟩)
      have HM := hid hm
      have hkn : ¬ k = n := by omega
      have hwr : IntKind.i64.wrap ((n : Int) + (m : Int)) = ((n + m : Nat) : Int) := by rw [IntKind.wrap_i64]; omega
      have HWR := hid hwr
      clear hm hwr
      go_wp2
      go_region_law (refine step_copy rfl (.tmp 41) (.tmp 44) 31 31 rfl 9 Tryd.underlying31 hsz w1.heap.size n (k - n) (k - n) ⟨w1.heap.size, 0, none⟩ n k (by simp [Act.eval, Act.put]) (by simp [Act.eval, Act.put]) (row n k).toArray 9 HRn.out (List.replicate m dots) (by rw [List.length_replicate]; exact HM.out) (row_at HRn.out m hm3) (by rw [List.length_replicate, List.size_toArray, row_len n k hn]; omega) (fun v hv => by rw [List.eq_of_mem_replicate hv]; rfl) m (by rw [List.length_replicate]; rfl) (row (n + m) k).toArray (by rw [List.length_replicate, row_copy n m k (by omega)]) ?_)
      have hrow2 : (wr.drew.setRow w1.heap.size (row (n + m) k).toArray).heap[w1.heap.size]? = some (.cells (row (n + m) k).toArray 9 (0, 0)) := setRow_heap wr.drew w1.heap.size _ _ _ _ HRn.out
      have hB2 : Below w1.heap.size w1 (wr.drew.setRow w1.heap.size (row (n + m) k).toArray) := below_setRow hBn.drew (Nat.le_refl _) _
      have HR2 := hid hrow2
      clear hrow2
      generalize wr.drew.setRow w1.heap.size (row (n + m) k).toArray = W2 at HR2 hB2 ⊢
      go_wp2
      go_roundw
      case rel =>
        refine ⟨?a1, ?a2, ?a3, ?a4, ?a5, ?a6, ?a7, ?a8, ?a9, ?a10, ?a11, ?a12, ?a13, ?a14, ⟨n + m, by omega, ?e, fun _ => by omega, HR2, hB2⟩, ?r⟩
        case r => rfl
        case e => exact congrArg (Value.int .i64) HWR.out
      case measure =>
        show k - (IntKind.i64.wrap ((n : Int) + (m : Int))).toNat < k - ((n : Int)).toNat
        rw [HWR.out]
        omega
    · obtain rfl : n = k := by omega
      have HO : Hid (OwnS wr w1.heap.size (.slice (some ⟨w1.heap.size, 0, none⟩) n n) (List.replicate n [46, 46])) := hid ⟨by rw [SV_length, Nat.mul_one], .inr ⟨w1.heap.size, n, (row n n).toArray, by rw [List.length_replicate], Nat.le_refl _, HRn.out, by rw [List.length_replicate]; exact Nat.le_refl _, by unfold maxLen; omega, by rw [List.size_toArray, row_len n n (Nat.le_refl _), Nat.mul_one], by rw [List.toList_toArray, row_full, List.length_replicate, Nat.mul_one]; exact List.take_of_length_le (by rw [SV_length, List.length_replicate]; exact Nat.le_refl _)⟩⟩
      go_wp2
      go_ret
      exact ⟨_, rfl, HO.out, hBn⟩
end Go.Proofs.YtmlgggnjghkojabDoor
