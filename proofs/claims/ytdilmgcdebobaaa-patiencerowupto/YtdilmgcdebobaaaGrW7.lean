/-
  Several texts in one: W7, W8, W9, Wa.
-/
import Derived.Test.YtdilmgcdebobaaaW6
/-
  Plain: places rise; the anchors of two whole rows.
-/
namespace Go.Proofs.Ytdilmgcdebobaaa
open Ed (Ch Run Pr)

theorem plc_rise (l : List Int) (x : Int) (i j : Nat) : (plc l x i j).Pairwise (· < ·) := by
  unfold plc
  rw [List.pairwise_map]
  exact (List.Pairwise.filter _ List.pairwise_lt_range).imp (fun h => Int.ofNat_lt.2 h)
theorem plB_rise (a b : List Int) (i k i' j' : Nat) (x : Int) (s : Bool) : (plB a b i k i' j' x s).Pairwise (· < ·) := by
  unfold plB
  split
  · split
    · exact plc_rise _ _ _ _
    · exact List.Pairwise.nil
  · exact plc_rise _ _ _ _
theorem plB_short (a b : List Int) (i k i' j' : Nat) (x : Int) (s : Bool) : (plB a b i k i' j' x s).length ≤ k + j' := by
  unfold plB
  split
  · split
    · exact Nat.le_trans (plc_len _ _ _ _) (Nat.le_add_left _ _)
    · exact Nat.zero_le _
  · exact Nat.le_trans (plc_len _ _ _ _) (Nat.le_add_right _ _)
theorem plc_mem {l : List Int} {x : Int} {i j : Nat} {p : Int} (h : p ∈ plc l x i j) : ∃ q : Nat, p = (q : Int) ∧ i ≤ q ∧ q < j ∧ fn l q = x := by
  unfold plc at h
  obtain ⟨q, hq, rfl⟩ := List.mem_map.1 h
  obtain ⟨h1, h2⟩ := List.mem_filter.1 hq
  simp at h2
  exact ⟨q, rfl, h2.1, List.mem_range.1 h1, h2.2⟩
theorem cnt_low (l : List Int) (t : Int) (h : ∀ p ∈ l, t ≤ p) : cntB l t = 0 := by
  unfold cntB
  rw [List.length_eq_zero_iff, List.filter_eq_nil_iff]
  intro p hp
  have := h p hp
  simp; omega
theorem cnt_high (l : List Int) (t : Int) (h : ∀ p ∈ l, p < t) : cntB l t = l.length := by
  unfold cntB
  rw [List.filter_eq_self.2 (fun p hp => by simpa using h p hp)]
/-- within the whole box a number is alone if it stands there once -/
theorem one_whole (l : List Int) (x : Int) (n : Nat) : one (plc l x 0 n) 0 n = if (plc l x 0 n).length = 1 then some (fn (plc l x 0 n) 0) else none := by
  unfold one
  rw [cnt_low _ 0 (fun p hp => by obtain ⟨q, rfl, _⟩ := plc_mem hp; omega), cnt_high _ n (fun p hp => by obtain ⟨q, rfl, _, h, _⟩ := plc_mem hp; omega)]
end Go.Proofs.Ytdilmgcdebobaaa
/-
  Plain: the anchors of two whole rows rise by their first numbers.
-/
namespace Go.Proofs.Ytdilmgcdebobaaa
open Ed (Ch Run Pr)

theorem fn_range (a : List Int) : (List.range a.length).map (fn a) = a := by
  apply List.ext_getElem?
  intro i
  rw [List.getElem?_map]
  by_cases hi : i < a.length
  · rw [List.getElem?_range hi, fn_some hi]; rfl
  · rw [List.getElem?_eq_none (by simpa using hi), List.getElem?_eq_none (by simpa using hi)]; rfl
theorem mem_plc {l : List Int} {q n : Nat} (h : q < n) : (q : Int) ∈ plc l (fn l q) 0 n := by
  unfold plc
  exact List.mem_map.2 ⟨q, List.mem_filter.2 ⟨List.mem_range.2 h, by simp⟩, rfl⟩
/-- the anchor of a number of two whole rows -/
def ancW (a b : List Int) (z : Int) : Option Pr := anc (plB a b 0 a.length 0 b.length) (0 : Nat) (0 : Nat) a.length b.length z
theorem anc_first {a b : List Int} {i : Nat} {p q : Int} (hi : i < a.length) (h : ancW a b (fn a i) = some (p, q)) : p = (i : Int) := by
  unfold ancW anc at h
  have e : one (plB a b 0 a.length 0 b.length (fn a i) false) (0 : Nat) a.length = one (plc a (fn a i) 0 a.length) 0 a.length := rfl
  rw [e, one_whole] at h
  by_cases hl : (plc a (fn a i) 0 a.length).length = 1
  · rw [if_pos hl] at h
    obtain ⟨y, hy⟩ := List.length_eq_one_iff.1 hl
    have hm := mem_plc (l := a) hi
    rw [hy] at h hm
    have hm' : (i : Int) = y := by simpa using hm
    split at h
    · next x y' hx hy' =>
      cases h
      cases hx
      exact hm'.symm
    · cases h
  · rw [if_neg hl] at h
    simp at h
theorem anc_rise (a b : List Int) : (a.filterMap (ancW a b)).Pairwise (fun x y : Pr => x.1 < y.1) := by
  have e : a.filterMap (ancW a b) = (List.range a.length).filterMap (fun i => ancW a b (fn a i)) := by
    conv => lhs; rw [← fn_range a]
    rw [List.filterMap_map, fn_range]
    rfl
  rw [e, List.pairwise_filterMap]
  refine List.Pairwise.imp_of_mem ?_ (List.pairwise_lt_range (n := a.length))
  intro i j hi hj hij x hx y hy
  have h1 := anc_first (List.mem_range.1 hi) (by exact hx)
  have h2 := anc_first (List.mem_range.1 hj) (by exact hy)
  rw [h1, h2]
  omega
theorem anc_nodup (a b : List Int) : (a.filterMap (ancW a b)).Nodup := (anc_rise a b).imp (fun h e => by rw [e] at h; omega)
end Go.Proofs.Ytdilmgcdebobaaa
/-
  The document's times; places of a number, counted.
-/
namespace Go.Proofs.Ytdilmgcdebobaaa
open Go.RowKit
open Ed (Ch Run Pr)

theorem plc_count (l : List Int) (x : Int) : ∀ j, j ≤ l.length → (plc l x 0 j).length = (l.take j).count x
  | 0, _ => by rw [plc_self]; rfl
  | j + 1, h => by
    have ih := plc_count l x j (by omega)
    rw [take_snoc (fn_some (show j < l.length by omega)), List.count_append]
    by_cases hx : fn l j = x
    · subst hx
      rw [plc_hit (Nat.zero_le _), List.length_append, ih]
      simp
    · rw [plc_miss hx, ih, List.count_cons_of_ne hx]
      simp
theorem plc_all (l : List Int) (x : Int) : (plc l x 0 l.length).length = l.count x := by
  rw [plc_count l x l.length (Nat.le_refl _), List.take_length]

set_option maxHeartbeats 1000000 in
set_option maxRecDepth 100000 in
theorem times_any {w : World} {v : Value} {l : List Int} (hv : RdI w v l) (hl : l.length ≤ 100000000) (x : Int) :
    Calls Try.prog 25 #[v, .int .i64 x] w fun e w' => e = .returned (.int .i64 (l.count x)) ∧ w' = w := by
  have HV := hid hv
  obtain ⟨av, cv, rfl⟩ := hv.shape
  obtain ⟨n, hn⟩ : ∃ n, n = l.length := ⟨_, rfl⟩
  have HN := hid hn
  rw [← hn] at hl HV ⊢
  obtain ⟨R, hR⟩ : ∃ R, R = l.count x := ⟨_, rfl⟩
  have HR := hid hR
  rw [← hR]
  clear hv hn hR
  go_enter Try.func25, Try.ntmps25
  go_wp2
  go_loopw [5, 6] (fun c i wr => ∃ j q : Nat, j ≤ n ∧ i = .int .i64 j ∧ c = .int .i64 q ∧ q ≤ j ∧ Hid (q = (l.take j).count x) ∧ wr = w) (fun _ i _ => n - (intOf i).toNat)
  case atStart => exact ⟨0, 0, Nat.zero_le _, rfl, rfl, Nat.le_refl _, hid rfl, rfl⟩
  case round =>
    obtain ⟨j, q, hj, rfl, rfl, hq, HQ, rfl⟩ := hrel
    by_cases hlt : j < n
    · have hjn : j < l.length := by rw [← HN.out]; exact hlt
      obtain ⟨zb, zo, e, _, d1⟩ := rdI_at HV.out (fn_some hjn)
      cases e
      have HT := hid (take_snoc (fn_some hjn))
      generalize fn l j = z at d1 HT
      have j1 : (0 : Int) ≤ (j : Int) := by omega
      have j2 : (j : Int) < (n : Int) := by omega
      have j3 : IntKind.i64.wrap ((j : Int) + 1) = (j : Int) + 1 := by rw [IntKind.wrap_i64]; omega
      have j4 : IntKind.i64.wrap ((q : Int) + 1) = (q : Int) + 1 := by rw [IntKind.wrap_i64]; omega
      by_cases hz : z = x
      · have HQ2 : Hid (q + 1 = (l.take (j + 1)).count x) := hid (by rw [HT.out, List.count_append, ← HQ.out, hz]; simp)
        have g : (z == x) = true := beq_iff_eq.2 hz
        clear hz
        go_wp2
        exact ⟨⟨j + 1, q + 1, by omega, by push_cast; rfl, by push_cast; rfl, by omega, HQ2, trivial⟩, by simp [intOf]; omega⟩
      · have HQ2 : Hid (q = (l.take (j + 1)).count x) := hid (by rw [HT.out, List.count_append, ← HQ.out, List.count_cons_of_ne hz]; simp)
        have g : (z == x) = false := beq_eq_false_iff_ne.2 hz
        clear hz
        go_wp2
        exact ⟨⟨j + 1, q, by omega, by push_cast; rfl, rfl, by omega, HQ2, trivial⟩, by simp [intOf]; omega⟩
    · obtain rfl : j = n := by omega
      have HE : Hid (q = R) := hid (by rw [HQ.out, HR.out, HN.out, List.take_length])
      go_wp2
      go_ret
      exact ⟨by rw [← HE.out]; rfl, rfl⟩
end Go.Proofs.Ytdilmgcdebobaaa
/-
  The document's Anchors.
-/
namespace Go.Proofs.Ytdilmgcdebobaaa
open Go.RowKit
open Ed (Ch Run Pr)

theorem single {l : List Int} {x : Int} (h : l.length = 1) (hm : x ∈ l) : l = [x] := by
  obtain ⟨y, rfl⟩ := List.length_eq_one_iff.1 h
  rw [List.mem_singleton.1 hm]
theorem anc_yes {a b : List Int} {i k : Nat} (hi : i < a.length) (hk : k < b.length) (h : fn b k = fn a i) (ha : a.count (fn a i) = 1) (hb : b.count (fn a i) = 1) : ancW a b (fn a i) = some ((i : Int), (k : Int)) := by
  have e1 := single (by rw [plc_all]; exact ha) (mem_plc (l := a) hi)
  have hm := mem_plc (l := b) hk
  rw [h] at hm
  have e2 := single (by rw [plc_all]; exact hb) hm
  have hin : innA a 0 a.length (fn a i) = true := by unfold innA; rw [e1]; rfl
  have p1 : plB a b 0 a.length 0 b.length (fn a i) false = plc a (fn a i) 0 a.length := rfl
  have p2 : plB a b 0 a.length 0 b.length (fn a i) true = plc b (fn a i) 0 b.length := by unfold plB; rw [if_pos rfl, if_pos hin]
  have q1 := one_whole a (fn a i) a.length
  have q2 := one_whole b (fn a i) b.length
  rw [e1] at q1
  rw [e2] at q2
  unfold ancW anc
  rw [p1, p2, e1, e2]
  show (match one [(i : Int)] 0 a.length, one [(k : Int)] 0 b.length with | some x, some y => some (x, y) | _, _ => none) = _
  rw [q1, q2]
  rfl
theorem one_nil (n : Nat) : one [] 0 n = none := rfl
theorem anc_no {a b : List Int} {z : Int} (h : ¬ (a.count z = 1 ∧ b.count z = 1)) : ancW a b z = none := by
  have q1 := one_whole a z a.length
  have q2 := one_whole b z b.length
  rw [plc_all] at q1 q2
  have p1 : plB a b 0 a.length 0 b.length z false = plc a z 0 a.length := rfl
  unfold ancW anc
  show (match one (plB a b 0 a.length 0 b.length z false) 0 a.length, one (plB a b 0 a.length 0 b.length z true) 0 b.length with | some x, some y => some (x, y) | _, _ => none) = _
  rw [p1, q1]
  by_cases ha : a.count z = 1
  · have hb : ¬ b.count z = 1 := fun e => h ⟨ha, e⟩
    have e : one (plB a b 0 a.length 0 b.length z true) 0 b.length = none := by
      unfold plB
      rw [if_pos rfl]
      split
      · rw [q2, if_neg hb]
      · exact one_nil _
    rw [e]
    split <;> simp_all
  · rw [if_neg ha]
theorem anc_snoc (a b : List Int) (j : Nat) (hj : j < a.length) : (a.take (j + 1)).filterMap (ancW a b) = (a.take j).filterMap (ancW a b) ++ (match ancW a b (fn a j) with | some p => [p] | none => []) := by
  rw [take_snoc (fn_some hj), List.filterMap_append]
  congr 1
  rw [List.filterMap_cons]
  cases ancW a b (fn a j) <;> rfl
end Go.Proofs.Ytdilmgcdebobaaa
