/-
  The walk of Diff, where nothing is left between the common ends.
-/
import Derived.Test.YtdilmgcdebobaaaY2
namespace Go.Proofs.Ytdilmgcdebobaaa
open Go.RowKit
open Ed (Ch Run Pr)

def noneAt (n k : Nat) : List Int := List.replicate k (-1) ++ List.replicate (n - k) 0
theorem noneAt_len {n k : Nat} (h : k ≤ n) : (noneAt n k).length = n := by unfold noneAt; simp; omega
theorem noneAt_set {n k : Nat} (h : k < n) : (noneAt n k).set k (-1) = noneAt n (k + 1) := by
  unfold noneAt
  rw [List.set_append_right _ _ (by simp)]
  rw [List.length_replicate, Nat.sub_self, show n - k = (n - (k + 1)) + 1 by omega, List.replicate_succ, List.set_cons_zero, List.replicate_succ', List.append_assoc]
  rfl
theorem noneAt_all (n : Nat) : noneAt n n = List.replicate n (-1) := by unfold noneAt; simp
theorem mem_upM {m : List Int} {x y : Nat} : ∀ {k : Nat} {z : Int}, z ∈ upM m x y k → z ∈ m ∨ ∃ i : Nat, i < k ∧ z = ((y + i : Nat) : Int)
  | 0, z, h => .inl h
  | k + 1, z, h => by
    rw [upM] at h
    rcases List.mem_or_eq_of_mem_set h with h | h
    · rcases mem_upM h with h | ⟨i, hi, e⟩
      · exact .inl h
      · exact .inr ⟨i, by omega, e⟩
    · exact .inr ⟨k, by omega, h⟩
theorem mem_dnM {m : List Int} {x y : Nat} : ∀ {k : Nat} {z : Int}, z ∈ dnM m x y k → z ∈ m ∨ ∃ i : Nat, i ≤ y ∧ z = (i : Int)
  | 0, z, h => .inl h
  | k + 1, z, h => by
    rw [dnM] at h
    rcases List.mem_or_eq_of_mem_set h with h | h
    · exact mem_dnM h
    · exact .inr ⟨_, Nat.sub_le _ _, h⟩

set_option maxHeartbeats 4000000 in
set_option maxRecDepth 100000 in
theorem pdiff_flat {w : World} {va vb : Value} {a b : List Int} (hv : RdI w va a) (hu : RdI w vb b) (hla : a.length ≤ 4194304) (hlb : b.length ≤ 4194304)
    (H T : Nat) (hH : H = hdN a b (min a.length b.length) 0 0) (hT : T = tlN a b (min (a.length - H) (b.length - H)) a.length b.length) (hE : H = a.length - T ∨ H = b.length - T)
    (hrise : Ed.rise (prM (dnM (upM (List.replicate a.length (-1)) 0 0 H) a.length b.length T) a.length) 0 0 a.length b.length = true) :
    Calls Try.prog 16 #[va, vb] w fun e w' => ∃ v', e = .returned v' ∧ OwnC w' w.heap.size v' (Ed.ofL (prM (dnM (upM (List.replicate a.length (-1)) 0 0 H) a.length b.length T) a.length) 0 0 a.length b.length) ∧ Below w.heap.size w w' := by
  have hHl : H ≤ min a.length b.length := by rw [hH]; exact hdN_le _ _ _ _ _
  have HL1 := hid (isLong_any hv)
  have HL2 := hid (isLong_any hu)
  rw [decide_eq_false (show ¬ (a.length : Int) > 4194304 by omega)] at HL1
  rw [decide_eq_false (show ¬ (b.length : Int) > 4194304 by omega)] at HL2
  obtain ⟨av, cv, rfl⟩ := hv.shape
  obtain ⟨au, cu, rfl⟩ := hu.shape
  obtain ⟨MM, hMM⟩ : ∃ MM, MM = dnM (upM (List.replicate a.length (-1)) 0 0 H) a.length b.length T := ⟨_, rfl⟩
  have HMW : Hid (∀ x ∈ MM, I64 x) := hid (fun x hx => by
    rw [hMM] at hx
    unfold I64
    rcases mem_dnM hx with h | ⟨i, hi, e⟩
    · rcases mem_upM h with h | ⟨i, hi, e⟩
      · have := (List.mem_replicate.1 h).2; omega
      · omega
    · omega)
  have HML : Hid (MM.length = a.length) := hid (by rw [hMM, dnM_len, upM_len, List.length_replicate])
  have HSE : Hid (∀ (w' : World) (g gm : Nat), Below w.heap.size w w' → w.heap.size ≤ g → w.heap.size ≤ gm → g ≠ gm → w'.heap[g]? = some (pairC (.slice av a.length cv) (.slice au b.length cu) (.slice (some ⟨gm, 0, none⟩) a.length a.length) (.map none) (.slice none 0 0)) → IlR w' gm (List.replicate a.length (-1)) →
      Calls Try.prog 27 #[.pointer (some ⟨g, 0, none⟩)] w' fun e w'' => e = .returned (.tuple #[]) ∧ IlR w'' gm MM ∧ Kept (fun j => j = gm) w' w'') := hid (fun w' g gm hb h1 h2 h3 hG hm => by
    rw [hMM]
    exact settle_flat hv hu hla hlb hb h1 h2 h3 hG hm (List.length_replicate ..) H T hH hT hE)
  have HSC : Hid (∀ (w' : World) (g gm : Nat), Below w.heap.size w w' → w'.heap[g]? = some (pairC (.slice av a.length cv) (.slice au b.length cu) (.slice (some ⟨gm, 0, none⟩) a.length a.length) (.map none) (.slice none 0 0)) → IlR w' gm MM →
      Calls Try.prog 28 #[.pointer (some ⟨g, 0, none⟩)] w' fun e w'' => ∃ v', e = .returned v' ∧ OwnC w'' w'.heap.size v' (Ed.ofL (prM MM a.length) 0 0 a.length b.length) ∧ Below w'.heap.size w' w'') := hid (fun w' g gm hb hG hm => pscript_any (hv.below hb) (hu.below hb) hla hlb hG hm HML.out HMW.out (by rw [hMM]; exact hrise))
  rw [← hMM]
  clear hH hT hE hrise hv hu hMM HML HMW
  obtain ⟨NA, hNA⟩ : ∃ NA, NA = a.length := ⟨_, rfl⟩
  obtain ⟨NB, hNB⟩ : ∃ NB, NB = b.length := ⟨_, rfl⟩
  rw [← hNA, ← hNB] at HSE HSC
  rw [← hNA] at HL1 hla ⊢
  rw [← hNB] at HL2 hlb ⊢
  have hmk := mkN NA (by omega)
  obtain ⟨Z, hZ⟩ : ∃ Z, Z = (isC (List.replicate NA 0)).toArray := ⟨_, rfl⟩
  rw [← hZ] at hmk
  obtain ⟨w2, hw2⟩ : ∃ w2, w2 = (w.alloc (.cells Z 3)).alloc (pairC (.slice av NA cv) (.slice au NB cu) (.slice (some ⟨w.heap.size, 0, none⟩) NA NA) (.map none) (.slice none 0 0)) := ⟨_, rfl⟩
  have hb2 : Below w.heap.size w w2 := by rw [hw2]; exact ((Below.refl _ _).alloc (Nat.le_refl _) _).alloc (by simp) _
  have e0 : IlR w2 w.heap.size (noneAt NA 0) := by
    rw [hw2]
    show _ = _
    unfold noneAt
    rw [List.replicate_zero, List.nil_append, Nat.sub_zero, ← hZ]
    exact ((Below.refl _ _).alloc (Nat.le_refl _) _ |>.block w.heap.size (by simp)).trans (heap_alloc_new w _)
  have e1 : w2.heap[w.heap.size + 1]? = some (pairC (.slice av NA cv) (.slice au NB cu) (.slice (some ⟨w.heap.size, 0, none⟩) NA NA) (.map none) (.slice none 0 0)) := by
    rw [hw2]
    have := heap_alloc_new (w.alloc (.cells Z 3)) (pairC (.slice av NA cv) (.slice au NB cu) (.slice (some ⟨w.heap.size, 0, none⟩) NA NA) (.map none) (.slice none 0 0))
    simpa using this
  have HW2 := hid hw2
  have HB2 := hid hb2
  have HE0 := hid e0
  have HE1 := hid e1
  clear hw2 hb2 e0 e1 hZ hNA hNB
  go_enter Try.func16, Try.ntmps16
  go_wp2_with (go_at_call 22; first | (refine HL1.out.mono ?_; rintro e w1 ⟨rfl, hw1⟩; rw [hw1]; clear hw1 w1) | (refine HL2.out.mono ?_; rintro e w1 ⟨rfl, hw1⟩; rw [hw1]; clear hw1 w1))
  rw [← HW2.out]
  have HS2 : Hid (w2.heap.size = w.heap.size + 2) := hid (by rw [HW2.out]; simp)
  obtain ⟨gm, hgm⟩ : ∃ gm, gm = w.heap.size := ⟨_, rfl⟩
  have HGM := hid hgm
  rw [← hgm] at HE0 HE1
  rw [← hgm]
  have hgmx : gm < w2.heap.size := by have := HS2.out; omega
  have hgx : gm + 1 < w2.heap.size := by have := HS2.out; omega
  clear hgm hmk HL1 HL2 HW2
  go_loopw [6, 22] (fun _ ii wr => ∃ k : Nat, k ≤ NA ∧ ii = .int .i64 k ∧ Hid (IlR wr gm (noneAt NA k)) ∧ Hid (Kept (fun j => j = gm) w2 wr)) (fun _ ii _ => NA - (intOf ii).toNat)
  case atStart => exact ⟨0, Nat.zero_le _, rfl, HE0, hid (Kept.refl _ _)⟩
  case round =>
    obtain ⟨k, hk, rfl, HR, HK⟩ := hrel
    have hEr : wr.heap[gm + 1]? = _ := (HK.out.block (gm + 1) hgx (by omega)).trans HE1.out
    have HEr := hid hEr
    have c2 : wr.cell? ⟨gm + 1, 2, none⟩ = some (.slice (some ⟨gm, 0, none⟩) NA NA) := cell_of_blk hEr 2
    clear hEr
    by_cases hlt : k < NA
    · have i1 : (0 : Int) ≤ (k : Int) := by omega
      have i2 : (k : Int) < (NA : Int) := by omega
      have i3 : IntKind.i64.wrap ((k : Int) + 1) = (k : Int) + 1 := by rw [IntKind.wrap_i64]; omega
      obtain ⟨z, hz⟩ : ∃ z, (noneAt NA k)[k]? = some z := ⟨_, List.getElem?_eq_getElem (by rw [noneAt_len hk]; exact hlt)⟩
      have c0 := HR.out.cell hz
      have mf := fun o => HR.out.frozen o
      have HR2 : Hid (IlR (wr.setCell ⟨gm, k, none⟩ (.int .i64 (-1))) gm (noneAt NA (k + 1))) := hid (by rw [← noneAt_set hlt]; exact HR.out.set k (-1))
      have HK2 : Hid (Kept (fun j => j = gm) w2 (wr.setCell ⟨gm, k, none⟩ (.int .i64 (-1)))) := hid (HK.out.set rfl _)
      clear hz
      go_wp2
      go_roundw
      case rel => exact ⟨k + 1, by omega, by push_cast; rfl, HR2, HK2⟩
      case measure => simp [intOf]; omega
    · obtain rfl : k = NA := by omega
      have HBr : Hid (Below w.heap.size w wr) := hid (HB2.out.trans (HK.out.below (fun j e => by rw [e, HGM.out]; exact Nat.le_refl _) HB2.out.size))
      have HC1 := hid (HSE.out wr (gm + 1) gm HBr.out (by have := HGM.out; omega) (by have := HGM.out; omega) (by omega) HEr.out (by have h := HR.out; rw [noneAt_all] at h; exact h))
      clear c2
      go_wp2_with fail
      refine HC1.out.mono ?_
      rintro e w5 ⟨rfl, hM5, hK5⟩
      have HM5 := hid hM5
      have HB5 : Hid (Below w.heap.size w w5) := hid (HBr.out.trans (hK5.below (fun j e => by rw [e, HGM.out]; exact Nat.le_refl _) HBr.out.size))
      have HE5 : Hid (w5.heap[gm + 1]? = _) := hid ((hK5.block (gm + 1) (lt_of_heap HEr.out) (by omega)).trans HEr.out)
      have HC2 := hid (HSC.out w5 (gm + 1) gm HB5.out HE5.out HM5.out)
      clear hM5 hK5 HC1
      go_wp2_with fail
      refine HC2.out.mono ?_
      rintro e w6 ⟨v6, rfl, hO6, hB6⟩
      have HO6 := hid hO6
      have HB6 := hid hB6
      clear hO6 hB6
      go_wp2
      go_ret
      exact ⟨_, rfl, own_mono HO6.out HB5.out.size, HB5.out.trans (HB6.out.mono HB5.out.size)⟩
end Go.Proofs.Ytdilmgcdebobaaa
