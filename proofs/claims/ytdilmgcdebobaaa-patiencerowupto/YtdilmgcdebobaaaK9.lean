/-
  Rows of marks; the walk of change.
-/
import Derived.Test.YtdilmgcdebobaaaK8
namespace Go.Proofs.Ytdilmgcdebobaaa
open Go.RowKit
open Ed (Ch Run Pr)

/-- a row of marks that is the program's own -/
def BlR (w : World) (g : Nat) (l : List Bool) : Prop := w.heap[g]? = some (.cells (bsC l).toArray 4)
theorem BlR.lt {w : World} {g : Nat} {l : List Bool} (h : BlR w g l) : g < w.heap.size := lt_of_heap h
theorem BlR.far {w w' : World} {g : Nat} {l : List Bool} (h : BlR w g l) (hb : w'.heap[g]? = w.heap[g]?) : BlR w' g l := hb.trans h
theorem BlR.cell {w : World} {g k : Nat} {l : List Bool} {v : Bool} (h : BlR w g l) (hk : l[k]? = some v) : w.cell? ⟨g, k, none⟩ = some (.bool v) := by
  refine (cell_of_blk h k).trans ?_
  rw [List.getElem?_toArray]
  unfold bsC
  rw [List.getElem?_map, hk]; rfl
theorem BlR.frozen {w : World} {g : Nat} {l : List Bool} (h : BlR w g l) (o : Nat) : w.frozen? ⟨g, o, none⟩ = false := frozen_of_blk h o
theorem BlR.set {w : World} {g : Nat} {l : List Bool} (h : BlR w g l) (k : Nat) (v : Bool) : BlR (w.setCell ⟨g, k, none⟩ (.bool v)) g (l.set k v) := by
  have h1 := set_heap w g k _ _ (.bool v) h
  unfold BlR
  rw [h1]
  congr 2
  apply Array.ext'
  unfold bsC
  rw [Array.toList_setIfInBounds, List.map_set]
theorem BlR.rd {w : World} {g c : Nat} {l : List Bool} (h : BlR w g l) (hc : l.length ≤ c) : RdB w (.slice (some ⟨g, 0, none⟩) l.length c) l := by
  refine .inr ⟨g, 0, c, rfl, hc, h.lt, fun j u hj => ?_⟩
  rw [Nat.zero_add]
  refine (cell_of_blk h j).trans ?_
  rw [List.getElem?_toArray]; exact hj
/-- marks at these places -/
def mkl (C : List Bool) (l : List Int) : List Bool := l.foldl (fun c p => c.set p.toNat true) C
theorem mkl_len : ∀ (l : List Int) (C : List Bool), (mkl C l).length = C.length
  | [], C => rfl
  | p :: l, C => by
    show (mkl (C.set p.toNat true) l).length = _
    rw [mkl_len l, List.length_set]
theorem mkl_snoc (C : List Bool) (l : List Int) (p : Int) : mkl C (l ++ [p]) = (mkl C l).set p.toNat true := by unfold mkl; rw [List.foldl_append]; rfl
theorem mkl_app (C : List Bool) (l m : List Int) : mkl C (l ++ m) = mkl (mkl C l) m := by unfold mkl; rw [List.foldl_append]
theorem take_snoc {l : List Int} {k : Nat} {x : Int} (h : l[k]? = some x) : l.take (k + 1) = l.take k ++ [x] := by
  rw [List.take_add_one, h]; rfl

set_option maxHeartbeats 4000000 in
set_option maxRecDepth 100000 in
theorem change_any {w : World} {g gc cc x n : Nat} {vn vp : Value} {P : List Int} {C : List Bool} (hS : w.heap[g]? = some (.cells #[vn, vp, .slice (some ⟨gc, 0, none⟩) C.length cc] 128)) (hP : RdI w vp P) (hB : BlR w gc C) (hxn : x + n ≤ P.length) (hPl : P.length ≤ 10000000)
    (hin : ∀ p ∈ P, 0 ≤ p ∧ p < C.length) (hg : g ≠ gc) (hvp : ∀ b o n c, vp = .slice (some ⟨b, o, none⟩) n c → b ≠ gc) :
    Calls Try.prog 90 #[.pointer (some ⟨g, 0, none⟩), .int .i64 (x : Int), .int .i64 (n : Int)] w fun e w' => e = .returned (.tuple #[]) ∧ Kept (fun j => j = gc) w w' ∧ BlR w' gc (mkl C ((P.drop x).take n)) := by
  obtain ⟨ap, cp, rfl⟩ := hP.shape
  obtain ⟨E, hE⟩ : ∃ E, E = x + n := ⟨_, rfl⟩
  obtain ⟨A, hA⟩ : ∃ A, (if cp = x then ap else ap.map (·.add x)) = A := ⟨_, rfl⟩
  have hpc := rd_cap hP
  have hnE : n = E - x := by omega
  rw [hnE]
  obtain ⟨Q, hQe⟩ : ∃ Q, Q = (P.drop x).take (E - x) := ⟨_, rfl⟩
  have hQl : Q.length = E - x := by rw [hQe, List.length_take, List.length_drop]; omega
  have HIN : Hid (∀ p ∈ Q, 0 ≤ p ∧ p < C.length) := hid (fun p hp => hin p (by rw [hQe] at hp; exact List.mem_of_mem_drop (List.mem_of_mem_take hp)))
  have HQK : Hid (∀ w', Kept (fun j => j = gc) w w' → RdI w' (.slice A (E - x) (cp - x)) Q) := hid (fun w' hk => by
    have h := rdI_part (hP.kept hk (fun b o h => hvp b o _ _ (by rw [h]))) rfl (x := x) (y := E) (by omega) (by omega)
    rw [hA, ← hQe] at h
    exact h)
  rw [← hQe]
  have s1 : w.cell? ⟨g, 1, none⟩ = some (.slice ap P.length cp) := cell_of_blk hS 1
  have hgl := lt_of_heap hS
  have HS := hid hS
  have HB := hid hB
  have i0 : IntKind.i64.wrap ((x : Int) + ((E - x : Nat) : Int)) = (E : Int) := (wrapOk (by omega) (by omega)).trans (by omega)
  have i1 : (0 : Int) ≤ (x : Int) := by omega
  have i2 : (x : Int) ≤ (E : Int) := by omega
  have i3 : (E : Int) ≤ (P.length : Int) := by omega
  have i4 : (E : Int) ≤ (cp : Int) := by omega
  have HQL := hid hQl
  have hEx : E - x ≤ 10000000 := by omega
  clear hS hP hB hin hvp hQe hE hnE hxn hQl
  go_enter Try.func90, Try.ntmps90
  go_wp2
  clear s1 i0 i1 i2 i3 i4 hA
  generalize hLe : E - x = L at *
  generalize hCe : cp - x = c2 at *
  clear hLe hCe
  go_loopw [18] (fun i wr => ∃ k : Nat, k ≤ L ∧ i = .int .i64 k ∧ Hid (Kept (fun j => j = gc) w wr) ∧ Hid (BlR wr gc (mkl C (Q.take k)))) (fun i _ => L - (intOf i).toNat)
  case atStart => exact ⟨0, Nat.zero_le _, rfl, hid (Kept.refl _ _), HB⟩
  case round =>
    obtain ⟨k, hk, rfl, HK, HC⟩ := hrel
    by_cases hlt : k < L
    · obtain ⟨y, hy⟩ : ∃ y, Q[k]? = some y := ⟨_, List.getElem?_eq_getElem (by rw [HQL.out]; exact hlt)⟩
      obtain ⟨hy0, hy1⟩ := HIN.out y (List.mem_of_getElem? hy)
      obtain ⟨b1, o1, rfl, _, d1⟩ := rdI_at (HQK.out wr HK.out) hy
      have hsb := (HK.out.block g hgl hg).trans HS.out
      have s2 : wr.cell? ⟨g, 2, none⟩ = some (.slice (some ⟨gc, 0, none⟩) C.length cc) := cell_of_blk hsb 2
      have HTS := hid (take_snoc hy)
      obtain ⟨z, rfl⟩ : ∃ z : Nat, y = (z : Int) := ⟨y.toNat, by omega⟩
      obtain ⟨u, hu⟩ : ∃ u, (mkl C (Q.take k))[z]? = some u := ⟨_, List.getElem?_eq_getElem (by rw [mkl_len]; omega)⟩
      have c1 := HC.out.cell hu
      have cf := HC.out.frozen z
      have HN := hid (HC.out.set z true)
      have HE : Hid (mkl C (Q.take (k + 1)) = (mkl C (Q.take k)).set z true) := hid (by rw [HTS.out, mkl_snoc]; rfl)
      rw [← HE.out] at HN
      have HKN := hid (HK.out.set (g := gc) (k := z) rfl (.bool true))
      have j0 : (k : Int) < (L : Int) := by omega
      have j1 : (0 : Int) ≤ (k : Int) := by omega
      have j2 : IntKind.i64.wrap ((k : Int) + 1) = (k : Int) + 1 := wrapOk (by omega) (by omega)
      clear hsb hy hu
      go_wp2
      go_roundw
      case rel => exact ⟨k + 1, by omega, by push_cast; rfl, HKN, HN⟩
      case measure => simp [intOf]; omega
    · obtain rfl : k = L := by omega
      have HE : Hid (Q.take k = Q) := hid (List.take_of_length_le (by rw [HQL.out]; exact Nat.le_refl _))
      go_wp2
      exact bodyPost_end (v := .tuple #[]) (by simp [results, Try.results90]) rfl ⟨rfl, HK.out, by have h := HC.out; rw [HE.out] at h; exact h⟩
end Go.Proofs.Ytdilmgcdebobaaa
