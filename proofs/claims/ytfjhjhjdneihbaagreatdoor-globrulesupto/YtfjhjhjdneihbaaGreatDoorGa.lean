/-
  The walks of a set's flags: is a byte's set, with a range's set too, just the others.
-/
import Derived.Test.YtfjhjhjdneihbaaGreatDoorG0
namespace Go.Proofs.YtfjhjhjdneihbaaGreatDoor
open Go.RowKit

theorem cell_of_blk {w : World} {b : Nat} {cs : Array Value} {t : TypeId} (h : w.heap[b]? = some (.cells cs t (0, 0))) (j : Nat) : w.cell? ⟨b, j, none⟩ = cs[j]? := by simp [World.cell?, h]
theorem free_of_blk {w : World} {b : Nat} {cs : Array Value} {t : TypeId} (h : w.heap[b]? = some (.cells cs t (0, 0))) (j : Nat) : w.frozen? ⟨b, j, none⟩ = false := by simp [World.frozen?, h]

/-- a set as the cells and as the value that the program holds -/
def flC (f : UInt8 → Bool) : Array Value := #[.int .u64 (wd f 0), .int .u64 (wd f 1), .int .u64 (wd f 2), .int .u64 (wd f 3)]
abbrev flV (f : UInt8 → Bool) : Value := .agg (flC f)
theorem flC_at (f : UInt8 → Bool) (j : Nat) (h : j < 4) : (flC f)[j]? = some (.int .u64 (wd f j)) := by
  match j, h with
  | 0, _ => rfl
  | 1, _ => rfl
  | 2, _ => rfl
  | 3, _ => rfl
/-- a set's words lie there -/
def FlAt (w : World) (b o : Nat) (f : UInt8 → Bool) : Prop := ∀ j : Nat, j < 4 → w.cell? ⟨b, o + j, none⟩ = some (.int .u64 (wd f j))
theorem flC_set (f : UInt8 → Bool) (c : Nat) (hc : c < 256) : (flC f).setIfInBounds (c / 64) (.int .u64 (wd (Pg.or2 f (Pg.bt c c)) (c / 64))) = flC (Pg.or2 f (Pg.bt c c)) := by
  have h4 : c / 64 < 4 := by omega
  have ho := fun j hj h => wd_other f c j hj h
  generalize hj : c / 64 = j at h4 ho
  match j, h4 with
  | 0, _ => simp only [flC]; rw [ho 1 (by omega) (by omega), ho 2 (by omega) (by omega), ho 3 (by omega) (by omega)]; rfl
  | 1, _ => simp only [flC]; rw [ho 0 (by omega) (by omega), ho 2 (by omega) (by omega), ho 3 (by omega) (by omega)]; rfl
  | 2, _ => simp only [flC]; rw [ho 0 (by omega) (by omega), ho 1 (by omega) (by omega), ho 3 (by omega) (by omega)]; rfl
  | 3, _ => simp only [flC]; rw [ho 0 (by omega) (by omega), ho 1 (by omega) (by omega), ho 2 (by omega) (by omega)]; rfl

set_option maxHeartbeats 1000000 in
theorem has_any (b o : Nat) (f : UInt8 → Bool) (c : UInt8) (w : World) (h : FlAt w b o f) :
    Calls Tryz.prog 48 #[.pointer (some ⟨b, o, none⟩), .int .u8 c.toNat] w fun e w' => e = .returned (.bool (f c)) ∧ w' = w := by
  have hc := c.toNat_lt
  have hcell := h (c.toNat / 64) (by omega)
  have HB : Hid ((bits .and .u64 ((wd f (c.toNat / 64) : Int) / 2 ^ (c.toNat % 64)) 1 == 1) = f c) := hid (by
    have h1 := bit_has f c
    have h2 : ((wd f (c.toNat / 64) : Int) / 2 ^ (c.toNat % 64)) = ((wd f (c.toNat / 64) / 2 ^ (c.toNat % 64) : Nat) : Int) := by simp
    rw [h2, h1]
    cases f c <;> rfl)
  go_enter Tryz.func48, Tryz.ntmps48
  go_wp2
  go_ret
  exact ⟨ret_bool HB.out, rfl⟩

/-- the bytes from lo on below hi -/
def rg (lo hi : Nat) : UInt8 → Bool := fun x => decide (lo ≤ x.toNat) && decide (x.toNat < hi)
theorem rg_none (f : UInt8 → Bool) (lo : Nat) : Pg.or2 f (rg lo lo) = f := by
  funext x
  have : rg lo lo x = false := by
    unfold rg
    rw [Bool.eq_false_iff]
    simp only [ne_eq, Bool.and_eq_true, decide_eq_true_eq]
    omega
  unfold Pg.or2
  rw [this, Bool.or_false]
theorem rg_snoc (f : UInt8 → Bool) (lo c : Nat) (h : lo ≤ c) : Pg.or2 (Pg.or2 f (rg lo c)) (Pg.bt c c) = Pg.or2 f (rg lo (c + 1)) := by
  funext x
  simp only [Pg.or2, Pg.bt, rg, Bool.or_assoc]
  congr 1
  rw [Bool.eq_iff_iff]
  simp only [Bool.or_eq_true, Bool.and_eq_true, decide_eq_true_eq]
  omega
theorem rg_all (f : UInt8 → Bool) (lo hi c : UInt8) (n : Nat) (h : hi.toNat < n) (h2 : n ≤ hi.toNat + 1 ∨ n = lo.toNat) : Pg.or2 f (rg lo.toNat n) c = Pg.addR f lo hi c := by
  simp only [Pg.or2, Pg.addR, Pg.bt, rg]
  congr 1
  rw [Bool.eq_iff_iff]
  simp only [Bool.and_eq_true, decide_eq_true_eq]
  omega

set_option maxHeartbeats 2000000 in
theorem with_any (f : UInt8 → Bool) (lo hi : UInt8) (w : World) :
    Calls Tryz.prog 75 #[flV f, .int .u8 lo.toNat, .int .u8 hi.toNat] w fun e w' => e = .returned (flV (Pg.addR f lo hi)) ∧ Below w.heap.size w w' := by
  have hlo := lo.toNat_lt
  have hhi := hi.toNat_lt
  go_enter Tryz.func75, Tryz.ntmps75
  go_wp2
  go_loopw [7] (fun i wr => ∃ k : Nat, lo.toNat ≤ k ∧ k ≤ 256 ∧ (k = lo.toNat ∨ k ≤ hi.toNat + 1) ∧ i = .int .i64 k ∧ Below w.heap.size w wr ∧ wr.heap[w.heap.size]? = some (.cells (flC (Pg.or2 f (rg lo.toNat k))) 102 (0, 0)) ∧ wr.heap[w.heap.size + 1]? = some (.cells (flC Pg.no) 102 (0, 0))) (fun i _ => 256 - (intOf i).toNat)
  case atStart =>
    refine ⟨lo.toNat, Nat.le_refl _, by omega, .inl rfl, rfl, ((Below.refl _ _).alloc (Nat.le_refl _) _).alloc (by simp) _, ?_, ?_⟩
    · rw [rg_none]
      rw [Below.heap_alloc _ _ _ (by simp)]
      exact heap_alloc_new _ _
    · have e : (w.alloc (.cells (flC f) 102)).heap.size = w.heap.size + 1 := by simp
      rw [← e]
      rw [show flC Pg.no = #[.int .u64 0, .int .u64 0, .int .u64 0, .int .u64 0] by simp [flC, wd_no]]
      exact heap_alloc_new _ _
  case round =>
    obtain ⟨k, h1, h2, h3, rfl, hb, hB, hC⟩ := hrel
    by_cases hlt : k ≤ hi.toNat
    · have hcell : wr.cell? ⟨w.heap.size, k / 64, none⟩ = some (.int .u64 (wd (Pg.or2 f (rg lo.toNat k)) (k / 64))) := (cell_of_blk hB _).trans (flC_at _ _ (by omega))
      have hfree : wr.frozen? ⟨w.heap.size, k / 64, none⟩ = false := free_of_blk hB _
      have HBl := hid hB
      clear hB
      have hk0 : (0 : Int) ≤ (k : Int) / 64 := by omega
      have hk4 : (k : Int) / 64 < 4 := by omega
      go_wp2
      go_region
      all_goals go_wp2
      have hw : IntKind.u64.wrap (2 ^ (k % 64)) = ((2 ^ (k % 64) : Nat) : Int) := by
        have := pow_lt64 (k % 64) (by omega)
        have e : ((2 ^ (k % 64) : Nat) : Int) = (2 : Int) ^ (k % 64) := by simp
        rw [← e, IntKind.wrap_u64]
        exact Int.emod_eq_of_lt (Int.natCast_nonneg _) (Int.ofNat_lt.2 this)
      rw [hw, bits_or_wd _ _ (by omega)]
      go_roundw
      case rel =>
        refine ⟨k + 1, by omega, by omega, by omega, by go_num, (hb.setCell (Nat.le_refl _) _).drew, ?_, ?_⟩
        · show (wr.setCell _ _).heap[w.heap.size]? = _
          rw [heap_setCell_same _ _ _ _ _ _ HBl.out, flC_set _ _ (by omega), rg_snoc _ _ _ h1]
        · show (wr.setCell _ _).heap[w.heap.size + 1]? = _
          rw [heap_setCell_other _ _ _ _ (by simp)]
          exact hC
      case measure => simp [intOf]; omega
    · have hc0 := cell_of_blk hB 0
      have hc1 := cell_of_blk hB 1
      have hc2 := cell_of_blk hB 2
      have hc3 := cell_of_blk hB 3
      have hd0 := cell_of_blk hC 0
      have hd1 := cell_of_blk hC 1
      have hd2 := cell_of_blk hC 2
      have hd3 := cell_of_blk hC 3
      have hf0 := free_of_blk hC 0
      have hf1 := free_of_blk hC 1
      have hf2 := free_of_blk hC 2
      have hf3 := free_of_blk hC 3
      simp only [flC] at hc0 hc1 hc2 hc3 hd0 hd1 hd2 hd3
      clear hB hC
      go_wp2
      have hF : flC (Pg.or2 f (rg lo.toNat k)) = flC (Pg.addR f lo hi) := by
        rw [show Pg.or2 f (rg lo.toNat k) = Pg.addR f lo hi from funext fun c => rg_all f lo hi c k (by omega) (by omega)]
      refine bodyPost_ret (v := flV (Pg.or2 f (rg lo.toNat k))) (by simp [results, Tryz.results75, go_sem, flC, hd0, hd1, hd2, hd3]) rfl ⟨by rw [flV, hF], ?_⟩
      exact (((hb.setCell (by simp) _).setCell (by simp) _).setCell (by simp) _).setCell (by simp) _
end Go.Proofs.YtfjhjhjdneihbaaGreatDoor
