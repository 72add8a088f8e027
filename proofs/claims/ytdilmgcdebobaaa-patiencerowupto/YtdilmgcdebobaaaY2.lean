/-
  The walks of settle and Diff, where nothing is left between the common ends.
-/
import Derived.Test.YtdilmgcdebobaaaY1
import Derived.Deep.RegionHeld3
namespace Go.Proofs.Ytdilmgcdebobaaa
open Go.RowKit
open Ed (Ch Run Pr)

theorem cell1 {w : World} {g j k o : Nat} {v : Value} (h : j ≠ g) : (w.setCell ⟨g, k, none⟩ v).cell? ⟨j, o, none⟩ = w.cell? ⟨j, o, none⟩ := by
  unfold World.cell?
  rw [set_other w h]
theorem cell4 {w : World} {g j o : Nat} {v0 v1 v2 v3 : Value} (h : j ≠ g) : ((((w.setCell ⟨g, 0, none⟩ v0).setCell ⟨g, 1, none⟩ v1).setCell ⟨g, 2, none⟩ v2).setCell ⟨g, 3, none⟩ v3).cell? ⟨j, o, none⟩ = w.cell? ⟨j, o, none⟩ :=
  (cell1 h).trans ((cell1 h).trans ((cell1 h).trans (cell1 h)))

set_option maxHeartbeats 4000000 in
set_option maxRecDepth 100000 in
theorem settle_flat {w0 w : World} {g gm : Nat} {va vb pm pp : Value} {a b m : List Int} (hv : RdI w0 va a) (hu : RdI w0 vb b) (hla : a.length ≤ 4194304) (hlb : b.length ≤ 4194304) (hB : Below w0.heap.size w0 w) (hg : w0.heap.size ≤ g) (hgm : w0.heap.size ≤ gm) (hne : g ≠ gm)
    (hG : w.heap[g]? = some (pairC va vb (.slice (some ⟨gm, 0, none⟩) a.length a.length) pm pp)) (hm : IlR w gm m) (hml : m.length = a.length)
    (H T : Nat) (hH : H = hdN a b (min a.length b.length) 0 0) (hT : T = tlN a b (min (a.length - H) (b.length - H)) a.length b.length) (hE : H = a.length - T ∨ H = b.length - T) :
    Calls Try.prog 27 #[.pointer (some ⟨g, 0, none⟩)] w fun e w' => e = .returned (.tuple #[]) ∧ IlR w' gm (dnM (upM m 0 0 H) a.length b.length T) ∧ Kept (fun j => j = gm) w w' := by
  obtain ⟨av, cv, rfl⟩ := hv.shape
  obtain ⟨au, cu, rfl⟩ := hu.shape
  have HTR : Hid (∀ w', Below w.heap.size w w' → Calls Try.prog 41 #[.pointer (some ⟨g, 0, none⟩), .agg #[.int .i64 0, .int .i64 0, .int .i64 a.length, .int .i64 b.length]] w' fun e w'' =>
      e = .returned (.agg #[.int .i64 H, .int .i64 H, .int .i64 (a.length - T : Nat), .int .i64 (b.length - T : Nat)]) ∧ IlR w'' gm (dnM (upM m 0 0 H) a.length b.length T) ∧ Kept (fun j => j = gm) w' w'' ∧ w''.cell? ⟨g, 0, none⟩ = some (.slice av a.length cv) ∧ w''.cell? ⟨g, 1, none⟩ = some (.slice au b.length cu) ∧ Kept (fun j => j = gm) w w'' ∧ (∀ o, w.heap.size < w'.heap.size → w''.cell? ⟨w.heap.size, o, none⟩ = w'.cell? ⟨w.heap.size, o, none⟩) ∧ (∀ o, w.heap.size < w'.heap.size → w''.frozen? ⟨w.heap.size, o, none⟩ = w'.frozen? ⟨w.heap.size, o, none⟩)) := hid (fun w' hb => by
    have h := trim_any (x := 0) (y := 0) hv hu hla hlb (hB.trans (hb.mono hB.size)) hg hgm hne ((hb.block g (lt_of_heap hG)).trans hG) (hm.far (hb.block gm hm.lt)) hml (Nat.zero_le _) (Nat.le_refl _) (Nat.zero_le _) (Nat.le_refl _) H T (by simpa using hH) (by simpa using hT)
    simp only [Nat.zero_add] at h
    refine h.mono ?_
    rintro e w'' ⟨rfl, h1, h2⟩
    have k : w'.heap[g]? = _ := (hb.block g (lt_of_heap hG)).trans hG
    have k2 : w''.heap[g]? = _ := (h2.block g (lt_of_heap k) hne).trans k
    exact ⟨rfl, h1, h2, cell_of_blk k2 0, cell_of_blk k2 1, (Kept.of_below hb).step h2 (fun j e => .inl e), fun o hl => h2.cell hl (fun e => by have := hm.lt; omega), fun o hl => by unfold World.frozen?; rw [h2.block _ hl (fun e => by have := hm.lt; omega)]⟩)
  have hgl := lt_of_heap hG
  have hgw : g ≠ w.heap.size := Nat.ne_of_lt hgl
  have hmw : ¬ (w.heap.size = gm) := fun e => by have := hm.lt; omega
  have p0 := cell_of_blk hG 0
  have p1 := cell_of_blk hG 1
  simp only [List.getElem?_toArray, List.getElem?_cons_zero, List.getElem?_cons_succ] at p0 p1
  have HE := hid hE
  obtain ⟨NA, hNA⟩ : ∃ NA, NA = a.length := ⟨_, rfl⟩
  obtain ⟨NB, hNB⟩ : ∃ NB, NB = b.length := ⟨_, rfl⟩
  rw [← hNA, ← hNB] at HTR
  rw [← hNA] at p0 HE ⊢
  rw [← hNB] at p1 HE ⊢
  obtain ⟨EA, hEA⟩ : ∃ EA, EA = NA - T := ⟨_, rfl⟩
  obtain ⟨EB, hEB⟩ : ∃ EB, EB = NB - T := ⟨_, rfl⟩
  rw [← hEA, ← hEB] at HTR HE
  have HIE : Hid (∀ w', Calls Try.prog 42 #[.agg #[.int .i64 H, .int .i64 H, .int .i64 EA, .int .i64 EB]] w' fun e w'' => e = .returned (.bool true) ∧ Below w'.heap.size w' w'') := hid (fun w' => by
    have h := isEmpty_any (w := w') H H EA EB
    rw [decide_eq_true HE.out] at h
    exact h)
  clear hv hu hB hG hm hml hH hT hE hNA hNB hEA hEB
  go_enter Try.func27, Try.ntmps27
  go_wp2_with fail
  go_region_held3 (fun w' => w'.cell? ⟨g, 0, none⟩ = some (.slice av NA cv) ∧ w'.cell? ⟨g, 1, none⟩ = some (.slice au NB cu))
    (first
      | go_keep
      | (with_reducible exact ⟨f0, f1⟩)
      | (with_reducible exact ⟨(((Below.refl _ w3).alloc (Nat.le_refl _) _).cell (p := ⟨g, 0, none⟩) (lt_of_cell f0)).trans f0, (((Below.refl _ w3).alloc (Nat.le_refl _) _).cell (p := ⟨g, 1, none⟩) (lt_of_cell f1)).trans f1⟩)
      | (with_reducible exact ⟨(cell4 hgw).trans f0, (cell4 hgw).trans f1⟩))
    (first
      | (go_at_call 41; refine (HTR.out _ (by first | exact (Below.refl _ _).drew | exact ((Below.refl _ _).drew).alloc (by simp) _)).mono ?_; rintro e w3 ⟨rfl, hM3, hbk, f0, f1, hK3, n0, nf⟩; have HM3 := hid hM3; have HK3 := hid hK3; clear hM3 hK3))
  · have HB4 : Hid (Below w3.heap.size w3 (w3.alloc (Obj.cells #[.int .i64 H, .int .i64 H, .int .i64 EA, .int .i64 EB] 40))) := hid ((Below.refl _ _).alloc (Nat.le_refl _) _)
    go_wp2_with (go_at_call 42; refine (HIE.out _).mono ?_; rintro e w5 ⟨rfl, hb5⟩; have HB5 := hid (HB4.out.trans (hb5.mono HB4.out.size)); clear hb5)
    refine bodyPost_ret (v := .tuple #[]) (by simp [results, Try.results27]) rfl ⟨rfl, HM3.out.far (HB5.out.block gm HM3.out.lt), HK3.out.step (Kept.of_below (X := fun _ => False) HB5.out) (fun _ e => e.elim)⟩
  · have HK4 : Hid (Kept (fun j => j = gm ∨ j = w.heap.size) w ((((w3.setCell ⟨w.heap.size, 0, none⟩ (.int .i64 H)).setCell ⟨w.heap.size, 1, none⟩ (.int .i64 H)).setCell ⟨w.heap.size, 2, none⟩ (.int .i64 EA)).setCell ⟨w.heap.size, 3, none⟩ (.int .i64 EB))) := hid (by
      have k1 : Kept (fun j => j = gm ∨ j = w.heap.size) w w3 := ⟨HK3.out.os, HK3.out.tape, HK3.out.output, HK3.out.size, fun j hj hx => HK3.out.block j hj (fun e => hx (.inl e))⟩
      exact (((k1.set (.inr rfl) _).set (.inr rfl) _).set (.inr rfl) _).set (.inr rfl) _)
    have HM4 : Hid (IlR ((((w3.setCell ⟨w.heap.size, 0, none⟩ (.int .i64 H)).setCell ⟨w.heap.size, 1, none⟩ (.int .i64 H)).setCell ⟨w.heap.size, 2, none⟩ (.int .i64 EA)).setCell ⟨w.heap.size, 3, none⟩ (.int .i64 EB)) gm (dnM (upM m 0 0 H) NA NB T)) := hid ((((HM3.out.far (set_other _ (fun e => hmw e.symm))).far (set_other _ (fun e => hmw e.symm))).far (set_other _ (fun e => hmw e.symm))).far (set_other _ (fun e => hmw e.symm)))
    go_wp2_with (go_at_call 42; refine (HIE.out _).mono ?_; rintro e w5 ⟨rfl, hb5⟩; have HB5 := hid hb5; clear hb5)
    refine bodyPost_ret (v := .tuple #[]) (by simp [results, Try.results27]) rfl ⟨rfl, HM4.out.far (HB5.out.block gm HM4.out.lt), ?_⟩
    have k := HK4.out.step (Kept.of_below (X := fun _ => False) HB5.out) (fun _ e => e.elim)
    exact ⟨k.os, k.tape, k.output, k.size, fun j hj hx => k.block j hj (fun e => by rcases e with e | e; exact hx e; omega)⟩
end Go.Proofs.Ytdilmgcdebobaaa
