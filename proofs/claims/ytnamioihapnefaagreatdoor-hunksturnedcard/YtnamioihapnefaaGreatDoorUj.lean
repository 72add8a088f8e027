/-
  The walk of eachRun (hunks) where the function writes into the rows (made by wip/genuj.py).
-/
import Derived.Test.YtnamioihapnefaaGreatDoorLb
namespace Go.Proofs.YtnamioihapnefaaGreatDoor
open Go.RowKit
open Hu (Rw Hk)

/-- what holds between two rounds of eachRun, where the rows may change behind it -/
structure ErJ (I : List (Nat × Nat) → (Nat → Prop) → World → Prop) (l : List Rw) (F : FuncId) (caps : Array Value) (B fb tb k f : Nat) (w wr : World) (d : List (Nat × Nat)) (X : Nat → Prop) : Prop where
  runs : Hu.runsR l 0 0 = d ++ Hu.runsR (l.drop k) k f
  inv : I d X wr
  below : Below B w wr
  from_ : wr.heap[fb]? = some (.cells #[.int .i64 f] 3)
  take : wr.cell? ⟨tb, 0, none⟩ = some (.func (.func F) #[] caps)
  nf : ¬ X fb
  nt : ¬ X tb
  ends : ∀ r ∈ d, r.2 ≤ k
theorem ErJ.far {I : List (Nat × Nat) → (Nat → Prop) → World → Prop} {l : List Rw} {F : FuncId} {caps : Array Value} {B fb tb k f E : Nat} {w w0 wr w2 : World} {d : List (Nat × Nat)} {X : Nat → Prop} {rs : List (Nat × Nat)} (h : ErJ I l F caps B fb tb k f w wr d X) (hT : Takes F caps B E w0 rs I) (hb : Below wr.heap.size wr w2) (hB : B ≤ wr.heap.size) : ErJ I l F caps B fb tb k f w w2 d X :=
  ⟨h.runs, hT.far _ _ _ _ h.inv (Far.of_below hb), h.below.trans (hb.mono hB), (hb.block fb (lt_of_heap h.from_)).trans h.from_, (hb.cell (lt_of_cell h.take)).trans h.take, h.nf, h.nt, h.ends⟩
set_option maxHeartbeats 2000000 in
set_option maxRecDepth 100000 in
theorem hEachRun_in {w : World} {a : Option Addr} {c : Nat} {l : List Rw} {B : Nat} {F : FuncId} {caps : Array Value} {I : List (Nat × Nat) → (Nat → Prop) → World → Prop} (hrd : ∀ d X w1 k x, I d X w1 → (∃ rest, Hu.runsR l 0 0 = d ++ rest) → (∀ r ∈ d, r.2 ≤ k) → l[k]? = some x → ∃ b o, a = some ⟨b, o, none⟩ ∧ w1.cell? ⟨b, o + k * 2, none⟩ = some (.int .i64 x.k) ∧ w1.cell? ⟨b, o + k * 2 + 1, none⟩ = some (.string x.t)) (hB : B ≤ w.heap.size) (hl : l.length < 5864062014800) (hT : Takes F caps B w.heap.size w (Hu.runsR l 0 0) I) {X0 : Nat → Prop} (h0 : I [] X0 w) (hX0 : ∀ g, X0 g → g < w.heap.size) :
    Calls Tryz.prog 57 #[.slice a l.length c, .func (.func F) #[] caps] w fun e w' => e = .returned (.tuple #[]) ∧ Below B w w' ∧ ∃ X, I (Hu.runsR l 0 0) X w' := by
  have HRD := hid hrd
  have HT := hid hT
  have HI0 := hid h0
  have HX0 := hid hX0
  obtain ⟨n, hn⟩ : ∃ n, n = l.length := ⟨_, rfl⟩
  have HN := hid hn
  rw [← hn] at hl ⊢
  clear hrd hT h0 hX0 hn
  go_enter Tryz.func57, Tryz.ntmps57
  go_wp2_with fail
  obtain ⟨t1, t2, t3, t4⟩ := two' w (.cells #[.func (.func F) #[] caps] 97) (.cells #[.int .i64 0] 3)
  have hE0 : ErJ I l F caps B (w.heap.size + 1) w.heap.size 0 0 w ((w.alloc (.cells #[.func (.func F) #[] caps] 97)).alloc (.cells #[.int .i64 0] 3)) [] X0 :=
    ⟨rfl, HT.out.far _ _ _ _ HI0.out (Far.of_below t1), t1.mono hB, t3, cell_of_blk t2 0, (fun h => by have := HX0.out _ h; omega), (fun h => by have := HX0.out _ h; omega), (fun r hr => by cases hr)⟩
  have hsz : w.heap.size + 2 ≤ ((w.alloc (.cells #[.func (.func F) #[] caps] 97)).alloc (.cells #[.int .i64 0] 3)).heap.size := by rw [t4]; exact Nat.le_refl _
  generalize (w.alloc (.cells #[.func (.func F) #[] caps] 97)).alloc (.cells #[.int .i64 0] 3) = w1 at hE0 hsz ⊢
  clear t1 t2 t3 t4
  have HE0 := hid hE0
  clear hE0
  obtain ⟨tb, htb⟩ : ∃ tb, tb = w.heap.size := ⟨_, rfl⟩
  obtain ⟨fb, hfb⟩ : ∃ fb, fb = tb + 1 := ⟨_, rfl⟩
  have HTB := hid htb
  rw [← htb, ← hfb] at HE0 ⊢
  have HNE : Hid (fb ≠ tb ∧ tb ≤ fb) := hid (by omega)
  clear htb hfb
  go_loopw [11] (fun ii wr => ∃ (k f : Nat) (d : List (Nat × Nat)) (X : Nat → Prop), k ≤ n ∧ f ≤ k ∧ ii = .int .i64 k ∧ Hid (ErJ I l F caps B fb tb k f w wr d X) ∧ Hid (w.heap.size ≤ wr.heap.size)) (fun ii _ => n - (intOf ii).toNat)
  case atStart => exact ⟨0, 0, [], X0, Nat.zero_le _, Nat.le_refl _, rfl, HE0, hid (by omega)⟩
  case round =>
    obtain ⟨k, f, d, X, hk, hfk, rfl, HE, HS⟩ := hrel
    by_cases hlt : k < n
    · obtain ⟨x, hx⟩ : ∃ x, l[k]? = some x := ⟨_, List.getElem?_eq_getElem (by have := HN.out; omega)⟩
      obtain ⟨b1, o1, e1, d0, d1⟩ := HRD.out d X wr k x HE.out.inv ⟨_, HE.out.runs⟩ HE.out.ends hx
      subst e1
      have HR := hid HE.out.runs
      rw [dropW hx, Hu.runsR] at HR
      have i1 : (0 : Int) ≤ (k : Int) := by omega
      have i2 : (k : Int) < (n : Int) := by omega
      have HC1 := hid (fun w1 => isChanged_any x w1)
      unfold RwV at HC1
      have hbn := (Below.refl wr.heap.size wr).alloc (Nat.le_refl _) (.cells #[.int .i64 x.k, .string x.t] 63)
      have HE1 := hid (HE.out.far HT.out hbn (Nat.le_trans hB HS.out))
      have HS1 : Hid (w.heap.size ≤ (wr.alloc (.cells #[.int .i64 x.k, .string x.t] 63)).heap.size) := hid (Nat.le_trans HS.out hbn.size)
      clear hx hbn HE
      cases hq : Hu.isC x with
      | true =>
        rw [hq, if_pos rfl] at HR
        rw [hq] at HC1
        go_wp2_with fail
        refine (HC1.out _).mono ?_
        rintro e w2 ⟨rfl, h2⟩
        have HE2 := hid (HE1.out.far HT.out h2 (Nat.le_trans hB HS1.out))
        have HS2 := hid (Nat.le_trans HS1.out h2.size)
        clear h2
        go_wp2_with fail
        go_roundw
        case rel => exact ⟨k + 1, f, d, X, by omega, by omega, by go_num, hid ⟨HR.out, HE2.out.inv, HE2.out.below, HE2.out.from_, HE2.out.take, HE2.out.nf, HE2.out.nt, (fun r hr => Nat.le_succ_of_le (HE2.out.ends r hr))⟩, HS2⟩
        case measure => simp [intOf]; omega
      | false =>
        rw [hq, if_neg (by simp)] at HR
        rw [hq] at HC1
        go_wp2_with fail
        refine (HC1.out _).mono ?_
        rintro e w2 ⟨rfl, h2⟩
        have HE2 := hid (HE1.out.far HT.out h2 (Nat.le_trans hB HS1.out))
        have HS2 := hid (Nat.le_trans HS1.out h2.size)
        clear h2 HE1
        go_wp2_with fail
        refine (end_any (i := k) HT.out HE2.out.inv HE2.out.below hB (by omega) (by omega) HE2.out.from_ HE2.out.take (by have := HTB.out; have := HNE.out; omega) HNE.out.1 HE2.out.nf HE2.out.nt ⟨_, by rw [List.append_assoc]; exact HR.out⟩).mono ?_
        rintro e w3 ⟨rfl, hb3, hf3, ht3, X', hI3, hn1, hn2⟩
        have HE3 : Hid (ErJ I l F caps B fb tb (k + 1) (k + 1) w w3 (d ++ Hu.run1 f k) X') := hid ⟨by rw [HR.out, List.append_assoc], hI3, HE2.out.below.trans hb3, hf3, ht3, hn1, hn2, (fun r hr => by
          rcases List.mem_append.1 hr with hr | hr
          · exact Nat.le_succ_of_le (HE2.out.ends r hr)
          · unfold Hu.run1 at hr
            split at hr
            · simp at hr; subst hr; exact Nat.le_succ _
            · cases hr)⟩
        have HS3 := hid (Nat.le_trans HS2.out hb3.size)
        clear hb3 hf3 ht3 hI3 hn1 hn2
        go_wp2_with fail
        go_roundw
        case rel => exact ⟨k + 1, k + 1, _, X', by omega, by omega, by go_num, HE3, HS3⟩
        case measure => simp [intOf]; omega
    · obtain rfl : k = n := by omega
      have HR := hid HE.out.runs
      rw [List.drop_eq_nil_of_le (by have := HN.out; omega), Hu.runsR] at HR
      go_wp2_with fail
      refine (end_any (i := k) HT.out HE.out.inv HE.out.below hB (by omega) (by omega) HE.out.from_ HE.out.take (by have := HTB.out; have := HNE.out; omega) HNE.out.1 HE.out.nf HE.out.nt ⟨[], by rw [List.append_nil]; exact HR.out⟩).mono ?_
      rintro e w3 ⟨rfl, hb3, hf3, ht3, X', hI3, hn1, hn2⟩
      have HB3 := hid (HE.out.below.trans hb3)
      have HI3 := hid hI3
      clear hb3 hf3 ht3 hI3 hn1 hn2
      go_wp2_with fail
      exact bodyPost_end (v := .tuple #[]) (by simp [results, Tryz.results57]) rfl ⟨rfl, HB3.out, X', by rw [HR.out]; exact HI3.out⟩
end Go.Proofs.YtnamioihapnefaaGreatDoor
