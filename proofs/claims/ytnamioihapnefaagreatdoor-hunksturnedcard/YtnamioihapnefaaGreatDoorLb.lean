/-
  The walk of eachRun (hunks): whatever the function does with each run, by what it keeps.
-/
import Derived.Test.YtnamioihapnefaaGreatDoorLa
import Derived.Test.YtnamioihapnefaaGreatDoorGrJ6
namespace Go.Proofs.YtnamioihapnefaaGreatDoor
open Go.RowKit
open Hu (Rw Hk)

/-- of what was there ahead of a call, or is marked, nothing has changed -/
structure Far (E : Nat) (X : Nat → Prop) (w w' : World) : Prop where
  os : w'.os = w.os
  tape : w'.tape = w.tape
  output : w'.output = w.output
  size : w.heap.size ≤ w'.heap.size
  block : ∀ g, g < w.heap.size → (g < E ∨ X g) → w'.heap[g]? = w.heap[g]?
theorem Far.of_below {E : Nat} {X : Nat → Prop} {w w' : World} (h : Below w.heap.size w w') : Far E X w w' := ⟨h.os, h.tape, h.output, h.size, fun g hg _ => h.block g hg⟩
theorem Far.set {E g : Nat} {X : Nat → Prop} {w : World} {k : Nat} {u : Value} (hE : E ≤ g) (hX : ¬ X g) : Far E X w (w.setCell ⟨g, k, none⟩ u) := by
  have h := below_set (k := k) (u := u) (Below.refl 0 w) (Nat.zero_le g)
  exact ⟨h.os, h.tape, h.output, h.size, fun q _ hq => set_other _ (fun e => by
    subst e
    rcases hq with hq | hq
    · omega
    · exact hX hq)⟩
def spV (r : Nat × Nat) : Value := .agg #[.int .i64 (r.1 : Nat), .int .i64 (r.2 : Nat)]
/-- what the function that eachRun is handed must keep to -/
structure Takes (F : FuncId) (caps : Array Value) (B E : Nat) (w0 : World) (rs : List (Nat × Nat)) (I : List (Nat × Nat) → (Nat → Prop) → World → Prop) : Prop where
  ent : ∀ (args : Array Value) (w : World), (callFunc F args).run Tryz.prog w = .ok (.enter F args) w
  far : ∀ d X w1 w2, I d X w1 → Far E X w1 w2 → I d X w2
  ge : ∀ d X w1, I d X w1 → ∀ g, X g → B ≤ g
  step : ∀ d X r w1, I d X w1 → Below B w0 w1 → (∃ rest, rs = d ++ r :: rest) → Calls Tryz.prog F (#[spV r] ++ caps) w1 fun e w2 => e = .returned (.tuple #[]) ∧ Kept X w1 w2 ∧ ∃ X', (∀ g, X' g → X g ∨ w1.heap.size ≤ g) ∧ I (d ++ [r]) X' w2
set_option maxHeartbeats 2000000 in
set_option maxRecDepth 100000 in
theorem end_any {w w0 : World} {fb tb B E : Nat} {f i : Nat} {F : FuncId} {caps : Array Value} {rs : List (Nat × Nat)} {I : List (Nat × Nat) → (Nat → Prop) → World → Prop} (hT : Takes F caps B E w0 rs I) {d : List (Nat × Nat)} {X : Nat → Prop} (hI : I d X w) (hb0 : Below B w0 w) (hB : B ≤ E) (hfi : f ≤ i + 1) (hi : i < 140737488355328)
    (hf : w.heap[fb]? = some (.cells #[.int .i64 f] 3)) (ht : w.cell? ⟨tb, 0, none⟩ = some (.func (.func F) #[] caps)) (hEf : E ≤ fb) (hne : fb ≠ tb) (hXf : ¬ X fb) (hXt : ¬ X tb) (hrs : ∃ rest, rs = d ++ Hu.run1 f i ++ rest) :
    Calls Tryz.prog 96 #[.int .i64 i, .pointer (some ⟨fb, 0, none⟩), .pointer (some ⟨tb, 0, none⟩)] w fun e w' => e = .returned (.tuple #[]) ∧ Below B w w' ∧ w'.heap[fb]? = some (.cells #[.int .i64 ((i + 1 : Nat) : Int)] 3) ∧ w'.cell? ⟨tb, 0, none⟩ = some (.func (.func F) #[] caps) ∧ ∃ X', I (d ++ Hu.run1 f i) X' w' ∧ ¬ X' fb ∧ ¬ X' tb := by
  have c0 : w.cell? ⟨fb, 0, none⟩ = some (.int .i64 f) := cell_of_blk hf 0
  have zf : ∀ j, w.frozen? ⟨fb, j, none⟩ = false := fun j => frozen_of_blk hf j
  have s1 : IntKind.i64.wrap ((i : Int) + 1) = ((i + 1 : Nat) : Int) := (wrapOk (by omega) (by omega)).trans (by omega)
  have HT := hid hT
  have HI := hid hI
  have HF := hid hf
  have HX := hid (And.intro hXf hXt)
  by_cases hlt : f < i
  · have hr1 : Hu.run1 f i = [(f, i)] := by unfold Hu.run1; rw [if_pos hlt]
    have hl : (f : Int) < (i : Int) := by omega
    rw [hr1] at hrs ⊢
    have HC := hid (hT.step d X (f, i) w hI hb0 (by obtain ⟨r, h⟩ := hrs; exact ⟨r, by rw [h]; simp⟩))
    have HENT := hid hT.ent
    have HT0 := hid ht
    unfold spV at HC
    clear hI hf hr1 hrs hT
    go_enter Tryz.func96, Tryz.ntmps96
    go_wp2_with fail
    rw [HENT.out, Oper.upon_enter]
    refine HC.out.mono ?_
    rintro e w2 ⟨rfl, hK, X', hX', hI2⟩
    have HF2 := hid ((hK.block fb (lt_of_heap HF.out) HX.out.1).trans HF.out)
    have HT2 := hid ((hK.cell (lt_of_cell HT0.out) HX.out.2).trans HT0.out)
    have HB2 := hid (hK.below (fun g hg => HT.out.ge _ _ _ HI.out g hg) (Nat.le_trans hB (Nat.le_of_lt (Nat.lt_of_le_of_lt hEf (lt_of_heap HF.out)))))
    have HXn : Hid (¬ X' fb ∧ ¬ X' tb) := hid ⟨fun h => by
      rcases hX' _ h with h | h
      · exact HX.out.1 h
      · have := lt_of_heap HF.out; omega, fun h => by
      rcases hX' _ h with h | h
      · exact HX.out.2 h
      · have := lt_of_cell HT0.out
        have h9 : tb < w.heap.size := this
        omega⟩
    have HI2 := hid hI2
    have y0 : w2.cell? ⟨fb, 0, none⟩ = some (.int .i64 f) := cell_of_blk HF2.out 0
    have zf2 : ∀ j, w2.frozen? ⟨fb, j, none⟩ = false := fun j => frozen_of_blk HF2.out j
    clear hK hX' hI2 c0 zf ht
    go_wp2_with fail
    refine bodyPost_end (v := .tuple #[]) (by simp [results, Tryz.results96]) rfl ⟨rfl, below_set HB2.out (by omega), set_heap _ fb 0 _ _ _ HF2.out, ?_, X', HT.out.far _ _ _ _ HI2.out (Far.set hEf HXn.out.1), HXn.out.1, HXn.out.2⟩
    unfold World.cell?
    rw [show (⟨tb, 0, none⟩ : Addr).block = tb from rfl, set_other _ (Ne.symm hne)]
    exact HT2.out
  · have hr1 : Hu.run1 f i = [] := by unfold Hu.run1; rw [if_neg hlt]
    have hl : ¬ (f : Int) < (i : Int) := by omega
    rw [hr1, List.append_nil]
    have HT0 := hid ht
    have HB2 : Hid (Below B w w) := hid (Below.refl _ _)
    clear hI hf hr1 hrs hT
    go_enter Tryz.func96, Tryz.ntmps96
    go_wp2_with fail
    refine bodyPost_end (v := .tuple #[]) (by simp [results, Tryz.results96]) rfl ⟨rfl, below_set HB2.out (by omega), set_heap _ fb 0 _ _ _ HF.out, ?_, X, HT.out.far _ _ _ _ HI.out (Far.set hEf HX.out.1), HX.out.1, HX.out.2⟩
    unfold World.cell?
    rw [show (⟨tb, 0, none⟩ : Addr).block = tb from rfl, set_other _ (Ne.symm hne)]
    exact HT0.out
theorem two' (w : World) (A C : Obj) : Below w.heap.size w ((w.alloc A).alloc C) ∧ ((w.alloc A).alloc C).heap[w.heap.size]? = some A ∧ ((w.alloc A).alloc C).heap[w.heap.size + 1]? = some C ∧ ((w.alloc A).alloc C).heap.size = w.heap.size + 2 := by
  have h1 := (Below.refl w.heap.size w).alloc (Nat.le_refl _) A
  have h2 : Below (w.alloc A).heap.size (w.alloc A) ((w.alloc A).alloc C) := (Below.refl _ _).alloc (Nat.le_refl _) C
  refine ⟨h1.trans (h2.mono h1.size), (h2.block w.heap.size (by simp)).trans (heap_alloc_new w A), ?_, by simp⟩
  have := heap_alloc_new (w.alloc A) C
  simpa using this
theorem dropW {l : List Rw} {k : Nat} {x : Rw} (h : l[k]? = some x) : l.drop k = x :: l.drop (k + 1) := by
  obtain ⟨h1, h2⟩ := List.getElem?_eq_some_iff.1 h
  rw [List.drop_eq_getElem_cons h1, h2]
/-- what holds between two rounds of eachRun -/
structure ErI (I : List (Nat × Nat) → (Nat → Prop) → World → Prop) (l : List Rw) (F : FuncId) (caps : Array Value) (B fb tb k f : Nat) (w wr : World) (d : List (Nat × Nat)) (X : Nat → Prop) : Prop where
  runs : Hu.runsR l 0 0 = d ++ Hu.runsR (l.drop k) k f
  inv : I d X wr
  below : Below B w wr
  from_ : wr.heap[fb]? = some (.cells #[.int .i64 f] 3)
  take : wr.cell? ⟨tb, 0, none⟩ = some (.func (.func F) #[] caps)
  nf : ¬ X fb
  nt : ¬ X tb
theorem ErI.far {I : List (Nat × Nat) → (Nat → Prop) → World → Prop} {l : List Rw} {F : FuncId} {caps : Array Value} {B fb tb k f E : Nat} {w w0 wr w2 : World} {d : List (Nat × Nat)} {X : Nat → Prop} {rs : List (Nat × Nat)} (h : ErI I l F caps B fb tb k f w wr d X) (hT : Takes F caps B E w0 rs I) (hb : Below wr.heap.size wr w2) (hB : B ≤ wr.heap.size) : ErI I l F caps B fb tb k f w w2 d X :=
  ⟨h.runs, hT.far _ _ _ _ h.inv (Far.of_below hb), h.below.trans (hb.mono hB), (hb.block fb (lt_of_heap h.from_)).trans h.from_, (hb.cell (lt_of_cell h.take)).trans h.take, h.nf, h.nt⟩
set_option maxHeartbeats 2000000 in
set_option maxRecDepth 100000 in
theorem hEachRun_any {w : World} {v : Value} {l : List Rw} {B : Nat} {F : FuncId} {caps : Array Value} {I : List (Nat × Nat) → (Nat → Prop) → World → Prop} (hv : RdW w v l) (hu : Under B v) (hB : B ≤ w.heap.size) (hl : l.length < 5864062014800) (hT : Takes F caps B w.heap.size w (Hu.runsR l 0 0) I) {X0 : Nat → Prop} (h0 : I [] X0 w) (hX0 : ∀ g, X0 g → g < w.heap.size) :
    Calls Tryz.prog 57 #[v, .func (.func F) #[] caps] w fun e w' => e = .returned (.tuple #[]) ∧ Below B w w' ∧ ∃ X, I (Hu.runsR l 0 0) X w' := by
  obtain ⟨a, c, rfl⟩ := hv.shape
  have HV := hid hv
  have HU := hid hu
  have HT := hid hT
  have HI0 := hid h0
  have HX0 := hid hX0
  obtain ⟨n, hn⟩ : ∃ n, n = l.length := ⟨_, rfl⟩
  have HN := hid hn
  rw [← hn] at HV HU hl ⊢
  clear hv hu hT h0 hX0 hn
  go_enter Tryz.func57, Tryz.ntmps57
  go_wp2_with fail
  obtain ⟨t1, t2, t3, t4⟩ := two' w (.cells #[.func (.func F) #[] caps] 97) (.cells #[.int .i64 0] 3)
  have hE0 : ErI I l F caps B (w.heap.size + 1) w.heap.size 0 0 w ((w.alloc (.cells #[.func (.func F) #[] caps] 97)).alloc (.cells #[.int .i64 0] 3)) [] X0 :=
    ⟨rfl, HT.out.far _ _ _ _ HI0.out (Far.of_below t1), t1.mono hB, t3, cell_of_blk t2 0, fun h => by have := HX0.out _ h; omega, fun h => by have := HX0.out _ h; omega⟩
  have hsz : w.heap.size + 2 ≤ ((w.alloc (.cells #[.func (.func F) #[] caps] 97)).alloc (.cells #[.int .i64 0] 3)).heap.size := by rw [t4]; exact Nat.le_refl _
  generalize (w.alloc (.cells #[.func (.func F) #[] caps] 97)).alloc (.cells #[.int .i64 0] 3) = w1 at hE0 hsz ⊢
  clear t1 t2 t3 t4
  have HE0 := hid hE0
  clear hE0
  obtain ⟨tb, htb⟩ : ∃ tb, tb = w.heap.size := ⟨_, rfl⟩
  obtain ⟨fb, hfb⟩ : ∃ fb, fb = tb + 1 := ⟨_, rfl⟩
  have HTB := hid htb
  rw [← htb, ← hfb] at HE0 ⊢
  have HNE : Hid (fb ≠ tb ∧ tb ≤ fb) := hid (by omega)
  clear htb hfb
  go_loopw [11] (fun ii wr => ∃ (k f : Nat) (d : List (Nat × Nat)) (X : Nat → Prop), k ≤ n ∧ f ≤ k ∧ ii = .int .i64 k ∧ Hid (ErI I l F caps B fb tb k f w wr d X) ∧ Hid (w.heap.size ≤ wr.heap.size)) (fun ii _ => n - (intOf ii).toNat)
  case atStart => exact ⟨0, 0, [], X0, Nat.zero_le _, Nat.le_refl _, rfl, HE0, hid (by omega)⟩
  case round =>
    obtain ⟨k, f, d, X, hk, hfk, rfl, HE, HS⟩ := hrel
    by_cases hlt : k < n
    · obtain ⟨x, hx⟩ : ∃ x, l[k]? = some x := ⟨_, List.getElem?_eq_getElem (by have := HN.out; omega)⟩
      obtain ⟨b1, o1, e1, hb1, d0, d1⟩ := rdW_at (HV.out.keep HU.out HE.out.below) hx
      subst e1
      have HR := hid HE.out.runs
      rw [dropW hx, Hu.runsR] at HR
      have i1 : (0 : Int) ≤ (k : Int) := by omega
      have i2 : (k : Int) < (n : Int) := by omega
      have HC1 := hid (fun w1 => isChanged_any x w1)
      unfold RwV at HC1
      have hbn := (Below.refl wr.heap.size wr).alloc (Nat.le_refl _) (.cells #[.int .i64 x.k, .string x.t] 63)
      have HE1 := hid (HE.out.far HT.out hbn (Nat.le_trans hB HS.out))
      have HS1 : Hid (w.heap.size ≤ (wr.alloc (.cells #[.int .i64 x.k, .string x.t] 63)).heap.size) := hid (Nat.le_trans HS.out hbn.size)
      clear hx hb1 hbn HE
      cases hq : Hu.isC x with
      | true =>
        rw [hq, if_pos rfl] at HR
        rw [hq] at HC1
        go_wp2_with fail
        refine (HC1.out _).mono ?_
        rintro e w2 ⟨rfl, h2⟩
        have HE2 := hid (HE1.out.far HT.out h2 (Nat.le_trans hB HS1.out))
        have HS2 := hid (Nat.le_trans HS1.out h2.size)
        clear h2
        go_wp2_with fail
        go_roundw
        case rel => exact ⟨k + 1, f, d, X, by omega, by omega, by go_num, hid ⟨HR.out, HE2.out.inv, HE2.out.below, HE2.out.from_, HE2.out.take, HE2.out.nf, HE2.out.nt⟩, HS2⟩
        case measure => simp [intOf]; omega
      | false =>
        rw [hq, if_neg (by simp)] at HR
        rw [hq] at HC1
        go_wp2_with fail
        refine (HC1.out _).mono ?_
        rintro e w2 ⟨rfl, h2⟩
        have HE2 := hid (HE1.out.far HT.out h2 (Nat.le_trans hB HS1.out))
        have HS2 := hid (Nat.le_trans HS1.out h2.size)
        clear h2 HE1
        go_wp2_with fail
        refine (end_any (i := k) HT.out HE2.out.inv HE2.out.below hB (by omega) (by omega) HE2.out.from_ HE2.out.take (by have := HTB.out; have := HNE.out; omega) HNE.out.1 HE2.out.nf HE2.out.nt ⟨_, by rw [List.append_assoc]; exact HR.out⟩).mono ?_
        rintro e w3 ⟨rfl, hb3, hf3, ht3, X', hI3, hn1, hn2⟩
        have HE3 : Hid (ErI I l F caps B fb tb (k + 1) (k + 1) w w3 (d ++ Hu.run1 f k) X') := hid ⟨by rw [HR.out, List.append_assoc], hI3, HE2.out.below.trans hb3, hf3, ht3, hn1, hn2⟩
        have HS3 := hid (Nat.le_trans HS2.out hb3.size)
        clear hb3 hf3 ht3 hI3 hn1 hn2
        go_wp2_with fail
        go_roundw
        case rel => exact ⟨k + 1, k + 1, _, X', by omega, by omega, by go_num, HE3, HS3⟩
        case measure => simp [intOf]; omega
    · obtain rfl : k = n := by omega
      have HR := hid HE.out.runs
      rw [List.drop_eq_nil_of_le (by have := HN.out; omega), Hu.runsR] at HR
      go_wp2_with fail
      refine (end_any (i := k) HT.out HE.out.inv HE.out.below hB (by omega) (by omega) HE.out.from_ HE.out.take (by have := HTB.out; have := HNE.out; omega) HNE.out.1 HE.out.nf HE.out.nt ⟨[], by rw [List.append_nil]; exact HR.out⟩).mono ?_
      rintro e w3 ⟨rfl, hb3, hf3, ht3, X', hI3, hn1, hn2⟩
      have HB3 := hid (HE.out.below.trans hb3)
      have HI3 := hid hI3
      clear hb3 hf3 ht3 hI3 hn1 hn2
      go_wp2_with fail
      exact bodyPost_end (v := .tuple #[]) (by simp [results, Tryz.results57]) rfl ⟨rfl, HB3.out, X', by rw [HR.out]; exact HI3.out⟩
end Go.Proofs.YtnamioihapnefaaGreatDoor
